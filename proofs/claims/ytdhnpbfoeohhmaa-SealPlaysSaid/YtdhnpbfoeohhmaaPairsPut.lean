/- The document's own rows of who did what: Put; and the thing as it lies apart. Conditions: the rows lie in memory and have at most a million things. -/
import Derived.Test.YtdhnpbfoeohhmaaPairsHas
namespace Go.Proofs.Ytdhnpbfoeohhmaa
open Go.RowKit Go.WideShapes

theorem pair_new (w : World) (p : Int × Int) (t : TypeId) : ∀ j u, (cellsP [p])[j]? = some u → (w.alloc (.cells #[.int .i64 p.1, .int .i64 p.2] t)).cell? ((⟨w.heap.size, 0, none⟩ : Addr).add j) = some u := by
  intro j u hj
  match j, hj with
  | 0, hj => simp [cellsP] at hj; subst hj; simp [Addr.add]
  | 1, hj => simp [cellsP] at hj; subst hj; simp [Addr.add]

/-- The pairs of a struct's field: they lie at place off of block b. -/
def PairsAt (b : Nat) (C : Array Value) (ts : TypeId) (s : Value) (L : List (Int × Int)) : HP := star (Blk b C ts) (RowN 73 2 s L.length (cellsP L))
instance PairsAt.stable (b : Nat) (C : Array Value) (ts : TypeId) (s : Value) (L : List (Int × Int)) : Stable (PairsAt b C ts s L) := by unfold PairsAt; infer_instance

set_option maxRecDepth 100000 in
set_option maxHeartbeats 4000000 in
theorem rput_any {w : World} {b off : Nat} {C : Array Value} {ts : TypeId} {s : Value} {L : List (Int × Int)} {F : Nat → Prop} (who what : Int) (h : PairsAt b C ts s L w F) (hC : C[off]? = some s) (hL : L.length ≤ 1000000) :
    Calls Try.prog 27 #[.pointer (some ⟨b, off, none⟩), .int .i64 who, .int .i64 what] w fun e w' => e = .returned (.tuple #[]) ∧ ∃ s', Turns F w w' (PairsAt b (C.setIfInBounds off s') ts s' (signAdd L (who, what))) := by
  obtain ⟨i0, hi, hz0, hz1, hz2⟩ := info_parts pair_info
  have h0 := Turns.begin h
  obtain ⟨hb, hlt, hc, hfz⟩ := Turns.blk h0
  have hrow := h0.comm.rowN
  obtain ⟨As, cs, rfl⟩ := rowN_form hrow
  have c0 := hc off _ hC
  have f0 := hfz off
  have HH := Lib.hid h0; have HR := Lib.hid hrow; have HC := Lib.hid hC; have HP := Lib.hid h
  have K := Lib.hid (rhas_any who what c0 hrow hL)
  obtain ⟨nl, hn⟩ : ∃ k, L.length = k := ⟨_, rfl⟩
  have HN := Lib.hid hn
  rw [hn] at hL c0
  clear h h0 hb hc hfz hrow hC
  by_cases hm : (who, what) ∈ L
  · rw [decide_eq_true hm] at K
    have e1 : C.setIfInBounds off (.slice As L.length cs) = C := by
      apply Array.ext_getElem?
      intro i
      by_cases e : off = i
      · subst e
        have hlt : off < C.size := by
          rcases Nat.lt_or_ge off C.size with h | h
          · exact h
          · have := HC.out; rw [Array.getElem?_eq_none h] at this; cases this
        rw [Array.getElem?_setIfInBounds_self_of_lt hlt, HC.out]
      · rw [Array.getElem?_setIfInBounds_ne e]
    have E1 := Lib.hid e1; have HM := Lib.hid hm
    clear e1 hm hn
    rw [HN.out] at HP E1
    go_enter Try.func27, Try.ntmps27
    go_wp2_with fail
    refine K.out.mono ?_
    rintro e w2 ⟨rfl, rfl⟩
    go_wp2_with fail
    go_end0
    refine ⟨rfl, .slice As nl cs, ?_⟩
    rw [signAdd_old HM.out, E1.out]
    exact Turns.begin HP.out
  · rw [decide_eq_false hm] at K
    have HM := Lib.hid hm
    clear hm hn
    unfold PairsAt at HH
    rw [HN.out] at HH HR
    have c1 : nl + 1 ≤ maxLen := by unfold maxLen; omega
    have c2 : (nl + 1) * 16 ≤ 140737488355328 := by omega
    go_enter Try.func27, Try.ntmps27
    go_wp2_with fail
    refine K.out.mono ?_
    rintro e w2 ⟨rfl, rfl⟩
    clear K
    go_wp2_with (at_builtin; refine wpList_append_here rfl (.tmp 15) (.tmp 19) 42 rfl 0 73 i0 (.agg #[.int .i64 0, .int .i64 0]) 2 16 Try.underlying42 hi hz0 hz1 hz2 rfl (by decide) _ nl (cellsP L) rfl (HR.out.alloc _) ⟨w2.heap.size, 0, none⟩ 1 1 (cellsP [(who, what)]) rfl rfl (pair_new w2 (who, what) _) (cellsP_one _) c1 c2 (Nat.zero_le _) ?_; intro v' w1 hown hgr hfr; have h1 := ((HH.out.alloc _).comm.rowN_grow hown hgr hfr).comm; obtain ⟨g, cap', rfl⟩ := ownN_shape hown (Nat.succ_ne_zero _); obtain ⟨_, lt1, hc1, hf1⟩ := Turns.blk h1; have c01 := hc1 off _ HC.out; have f01 := hf1 off; have H1 := Lib.hid h1; clear h1 hown hgr hfr hc1 hf1)
    have h2 := H1.out.blk_set off (.slice (some ⟨g, 0, none⟩) (nl + 1) cap')
    go_wp2_with fail
    go_end0
    refine ⟨rfl, .slice (some ⟨g, 0, none⟩) (nl + 1) cap', ?_⟩
    rw [signAdd_new HM.out, PairsAt, List.length_append, cellsP_append, HN.out]
    exact h2

/-- v points to pairs of its own. -/
def IsPairs (v : Value) (L : List (Int × Int)) : HP := fun w F => ∃ b s, v = .pointer (some ⟨b, 0, none⟩) ∧ PairsAt b #[s] 44 s L w F
instance IsPairs.stable (v : Value) (L : List (Int × Int)) : Stable (IsPairs v L) := by unfold IsPairs; infer_instance
theorem IsPairs.made (w : World) : IsPairs (.pointer (some ⟨w.heap.size, 0, none⟩)) [] (w.alloc (.cells #[.slice none 0 0] 44)) (fun k => k = w.heap.size) :=
  ⟨w.heap.size, .slice none 0 0, rfl, fun k => k = w.heap.size, fun _ => False, Blk.made w _ _, RowN.none _ _ _, fun _ _ h => h, fun k => by simp⟩
section
variable {F0 : Nat → Prop} {w0 w : World} {v : Value} {L : List (Int × Int)} {R : HP}
theorem Turns.pairs (h : Turns F0 w0 w (star (IsPairs v L) R)) : ∃ b s, v = .pointer (some ⟨b, 0, none⟩) ∧ w.cell? ⟨b, 0, none⟩ = some s ∧ b < w.heap.size ∧ w.ownsRow 0 73 2 s L.length (cellsP L) := by
  obtain ⟨F, ⟨A, B, ⟨b, s, hv, hp⟩, _⟩, _⟩ := h
  have hp' := Turns.begin hp
  obtain ⟨_, h2, h3, _⟩ := Turns.blk hp'
  exact ⟨b, s, hv, h3 0 s rfl, h2, hp'.comm.rowN⟩
theorem Turns.rhas (h : Turns F0 w0 w (star (IsPairs v L) R)) (who what : Int) (hL : L.length ≤ 1000000) :
    Calls Try.prog 32 #[v, .int .i64 who, .int .i64 what] w fun e w' => e = .returned (.bool (decide ((who, what) ∈ L))) ∧ w' = w := by
  obtain ⟨b, s, rfl, hc, _, hs⟩ := h.pairs
  exact rhas_any who what hc hs hL
theorem Turns.rall (h : Turns F0 w0 w (star (IsPairs v L) R)) (what : Int) (hL : L.length ≤ 1000000) :
    Calls Try.prog 28 #[v, .int .i64 what] w fun e w' => ∃ x, e = .returned x ∧ w'.ownsRow w.heap.size 3 1 x (allOf L what).length (cellsI (allOf L what)) ∧ Below w.heap.size w w' := by
  obtain ⟨b, s, rfl, hc, hb, hs⟩ := h.pairs
  exact rall_any what hc hb hs hL
theorem Turns.rput (h : Turns F0 w0 w (star (IsPairs v L) R)) [hR : Stable R] (who what : Int) (hL : L.length ≤ 1000000) :
    Calls Try.prog 27 #[v, .int .i64 who, .int .i64 what] w fun e w' => e = .returned (.tuple #[]) ∧ Turns F0 w0 w' (star (IsPairs v (signAdd L (who, what))) R) := by
  refine (h.call (Q := fun e w' F => e = .returned (.tuple #[]) ∧ IsPairs v (signAdd L (who, what)) w' F) (fun F hp => ?_)).mono ?_
  · obtain ⟨b, s, rfl, hp⟩ := hp
    refine (rput_any who what hp rfl hL).mono ?_
    rintro e w' ⟨he, s', F', h1, h2, h3⟩
    exact ⟨F', ⟨he, b, s', rfl, h1⟩, h2, h3⟩
  · rintro e w' hs
    obtain ⟨F, ⟨A', B', ⟨he, hp⟩, r⟩, r2⟩ := hs
    exact ⟨he, F, ⟨A', B', hp, r⟩, r2⟩
end
end Go.Proofs.Ytdhnpbfoeohhmaa
