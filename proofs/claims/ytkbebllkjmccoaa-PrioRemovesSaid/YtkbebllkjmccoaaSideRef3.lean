/- The document's own side of a book: Cut. Conditions: it lies in memory; good numbers. -/
import Derived.Test.YtkbebllkjmccoaaSideRef2
namespace Go.Proofs.Ytkbebllkjmccoaa
open Go.RowKit Go.WideShapes

theorem set_same {C : Array Value} {i : Nat} {s : Value} (h : C[i]? = some s) : C.setIfInBounds i s = C := by
  apply Array.ext_getElem?
  intro k
  by_cases e : i = k
  · subst e
    have hlt : i < C.size := by
      rcases Nat.lt_or_ge i C.size with h' | h'
      · exact h'
      · rw [Array.getElem?_eq_none h'] at h; cases h
    rw [Array.getElem?_setIfInBounds_self_of_lt hlt, h]
  · rw [Array.getElem?_setIfInBounds_ne e]
theorem get_set {C : Array Value} {i : Nat} {s s' : Value} (h : C[i]? = some s) : (C.setIfInBounds i s')[i]? = some s' := by
  have hlt : i < C.size := by
    rcases Nat.lt_or_ge i C.size with h' | h'
    · exact h'
    · rw [Array.getElem?_eq_none h'] at h; cases h
  exact Array.getElem?_setIfInBounds_self_of_lt hlt
theorem set_set' (C : Array Value) (i : Nat) (s s' : Value) : (C.setIfInBounds i s).setIfInBounds i s' = C.setIfInBounds i s' := by simp
/-- A side lies at place off of block b: its row is a row of its own. -/
abbrev SideHP (b : Nat) (C : Array Value) (ts : TypeId) (s : Value) (L : Ords) (R : HP) : HP := star (Blk b C ts) (star (RowN 28 5 s L.length (cellsO L)) R)
section
variable {F0 : Nat → Prop} {w0 w w' : World} {b off : Nat} {C : Array Value} {ts : TypeId} {s : Value} {L : Ords} {R : HP}
/-- A new row takes the place of the old one. -/
theorem Turns.row_new [hR : Stable R] (h : Turns F0 w0 w (SideHP b C ts s L R)) {v : Value} {M : Ords} (hown : w'.ownsRow 0 28 5 v M.length (cellsO M)) (hb : Below w.heap.size w w') (hlo : ∀ k, v.ownBlock = some k → w.heap.size ≤ k) :
    Turns F0 w0 w' (SideHP b C ts v M R) := by
  have h1 : Turns F0 w0 w (star (Blk b C ts) R) := h.swap.snd
  have h2 := h1.add (Q := RowN 28 5 v M.length (cellsO M)) (w' := w') hb (F := fun k => v.ownBlock = some k) ⟨hown, fun _ => Iff.rfl⟩ hlo
  exact h2.swap
end
theorem cellsO_setqty {h : OrdV} {t : Ords} (q : Int) : (cellsO (h :: t)).set 4 (.int .u64 q) = cellsO ({ h with qty := q } :: t) := rfl

set_option maxRecDepth 100000 in
set_option maxHeartbeats 8000000 in
theorem rcut_any {F0 : Nat → Prop} {w0 w : World} {b off : Nat} {C : Array Value} {ts : TypeId} {s : Value} {L : Ords} {R : HP} [hR : Stable R] (n : Int) (h : Turns F0 w0 w (SideHP b C ts s L R)) (hs : C[off + 1]? = some s) (hl : L.length ≤ 100000) (hok : ∀ o ∈ L, o.ok) (hn : U64 n) :
    Calls Try.prog 18 #[.pointer (some ⟨b, off, none⟩), .int .u64 n] w fun e w' => e = .returned (.tuple #[]) ∧ ∃ s', Turns F0 w0 w' (SideHP b (C.setIfInBounds (off + 1) s') ts s' (cutQ n L) R) := by
  obtain ⟨_, hlt, hc, hf⟩ := h.blk
  have c1 := hc (off + 1) s hs
  have f1 := hf (off + 1)
  have hrow := h.swap.rowN
  obtain ⟨A, cap, rfl⟩ := rowN_form hrow
  have HH := Lib.hid h; have HS := Lib.hid hs
  rcases L with _ | ⟨x, t⟩
  · clear h hc hf hs hrow hl hok hn
    have c1 : w.cell? ⟨b, off + 1, none⟩ = some (.slice A 0 cap) := c1
    go_enter Try.func18, Try.ntmps18
    go_wp2_with fail
    go_end0
    exact ⟨rfl, .slice A (List.length ([] : Ords)) cap, by rw [set_same HS.out]; exact HH.out⟩
  · obtain ⟨g, rfl, hg, r0, r1, r2, r3, r4⟩ := row_ord hrow (i := 0) (by simp)
    have hx := hok x (by simp)
    obtain ⟨x1, x2, x3, x4, x5⟩ := x
    simp only [Nat.zero_mul, Nat.zero_add, List.getElem_cons_zero] at r4
    obtain ⟨m, hm⟩ : ∃ m, ((⟨x1, x2, x3, x4, x5⟩ : OrdV) :: t).length = m := ⟨_, rfl⟩
    have hm0 : 0 < m := by rw [← hm]; simp
    rw [hm] at c1 hl
    have hx5 : U64 x5 := hx.2.2.2
    by_cases hle : n ≤ x5
    · have b1 : decide (n ≤ x5) = true := decide_eq_true hle
      have hwr : IntKind.u64.wrap (x5 - n) = x5 - n := IntWalk.u64_in _ (by omega)
      have hcq : cutQ n ((⟨x1, x2, x3, x4, x5⟩ : OrdV) :: t) = ⟨x1, x2, x3, x4, x5 - n⟩ :: t := by rw [cutQ_cons, if_pos hle]
      obtain ⟨ii, hi, hz0, hz1, hz2⟩ := info_parts ord_info
      have k1 : 0 + m ≤ maxLen := by unfold maxLen; omega
      have k2 : (0 + m) * 40 ≤ 140737488355328 := by omega
      rw [hm] at hrow
      have HR := Lib.hid hrow; have HM := Lib.hid hm; have HCQ := Lib.hid hcq
      have hemp : (w.alloc (.cells #[] 28)).ownsRow w.heap.size 28 5 (.slice (some ⟨w.heap.size, 0, none⟩) 0 0) 0 [] := World.ownsRow_lit w #[] 0 (Nat.le_refl _) (by unfold maxLen; omega) rfl
      have HE := Lib.hid hemp
      have hcells : ∀ j u, (cellsO (⟨x1, x2, x3, x4, x5⟩ :: t))[j]? = some u → (w.alloc (.cells #[] 28)).cell? ((⟨g, 0, none⟩ : Addr).add j) = some u := (HR.out.alloc _).cells rfl
      have HCE := Lib.hid hcells
      have hlen5 : (cellsO (⟨x1, x2, x3, x4, x5⟩ :: t)).length = m * 5 := by rw [cellsO_length, HM.out]
      have HL5 := Lib.hid hlen5
      clear h hc hf hs hrow hok hx hm hcq hemp hcells hlen5 r0 r1 r2 r3
      go_enter Try.func18, Try.ntmps18
      go_wp2_with (at_builtin; go_loud (refine wpList_append_here rfl (.tmp 22) (.tmp 26) 35 rfl w.heap.size 28 ii (.agg #[.int .i64 0, .int .i64 0, .bool false, .int .u64 0, .int .u64 0]) 5 40 Try.underlying35 hi hz0 hz1 hz2 rfl (by decide) _ 0 [] rfl HE.out ⟨g, 0, none⟩ m cap (cellsO (⟨x1, x2, x3, x4, x5⟩ :: t)) rfl HL5.out HCE.out (cellsO_one _) k1 k2 (by simp) ?_); intro v' w2 hown hgr hfr; have h2 := HH.out.row_new (w' := w2) (v := v') (M := ⟨x1, x2, x3, x4, x5⟩ :: t) (by rw [HM.out]; rw [Nat.zero_add, List.nil_append] at hown; exact ⟨hown.1, hown.2.imp_right fun ⟨g, cap, cur, e, hg, r⟩ => ⟨g, cap, cur, e, Nat.zero_le _, r⟩⟩) (((Below.refl _ w).alloc (Nat.le_refl _) _).grown hgr (by simp) (fun k hk => by cases hk; exact Nat.le_refl _)) (fun k hk => (hown.lt k hk).1); rw [Nat.zero_add] at hown; obtain ⟨g2, cap2, rfl⟩ := ownN_shape hown (by omega); obtain ⟨_, lt2, q2, z2⟩ := h2.blk; have c2 := q2 (off + 1) _ HS.out; have z2 := z2 (off + 1); have H2 := Lib.hid h2; clear h2 hown hgr hfr q2)
      have h3 := H2.out.blk_set (off + 1) (.slice (some ⟨g2, 0, none⟩) m cap2)
      generalize w2.setCell ⟨b, off + 1, none⟩ (.slice (some ⟨g2, 0, none⟩) m cap2) = w3 at h3 ⊢
      obtain ⟨_, lt3, q3, _⟩ := h3.blk
      have c3 := q3 (off + 1) _ (get_set HS.out)
      have hrow3 := h3.swap.rowN
      rw [HM.out] at hrow3
      obtain ⟨g3, e3, _, _, _, _, _, s4⟩ := row_ord hrow3 (i := 0) (by simp)
      injection e3 with e3
      injection e3 with e3 _ _
      subst e3
      simp only [Nat.zero_mul, Nat.zero_add, List.getElem_cons_zero] at s4
      have z4 := hrow3.frozenAt 4
      have h4 := h3
      have H3 := Lib.hid h3
      have h4 := (H3.out.swap)
      rw [HM.out] at h4
      have h5 := h4.rowN_set 4 (.int .u64 (x5 - n))
      rw [cellsO_setqty] at h5
      have H5 := Lib.hid h5
      clear h3 h4 h5 hrow3 q3 c2 z2 c1 f1 r4
      go_region_with fail
      all_goals
        go_wp2_with fail
        go_end0
        refine ⟨rfl, .slice (some ⟨g2, 0, none⟩) m cap2, ?_⟩
        rw [HCQ.out]
        have := H5.out.swap.drew
        have hm2 : ((⟨x1, x2, x3, x4, x5 - n⟩ : OrdV) :: t).length = m := HM.out
        unfold SideHP
        rw [hm2]
        exact this
    · have b1 : decide (n ≤ x5) = false := decide_eq_false hle
      have hcq : cutQ n ((⟨x1, x2, x3, x4, x5⟩ : OrdV) :: t) = ⟨x1, x2, x3, x4, x5⟩ :: t := by rw [cutQ_cons, if_neg hle]
      have HCQ := Lib.hid hcq; have HM := Lib.hid hm
      clear h hc hf hs hrow hok hx hm hcq r0 r1 r2 r3 hle
      go_enter Try.func18, Try.ntmps18
      go_wp2_with fail
      go_end0
      exact ⟨rfl, _, by rw [HCQ.out, set_same HS.out]; exact HH.out⟩
end Go.Proofs.Ytkbebllkjmccoaa
