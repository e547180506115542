/- The accounts' calls keep their contracts: Sum and Copy. Conditions: accounts that New or Copy made. -/
import Derived.Test.YtnicfhafepiknaaAcctCalls
namespace Go.Proofs.Ytnicfhafepiknaa
open Go.RowKit Go.WideShapes

theorem tot_side (X : Accts) (s : Int) : tot (X.map (side s)) = total X s := by
  unfold total
  induction X with
  | nil => rfl
  | cons p X ih => simp [tot, ih]
theorem side_0 : side 0 = Prod.fst := by funext p; rfl
theorem side_1 : side 1 = Prod.snd := by funext p; rfl
theorem words_fst {X : Accts} (h : GoodA X) : Words (X.map Prod.fst) := by
  intro x hx
  obtain ⟨p, hp, rfl⟩ := List.mem_map.1 hx
  exact ⟨(h p hp).1.1, (h p hp).1.2⟩
theorem words_snd {X : Accts} (h : GoodA X) : Words (X.map Prod.snd) := by
  intro x hx
  obtain ⟨p, hp, rfl⟩ := List.mem_map.1 hx
  exact ⟨(h p hp).2.1, (h p hp).2.2⟩
section
variable {F0 : Nat → Prop} {w0 w : World} {R : HP}
/-- A row of numbers, as chk.Sum reads it. -/
theorem ru_lies {x : Value} {l : List Int} (h : Turns F0 w0 w (star (RU x l.length l) R)) : ∃ A cap, x = .slice A l.length cap ∧ Lies w A l := by
  obtain ⟨A, cap, h1, _, _, h2⟩ := h.rv
  refine ⟨A, cap, h1, ?_⟩
  rcases h2 with h2 | ⟨g, off, rfl, _, hc⟩
  · exact Or.inl (cells64_nil.1 h2)
  · refine Or.inr ⟨g, off, rfl, fun j hj => ?_⟩
    rw [(hc j (by rw [cells64_length]; exact hj)).1, cells64_at hj]
    simp [List.getD, List.getElem?_eq_getElem hj]
end

section
variable {w : World} {v : Value} {X : Accts} {F : Nat → Prop}
theorem sum_row {F0 : Nat → Prop} {w0 : World} {R : HP} {x : Value} {s : Int} (hs : s = 0 ∨ s = 1) (hl : X.length ≤ 1000) (hg : GoodA X) (h : Turns F0 w0 w (star (RU x X.length (X.map (side s))) R)) :
    ∃ A cap, x = .slice A X.length cap ∧ Calls Try.prog 38 #[.slice A X.length cap] w fun e w' => e = .returned (.tuple #[.int .u64 (sumV X s), .bool (sumOk X s)]) ∧ w = w' := by
  have hn : X.length = (X.map (side s)).length := by simp
  rw [hn] at h
  obtain ⟨A, cap, e, hlies⟩ := ru_lies h
  refine ⟨A, cap, by rw [← hn] at e; exact e, ?_⟩
  have hw : Words (X.map (side s)) := by
    rcases hs with rfl | rfl
    · rw [side_0]; exact words_fst hg
    · rw [side_1]; exact words_snd hg
  have K := sum_any A cap (X.map (side s)) w hw (by rw [← hn]; omega) hlies
  rw [← hn, tot_side] at K
  have e1 : sumOk X s = fits (total X s) := by
    unfold sumOk fits
    exact decide_eq_decide.2 ⟨fun h => h.2, fun h => ⟨hs, h⟩⟩
  have e2 : sumV X s = kept (total X s) := by
    unfold sumV kept
    rw [e1]; unfold fits; simp only [decide_eq_true_eq]
  rw [e1, e2]
  exact K

set_option maxRecDepth 100000 in
set_option maxHeartbeats 4000000 in
theorem acc_sum (s : Int) (h : IsAcct v X w F) :
    Calls Try.prog 13 #[v, .int .i64 s] w fun e w' => e = .returned (.tuple #[.int .u64 (sumV X s), .bool (sumOk X s)]) ∧ Below w.heap.size w w' := by
  obtain ⟨b, s0, s1, ⟨rfl, hl, hg⟩, h⟩ := h
  have h0 := Turns.begin h
  obtain ⟨A0, c0, A1, c1, e0, e1, _, k0, k1⟩ := AccB.facts h0
  by_cases hs : s = 0 ∨ s = 1
  · have K := isasset_any s w
    rw [decide_eq_true hs] at K
    have K := Lib.hid K
    rcases hs with rfl | rfl
    · have hr : Turns F w w (star (RU s0 X.length (X.map (side 0))) (star (Blk b #[s0, s1] 62) (RU s1 X.length (X.map Prod.snd)))) := by rw [side_0]; exact h0.swap
      obtain ⟨A, cap, e2, S⟩ := sum_row (Or.inl rfl) hl hg hr
      rw [e0] at e2
      injection e2 with e3 _ e4
      subst e3; subst e4
      have S := Lib.hid S
      clear h h0 hr hg hl e0 e1
      generalize sumV X 0 = x at S ⊢
      generalize sumOk X 0 = y at S ⊢
      generalize X.length = n at k0 k1 S
      go_enter Try.func13, Try.ntmps13
      go_wp2_with fail
      refine K.out.mono ?_
      rintro e w2 ⟨rfl, rfl⟩
      go_wp2_with fail
      refine S.out.mono ?_
      rintro e w2 ⟨rfl, rfl⟩
      go_wp2_with fail
      go_ret2
      exact ⟨rfl, Below.refl _ _⟩
    · have hr : Turns F w w (star (RU s1 X.length (X.map (side 1))) (star (Blk b #[s0, s1] 62) (RU s0 X.length (X.map Prod.fst)))) := by rw [side_1]; exact h0.assoc'.comm
      obtain ⟨A, cap, e2, S⟩ := sum_row (Or.inr rfl) hl hg hr
      rw [e1] at e2
      injection e2 with e3 _ e4
      subst e3; subst e4
      have S := Lib.hid S
      clear h h0 hr hg hl e0 e1
      generalize sumV X 1 = x at S ⊢
      generalize sumOk X 1 = y at S ⊢
      generalize X.length = n at k0 k1 S
      go_enter Try.func13, Try.ntmps13
      go_wp2_with fail
      refine K.out.mono ?_
      rintro e w2 ⟨rfl, rfl⟩
      go_wp2_with fail
      refine S.out.mono ?_
      rintro e w2 ⟨rfl, rfl⟩
      go_wp2_with fail
      go_ret2
      exact ⟨rfl, Below.refl _ _⟩
  · have K := isasset_any s w
    rw [decide_eq_false hs] at K
    have K := Lib.hid K
    have e1 : sumOk X s = false := decide_eq_false fun h => hs h.1
    have e2 : sumV X s = 0 := by unfold sumV; rw [e1]; rfl
    rw [e1, e2]
    clear h h0 hg hl hs e1 e2
    go_enter Try.func13, Try.ntmps13
    go_wp2_with fail
    refine K.out.mono ?_
    rintro e w2 ⟨rfl, rfl⟩
    go_wp2_with fail
    go_ret2
    exact ⟨rfl, Below.refl _ _⟩

/-! ### slices.Clone -/
theorem uint64_info : (Try.prog.info? 26).map (fun i => (i.zero, i.size, i.bytes)) = some (some (.int .u64 0), 1, 8) := by kernel_rfl
theorem slice_some_nil (a : Addr) (n cap : Nat) (w : World) : (binOp .eql 33 (.slice (some a) n cap) (.slice none 0 0)).run Try.prog w = .ok (.bool false) w := by kernel_rfl
theorem slice_nil_nil (w : World) : (binOp .eql 33 (.slice none 0 0) (.slice none 0 0)).run Try.prog w = .ok (.bool true) w := by kernel_rfl
set_option maxRecDepth 100000 in
set_option maxHeartbeats 4000000 in
theorem clone_any {x : Value} {l : List Int} (h : RU x l.length l w F) (hl : l.length ≤ 1000000) :
    Calls Try.prog 39 #[x] w fun e w' => ∃ y G, e = .returned y ∧ RU y l.length l w' G ∧ (∀ k, G k → w.heap.size ≤ k) ∧ Below w.heap.size w w' := by
  obtain ⟨i0, hi, hz0, hz1, hz2⟩ := info_parts uint64_info
  have h0 := (Turns.begin h).pad
  obtain ⟨A, cap, rfl, hnc, hA, hr⟩ := h0.rv
  rcases A with _ | a
  · have hc := hA rfl
    subst hc
    have hl0 : l.length = 0 := by omega
    obtain rfl := List.eq_nil_of_length_eq_zero hl0
    clear h h0 hr hA hnc hl
    have heq := slice_nil_nil w
    go_enter Try.func39, Try.ntmps39
    go_wp2_with fail
    go_ret
    exact ⟨_, _, rfl, RV.nil _, fun _ h => h.elim, Below.refl _ _⟩
  · have hcl : ∀ j u, (cells64 l)[j]? = some u → (w.alloc (.cells #[] 26)).cell? (a.add j) = some u := by
      intro j u hj
      have hlt : j < (cells64 l).length := by
        rcases Nat.lt_or_ge j (cells64 l).length with h1 | h1
        · exact h1
        · rw [List.getElem?_eq_none h1] at hj; cases hj
      rcases hr with hr | ⟨g, off, ha, hg, hc⟩
      · rw [hr] at hlt; cases hlt
      · obtain rfl := Option.some.inj ha
        rw [List.getElem?_eq_getElem hlt] at hj
        rw [((Below.refl w.heap.size w).alloc (Nat.le_refl _) _).cell (by rw [block_add]; exact hg), add_plain, (hc j hlt).1, hj]
    have hown : (w.alloc (.cells #[] 26)).ownsRow w.heap.size 26 1 (.slice (some ⟨w.heap.size, 0, none⟩) 0 0) 0 [] :=
      ⟨rfl, Or.inr ⟨w.heap.size, 0, #[], rfl, Nat.le_refl _, heap_alloc_new w _, by simp⟩⟩
    have HC := Lib.hid hcl; have HO := Lib.hid hown
    have m1 : 0 + l.length ≤ maxLen := by unfold maxLen; omega
    have m2 : (0 + l.length) * 8 ≤ 140737488355328 := by omega
    obtain ⟨n, hn⟩ : ∃ n, l.length = n := ⟨_, rfl⟩
    have HN := Lib.hid hn
    rw [hn] at m1 m2 ⊢
    clear h h0 hr hcl hnc hA hl hn hown
    have heq := slice_some_nil a n cap w
    go_enter Try.func39, Try.ntmps39
    go_wp2_with (at_builtin; refine wpList_append_here rfl (.tmp 5) (.tmp 6) 33 rfl w.heap.size 26 i0 (.int .u64 0) 1 8 Try.underlying33 hi hz0 hz1 hz2 rfl (by decide) (.slice (some ⟨w.heap.size, 0, none⟩) 0 0) 0 [] rfl HO.out a n cap (cells64 l) rfl (by rw [cells64_length, HN.out, Nat.mul_one]) HC.out (cells64_one l) m1 m2 (by simp) ?_; intro v' w1 hown hgr hfr; have H1 := Lib.hid hown; have H2 := Lib.hid hgr; clear hown hgr hfr)
    go_ret
    have hown := H1.out
    rw [Nat.zero_add, List.nil_append] at hown
    obtain ⟨G, hv, hG⟩ := RV.of hown
    refine ⟨_, G, rfl, hv, hG, ?_⟩
    have hgr := H2.out
    exact ⟨hgr.os, hgr.tape, hgr.output, by have := hgr.size; simp at this; omega, fun k hk => (hgr.block k (by simp; omega) (by simp [Value.ownBlock]; omega)).trans (heap_alloc_old w _ hk)⟩
theorem clone_row {F0 : Nat → Prop} {w0 w : World} {P : HP} {x : Value} {n : Nat} {l : List Int} (h : Turns F0 w0 w P) [hP : Stable P] (hx : ∃ G, RU x n l w G) (hn : l.length = n) (hl : n ≤ 1000) :
    Calls Try.prog 39 #[x] w fun e w' => ∃ y, e = .returned y ∧ Turns F0 w0 w' (star (RU y n l) P) := by
  obtain ⟨G, hx⟩ := hx
  subst hn
  refine (clone_any hx (by omega)).mono ?_
  rintro e w' ⟨y, G', he, hy, hG, hb⟩
  exact ⟨y, he, h.add hb hy hG⟩

/-! ### Copy -/
/-- The second accounts on their way: of the first k assets. -/
def CpAt (b b2 : Nat) (s0 s1 : Value) (X : Accts) (k : Int) : HP := fun w F =>
  (k = 0 ∧ star (Blk b2 #[.slice none 0 0, .slice none 0 0] 62) (AccB b s0 s1 X) w F) ∨
  (k = 1 ∧ ∃ y0, star (Blk b2 #[y0, .slice none 0 0] 62) (star (RU y0 X.length (X.map Prod.fst)) (AccB b s0 s1 X)) w F) ∨
  (k = 2 ∧ ∃ y0 y1, star (Blk b2 #[y0, y1] 62) (star (RU y1 X.length (X.map Prod.snd)) (star (RU y0 X.length (X.map Prod.fst)) (AccB b s0 s1 X))) w F)
theorem acc_rows {F0 : Nat → Prop} {w0 w : World} {b : Nat} {s0 s1 : Value} {X : Accts} (h : Turns F0 w0 w (AccB b s0 s1 X)) : (∃ G, RU s0 X.length (X.map Prod.fst) w G) ∧ ∃ G, RU s1 X.length (X.map Prod.snd) w G := by
  obtain ⟨F, ⟨A, B, _, ⟨C, D, h1, h2, _⟩, _⟩, _⟩ := h
  exact ⟨⟨C, h1⟩, ⟨D, h2⟩⟩
theorem arr_index0 (x y : Value) (w : World) : (Instr.index 60 (.agg #[x, y]) (.int .i64 0)).run Try.prog w = .ok x w := by kernel_rfl
theorem arr_index1 (x y : Value) (w : World) : (Instr.index 60 (.agg #[x, y]) (.int .i64 1)).run Try.prog w = .ok y w := by kernel_rfl
set_option maxRecDepth 100000 in
set_option maxHeartbeats 8000000 in
theorem acc_copy (h : IsAcct v X w F) :
    Calls Try.prog 16 #[v] w fun e w' => ∃ p, e = .returned (.pointer (some p)) ∧ Turns F w w' (star (IsAcct (.pointer (some p)) X) (IsAcct v X)) := by
  obtain ⟨b, s0, s1, ⟨rfl, hl, hg⟩, h⟩ := h
  have h0 := Turns.begin h
  obtain ⟨A0, c0, A1, c1, e0, e1, hb, k0, k1⟩ := AccB.facts h0
  have h1 := h0.add (w' := w.alloc (.cells #[.slice none 0 0, .slice none 0 0] 62)) ((Below.refl _ _).alloc (Nat.le_refl _) _) (Blk.made _ _ _) (fun k hk => by rw [hk]; exact Nat.le_refl _)
  have k0' := (((Below.refl w.heap.size w).alloc (Nat.le_refl _) (.cells #[.slice none 0 0, .slice none 0 0] 62)).cell (p := ⟨b, 0, none⟩) hb).trans k0
  have k1' := (((Below.refl w.heap.size w).alloc (Nat.le_refl _) (.cells #[.slice none 0 0, .slice none 0 0] 62)).cell (p := ⟨b, 1, none⟩) hb).trans k1
  obtain ⟨n, hn⟩ : ∃ n, X.length = n := ⟨_, rfl⟩
  have HN := Lib.hid hn
  rw [hn] at k0 k1 k0' k1' e0 e1
  subst e0; subst e1
  have H1 := Lib.hid h1; have HL := Lib.hid hl; have HG := Lib.hid hg
  clear h h0 h1 hl hg hn
  go_enter Try.func16, Try.ntmps16
  go_wp2_with fail
  go_loopw [12] (fun i wr => ∃ k : Int, i = .int .i64 k ∧ Turns F w wr (CpAt b w.heap.size (.slice A0 n c0) (.slice A1 n c1) X k)) (fun i _ => (2 - intOf i).toNat)
  case atStart => exact ⟨0, rfl, H1.out.imp fun _ hp => Or.inl ⟨rfl, hp⟩⟩
  case round =>
    obtain ⟨k, rfl, F', hk, hr⟩ := hrel
    rcases hk with ⟨rfl, hp⟩ | ⟨rfl, y0, hp⟩ | ⟨rfl, y0, y1, hp⟩
    · have h2 : Turns F w wr _ := ⟨F', hp, hr⟩
      clear hp hr
      have KC := Lib.hid (clone_row h2.drew (acc_rows h2.drew.snd).1 (by rw [List.length_map]) HL.out)
      clear h2
      have hix := arr_index0 (.slice A0 n c0) (.slice A1 n c1) wr
      go_wp2_with fail
      go_region_law ((go_simp; go_at_call 39; refine KC.out.mono ?_; rintro e w2 ⟨y, rfl, ht⟩; obtain ⟨Ay, cy, ey, _⟩ := ht.rv; subst ey; have h3 := ht.swap; obtain ⟨_, lt3, hc3, hf3⟩ := Turns.blk h3; have c3 := hc3 0 _ rfl; have f3 := hf3 0; have H3 := Lib.hid (h3.blk_set 0 (.slice Ay X.length cy)); clear ht h3 hc3 hf3))
      all_goals
        go_wp2_with fail
        go_roundw
        case rel => exact ⟨1, rfl, H3.out.imp fun _ hp => Or.inr (Or.inl ⟨rfl, _, hp⟩)⟩
        case measure => simp [intOf]
    · have h2 : Turns F w wr _ := ⟨F', hp, hr⟩
      clear hp hr
      have KC := Lib.hid (clone_row h2.drew (acc_rows h2.drew.snd.snd).2 (by rw [List.length_map]) HL.out)
      clear h2
      have hix := arr_index1 (.slice A0 n c0) (.slice A1 n c1) wr
      go_wp2_with fail
      go_region_law ((go_simp; go_at_call 39; refine KC.out.mono ?_; rintro e w2 ⟨y, rfl, ht⟩; obtain ⟨Ay, cy, ey, _⟩ := ht.rv; subst ey; have h3 := ht.swap; obtain ⟨_, lt3, hc3, hf3⟩ := Turns.blk h3; have c3 := hc3 1 _ rfl; have f3 := hf3 1; have H3 := Lib.hid (h3.blk_set 1 (.slice Ay X.length cy)); clear ht h3 hc3 hf3))
      all_goals
        go_wp2_with fail
        go_roundw
        case rel => exact ⟨2, rfl, H3.out.imp fun _ hp => Or.inr (Or.inr ⟨rfl, _, _, hp⟩)⟩
        case measure => simp [intOf]
    · have h2 : Turns F w wr _ := ⟨F', hp, hr⟩
      clear hp hr
      have h3 := h2.imp fun _ => star_mono fun _ => star_swap
      have h4 := (h3.imp fun _ => star_mono fun _ => star_assoc').assoc'
      have HE := Lib.hid h4
      clear h2 h3 h4
      go_wp2_with fail
      go_ret
      exact ⟨_, rfl, HE.out.imp fun _ hp => by
        obtain ⟨A, B, h1, h2, r⟩ := hp
        exact ⟨A, B, ⟨_, _, _, ⟨rfl, HL.out, HG.out⟩, h1⟩, ⟨_, _, _, ⟨rfl, HL.out, HG.out⟩, h2⟩, r⟩⟩
end
end Go.Proofs.Ytnicfhafepiknaa
