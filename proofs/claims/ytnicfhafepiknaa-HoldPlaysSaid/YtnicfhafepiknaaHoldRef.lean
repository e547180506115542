/- The document's own fees: New and Of. Conditions: they lie in memory. -/
import Derived.Test.YtnicfhafepiknaaHoldApi
import Derived.Test.YtnicfhafepiknaaAcctRef6
import Derived.OwnWalk
namespace Go.Proofs.Ytnicfhafepiknaa
open Go.RowKit Go.WideShapes

theorem cellsU_get {H : List Int} {j : Nat} (h : j < H.length) : (cellsU H)[j]? = some (.int .u64 H[j]) := by
  simp [cellsU, List.getElem?_eq_getElem h]
theorem cellsU_set (H : List Int) (j : Nat) (v : Int) : (cellsU H).set j (.int .u64 v) = cellsU (H.set j v) := by simp [cellsU, List.map_set]
/-- The document's fees over the document's accounts. -/
def FeeAt (b ab : Nat) (sh : Value) (H : List Int) (g : Int) : HP :=
  star (Blk b #[.pointer (some ⟨ab, 0, none⟩), sh, .int .u64 g] 58) (RowN 26 1 sh H.length (cellsU H))
instance FeeAt.stable (b ab : Nat) (sh : Value) (H : List Int) (g : Int) : Stable (FeeAt b ab sh H g) := by unfold FeeAt; infer_instance
theorem hOf_nat {H : List Int} {j : Nat} (hj : j < H.length) : hOf H (j : Int) = H[j] := by
  unfold hOf
  rw [if_pos ⟨by omega, by omega⟩, Int.toNat_natCast, List.getD_eq_getElem?_getD, List.getElem?_eq_getElem hj]
  rfl
theorem fee_cells {w : World} {s : Value} {H : List Int} (hs : w.ownsRow 0 26 1 s H.length (cellsU H)) {j : Nat} (hj : j < H.length) : ∃ g cap, s = .slice (some ⟨g, 0, none⟩) H.length cap ∧ w.cell? ⟨g, j, none⟩ = some (.int .u64 H[j]) ∧ (∀ i, w.frozen? ⟨g, i, none⟩ = false) := by
  obtain ⟨g, cap, rfl⟩ := ownN_shape hs (by omega)
  obtain ⟨g1, cap1, e1, h1⟩ := rowN_cell hs (cellsU_get hj)
  injection e1 with e1 _ _
  injection e1 with e1
  injection e1 with e1
  subst e1
  exact ⟨g, cap, rfl, h1, fun i => hs.frozenAt i⟩
section
variable {w : World} {b ab : Nat} {sh : Value} {H : List Int} {g : Int} {F : Nat → Prop}
set_option maxRecDepth 100000 in
set_option maxHeartbeats 4000000 in
theorem rof_any (c : Int) (h : FeeAt b ab sh H g w F) :
    Calls Try.prog 33 #[.pointer (some ⟨b, 0, none⟩), .int .i64 c] w fun e w' => e = .returned (.int .u64 (hOf H c)) ∧ w' = w := by
  have h0 := Turns.begin h
  obtain ⟨_, _, hc, _⟩ := Turns.blk h0
  have hs := h0.comm.rowN
  have c1 := hc 1 sh rfl
  obtain ⟨A, cap, rfl⟩ := rowN_form hs
  by_cases h1 : c < 0
  · rw [hOf_none (by omega)]
    have b1 : decide (c < 0) = true := decide_eq_true h1
    clear h h0 hc hs h1
    go_enter Try.func33, Try.ntmps33
    go_wp2_with fail
    go_ret
    exact ⟨rfl, rfl⟩
  · have b1 : decide (c < 0) = false := decide_eq_false h1
    by_cases h2 : (H.length : Int) ≤ c
    · rw [hOf_none (by omega)]
      obtain ⟨n, hn⟩ : ∃ n, H.length = n := ⟨_, rfl⟩
      rw [hn] at h2 c1
      have b2 : decide ((n : Int) ≤ c) = true := decide_eq_true h2
      clear h h0 hc hs h1 h2 hn
      go_enter Try.func33, Try.ntmps33
      go_wp2_with fail
      go_ret
      exact ⟨rfl, rfl⟩
    · obtain ⟨j, rfl⟩ : ∃ j : Nat, c = j := ⟨c.toNat, by omega⟩
      have hj : j < H.length := by omega
      rw [hOf_nat hj]
      obtain ⟨gb, cap', e, d0, _⟩ := fee_cells hs hj
      injection e with e _ e2
      subst e; subst e2
      obtain ⟨n, hn⟩ : ∃ n, H.length = n := ⟨_, rfl⟩
      generalize H[j] = x at d0 ⊢
      rw [hn] at h2 c1 hj
      have b2 : decide ((n : Int) ≤ (j : Int)) = false := decide_eq_false h2
      clear h h0 hc hs h1 hn
      go_enter Try.func33, Try.ntmps33
      go_wp2_with fail
      go_ret
      exact ⟨rfl, rfl⟩
end
theorem madeU_cells (n : Nat) : (madeCells #[.int .u64 0] n).toList = cellsU (List.replicate n 0) := by
  refine List.ext_getElem (by simp [madeCells, cellsU]) fun i h1 h2 => ?_
  simp [madeCells, cellsU, Nat.mod_one]
set_option maxRecDepth 100000 in
set_option maxHeartbeats 4000000 in
theorem rnewfees_any {w : World} {ab : Nat} {s : Value} {X : Accts} {F : Nat → Prop} (h : AccAt ab s X w F) (hl : X.length ≤ 1000) :
    Calls Try.prog 29 #[.pointer (some ⟨ab, 0, none⟩)] w fun e w' => ∃ b sh G, e = .returned (.pointer (some ⟨b, 0, none⟩)) ∧ FeeAt b ab sh (List.replicate X.length 0) 0 w' G ∧ (∀ k, G k → w.heap.size ≤ k) ∧ Below w.heap.size w w' := by
  have h0 := Turns.begin h
  obtain ⟨_, _, hc, _⟩ := Turns.blk h0
  have hs := h0.comm.rowN
  obtain ⟨A, cap, rfl⟩ := rowN_form hs
  have c0 := hc 0 (.slice A X.length cap) rfl
  obtain ⟨m, hm⟩ : ∃ m, X.length = m := ⟨_, rfl⟩
  rw [hm] at c0 hl ⊢
  clear h h0 hc hs hm
  obtain ⟨i0, hi, hz0, hz1, hz2⟩ := info_parts u64_info
  have HI := Lib.hid hi; have HZ0 := Lib.hid hz0; have HZ1 := Lib.hid hz1; have HZ2 := Lib.hid hz2
  clear hi hz0 hz1 hz2
  go_enter Try.func29, Try.ntmps29
  go_wp2_with (at_make; go_loud (refine wpList_make_full (P := Try.prog) _ rfl (.tmp 8) (.tmp 8) 33 rfl w.heap.size 26 i0 (.int .u64 0) 1 Try.underlying33 HI.out HZ0.out HZ1.out .i64 .i64 m m m rfl rfl rfl rfl (by rw [HZ2.out]; omega) (by unfold maxLen; omega) (Nat.le_refl _) ?_); intro w1 hown hgr; have H1 := Lib.hid hown; have H2 := Lib.hid hgr; clear hown hgr)
  go_ret
  have hr : w1.ownsRow 0 26 1 (.slice (some ⟨w.heap.size, 0, none⟩) m m) (List.replicate m (0 : Int)).length (cellsU (List.replicate m 0)) := by
    have h := H1.out
    have e : (madeCells (Value.cells (.int .u64 0)) (m * 1)).toList = cellsU (List.replicate m 0) := by rw [Nat.mul_one]; exact madeU_cells m
    rw [e] at h
    rw [List.length_replicate]
    exact ⟨h.1, h.2.imp_right fun ⟨g, cap, cur, e, hg, r⟩ => ⟨g, cap, cur, e, Nat.zero_le _, r⟩⟩
  have hb1 : Below w.heap.size w w1 := (Below.refl _ _).grown H2.out (Nat.le_refl _) fun k hk => by cases hk
  have h1 : St w w1 (star (RowN 26 1 (.slice (some ⟨w.heap.size, 0, none⟩) m m) (List.replicate m (0 : Int)).length (cellsU (List.replicate m 0))) nothing) :=
    (St.start w w (Below.refl _ _)).add hb1 ⟨hr, fun k => Iff.rfl⟩ (fun k hk => by cases hk; exact Nat.le_refl _)
  have h2 := h1.one.add (w' := w1.alloc (.cells #[.pointer (some ⟨ab, 0, none⟩), .slice (some ⟨w.heap.size, 0, none⟩) m m, .int .u64 0] 58)) ((Below.refl _ _).alloc (Nat.le_refl _) _) (Blk.made _ _ _) (fun k hk => by rw [hk]; exact Nat.le_refl _)
  have h3 := h2.below
  obtain ⟨F, h, hc, hF⟩ := h2
  exact ⟨_, _, F, rfl, h, fun k hk => (hF k hk).elim (fun h => h.elim) id, h3⟩
end Go.Proofs.Ytnicfhafepiknaa
