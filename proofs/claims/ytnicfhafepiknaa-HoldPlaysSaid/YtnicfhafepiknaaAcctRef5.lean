/- The document's own accounts: New. Conditions: none. -/
import Derived.Test.YtnicfhafepiknaaAcctRef4
import Derived.OwnWalk
namespace Go.Proofs.Ytnicfhafepiknaa
open Go.RowKit Go.WideShapes

theorem arr2_info : (Try.prog.info? 73).map (fun i => (i.zero, i.size, i.bytes)) = some (some (.agg #[.int .u64 0, .int .u64 0]), 2, 16) := by kernel_rfl
theorem madeN_cells (n : Nat) : (madeCells #[.int .u64 0, .int .u64 0] n).toList = List.replicate n (.int .u64 0) := by
  refine List.ext_getElem (by simp [madeCells]) fun i h1 h2 => ?_
  have hi : i % 2 = 0 ∨ i % 2 = 1 := by omega
  rcases hi with hi | hi <;> simp [madeCells, hi]
theorem cellsA_zero (m : Nat) : cellsA (List.replicate m (0, 0)) = List.replicate (m * 2) (.int .u64 0) := by
  induction m with
  | zero => rfl
  | succ m ih =>
    have e : cellsA (List.replicate (m + 1) (0, 0)) = [.int .u64 0, .int .u64 0] ++ cellsA (List.replicate m (0, 0)) := by rw [List.replicate_succ]; rfl
    rw [e, ih, show (m + 1) * 2 = m * 2 + 1 + 1 by omega, List.replicate_succ, List.replicate_succ]; rfl

set_option maxRecDepth 100000 in
set_option maxHeartbeats 4000000 in
theorem rnew6_any (w : World) (n : Int) :
    Calls Try.prog 17 #[.int .i64 n] w fun e w' => ∃ b s F, e = .returned (.pointer (some ⟨b, 0, none⟩)) ∧ AccAt b s (newA n) w' F ∧ (∀ k, F k → w.heap.size ≤ k) ∧ Below w.heap.size w w' := by
  obtain ⟨x, hx⟩ : ∃ x, max n 0 = x := ⟨_, rfl⟩
  obtain ⟨y, hy⟩ : ∃ y, min x 1000 = y := ⟨_, rfl⟩
  obtain ⟨m, hm⟩ : ∃ m : Nat, y = m := ⟨y.toNat, by omega⟩
  have hm1 : m ≤ 1000 := by omega
  have hN : newA n = List.replicate m (0, 0) := by unfold newA; rw [hx, hy, hm]; simp
  rw [hN]
  have q1 : (if n < 0 then (0 : Int) else n) = x := by rw [← hx]; split <;> omega
  have q2 : (if 1000 < x then (1000 : Int) else x) = (m : Int) := by rw [← hm, ← hy]; split <;> omega
  clear hN hx hy hm
  obtain ⟨i0, hi, hz0, hz1, hz2⟩ := info_parts arr2_info
  have HI := Lib.hid hi; have HZ0 := Lib.hid hz0; have HZ1 := Lib.hid hz1; have HZ2 := Lib.hid hz2
  clear hi hz0 hz1 hz2
  go_enter Try.func17, Try.ntmps17
  go_wp2_with (at_make; go_loud (refine wpList_make_full (P := Try.prog) _ rfl (.tmp 5) (.tmp 5) 69 rfl w.heap.size 73 i0 (.agg #[.int .u64 0, .int .u64 0]) 2 Try.underlying69 HI.out HZ0.out HZ1.out .i64 .i64 m m m rfl rfl rfl rfl (by rw [HZ2.out]; omega) (by unfold maxLen; omega) (Nat.le_refl _) ?_); intro w1 hown hgr; have H1 := Lib.hid hown; have H2 := Lib.hid hgr; clear hown hgr)
  go_ret
  have hr : w1.ownsRow 0 73 2 (.slice (some ⟨w.heap.size, 0, none⟩) m m) (List.replicate m ((0 : Int), (0 : Int))).length (cellsA (List.replicate m (0, 0))) := by
    have h := H1.out
    have e : (madeCells (Value.cells (.agg #[.int .u64 0, .int .u64 0])) (m * 2)).toList = cellsA (List.replicate m (0, 0)) := (madeN_cells (m * 2)).trans (cellsA_zero m).symm
    rw [e] at h
    rw [List.length_replicate]
    exact ⟨h.1, h.2.imp_right fun ⟨g, cap, cur, e, hg, r⟩ => ⟨g, cap, cur, e, Nat.zero_le _, r⟩⟩
  have hb1 : Below w.heap.size w w1 := (Below.refl _ _).grown H2.out (Nat.le_refl _) fun k hk => by cases hk
  have h1 : St w w1 (star (RowN 73 2 (.slice (some ⟨w.heap.size, 0, none⟩) m m) (List.replicate m ((0 : Int), (0 : Int))).length (cellsA (List.replicate m (0, 0)))) nothing) :=
    (St.start w w (Below.refl _ _)).add hb1 ⟨hr, fun k => Iff.rfl⟩ (fun k hk => by cases hk; exact Nat.le_refl _)
  have h2 := h1.one.add (w' := w1.alloc (.cells #[.slice (some ⟨w.heap.size, 0, none⟩) m m] 71)) ((Below.refl _ _).alloc (Nat.le_refl _) _) (Blk.made _ _ _) (fun k hk => by rw [hk]; exact Nat.le_refl _)
  have h3 := h2.below
  obtain ⟨F, h, hc, hF⟩ := h2
  exact ⟨_, _, F, rfl, h, fun k hk => (hF k hk).elim (fun h => h.elim) id, h3⟩
end Go.Proofs.Ytnicfhafepiknaa
