/- prio's Queue: Len, at, take. Conditions: its orders lie in memory, a heap; at most a hundred thousand. -/
import Derived.Test.YtkbebllkjmccoaaRankPush
import Derived.Test.YtkbebllkjmccoaaHeapPush
import Derived.Test.YtkbebllkjmccoaaResults
namespace Go.Proofs.Ytkbebllkjmccoaa
open Go.RowKit Go.WideShapes

theorem queue_len {w : World} {p : Addr} {up : Bool} {L : Ords} {F : Nat → Prop} (h : RankHP p up L w F) : Calls Try.prog 11 #[.pointer (some p)] w fun e w' => e = .returned (.int .i64 L.length) ∧ Below w.heap.size w w' := by
  have K := Lib.hid (rank_len h)
  obtain ⟨b, A, cap, rfl, ht⟩ := h.open'
  clear ht h
  go_enter Try.func11, Try.ntmps11
  go_wp2_with fail
  refine K.out.mono ?_
  rintro e w2 ⟨rfl, hb⟩
  have HB := Lib.hid hb
  clear hb
  go_wp2_with fail
  go_ret
  exact ⟨rfl, HB.out⟩

set_option maxRecDepth 100000 in
set_option maxHeartbeats 4000000 in
/-- Nothing stands there. -/
theorem at_none {w : World} {p : Addr} {up : Bool} {D : Ords} {F : Nat → Prop} (i : Int) (h : RankHP p up D w F) (hi : i < 0 ∨ (D.length : Int) ≤ i) :
    Calls Try.prog 23 #[.pointer (some p), .int .i64 i] w fun e w' => e = .returned (.tuple #[OrdV.zero.val, .bool false]) ∧ Below w.heap.size w w' := by
  obtain ⟨bz, hbz, h1⟩ := (St.start w w (Below.refl _ _)).local5 #[.int .i64 0, .int .i64 0, .bool false, .int .u64 0, .int .u64 0] 28
  have KL := queue_len (w := w.alloc (.cells #[.int .i64 0, .int .i64 0, .bool false, .int .u64 0, .int .u64 0] 28)) ((RankHP.stable p up D).keep h (Chg.of_below (F := fun _ => False) h1.below) (fun _ _ h => h))
  obtain ⟨n, hn⟩ : ∃ n : Int, (D.length : Int) = n := ⟨_, rfl⟩
  rw [hn] at KL hi
  have KL := Lib.hid KL
  have H1 := Lib.hid h1
  clear h1 h hn
  go_enter Try.func23, Try.ntmps23
  go_upto_region 1 with fail
  rw [← hbz]
  clear hbz
  generalize (w.alloc (.cells #[.int .i64 0, .int .i64 0, .bool false, .int .u64 0, .int .u64 0] 28)) = w1 at H1 KL ⊢
  by_cases h0 : i < 0
  · obtain ⟨⟨u0, v0⟩, ⟨u1, v1⟩, ⟨u2, v2⟩, ⟨u3, v3⟩, ⟨u4, v4⟩, h2⟩ := Turns.store5 (o := ⟨0, 0, false, 0, 0⟩) H1.out ⟨0, 0, false, 0, 0⟩
    have HB := Lib.hid (show Below _ _ _ from h2.below); have HBK := Lib.hid h2.blk.1
    clear h2
    go_wp2_with fail
    have hblk : _ = some (Obj.cells #[.int .i64 0, .int .i64 0, .bool false, .int .u64 0, .int .u64 0] 28 (0, 0)) := HBK.out
    refine bodyPost_ret (v := .tuple #[.agg #[.int .i64 0, .int .i64 0, .bool false, .int .u64 0, .int .u64 0], .bool false]) (results_row_tmp (p := 4) (u := 5) rfl _ _ bz _ _ (0, 0) _ rfl hblk Try.underlying28 rfl (by kernel_rfl)) rfl ?_
    exact ⟨rfl, HB.out⟩
  · have h0' : n ≤ i := by omega
    have b1 : decide (i ≥ n) = true := decide_eq_true h0'
    clear hi
    go_wp2_with fail
    refine KL.out.mono ?_
    rintro e w2 ⟨rfl, hb⟩
    have h1 := H1.out.more hb
    obtain ⟨⟨u0, v0⟩, ⟨u1, v1⟩, ⟨u2, v2⟩, ⟨u3, v3⟩, ⟨u4, v4⟩, h2⟩ := Turns.store5 (o := ⟨0, 0, false, 0, 0⟩) h1 ⟨0, 0, false, 0, 0⟩
    have HB := Lib.hid (show Below _ _ _ from h2.below); have HBK := Lib.hid h2.blk.1
    clear h2 h1 hb KL
    go_wp2_with fail
    have hblk : _ = some (Obj.cells #[.int .i64 0, .int .i64 0, .bool false, .int .u64 0, .int .u64 0] 28 (0, 0)) := HBK.out
    refine bodyPost_ret (v := .tuple #[.agg #[.int .i64 0, .int .i64 0, .bool false, .int .u64 0, .int .u64 0], .bool false]) (results_row_tmp (p := 4) (u := 5) rfl _ _ bz _ _ (0, 0) _ rfl hblk Try.underlying28 rfl (by kernel_rfl)) rfl ?_
    exact ⟨rfl, HB.out⟩

set_option maxRecDepth 100000 in
set_option maxHeartbeats 4000000 in
/-- One stands there. -/
theorem at_some {w : World} {p : Addr} {up : Bool} {D : Ords} {F : Nat → Prop} (i : Nat) (h : RankHP p up D w F) (hi : i < D.length) :
    Calls Try.prog 23 #[.pointer (some p), .int .i64 i] w fun e w' => e = .returned (.tuple #[(atL D i).val, .bool true]) ∧ Below w.heap.size w w' := by
  obtain ⟨bz, hbz, h1⟩ := (St.start w w (Below.refl _ _)).local5 #[.int .i64 0, .int .i64 0, .bool false, .int .u64 0, .int .u64 0] 28
  have KL := queue_len (w := w.alloc (.cells #[.int .i64 0, .int .i64 0, .bool false, .int .u64 0, .int .u64 0] 28)) ((RankHP.stable p up D).keep h (Chg.of_below (F := fun _ => False) h1.below) (fun _ _ h => h))
  obtain ⟨b, A, cap, rfl, ht⟩ := h.open'
  obtain ⟨g, hg⟩ : ∃ g, A = some ⟨g, 0, none⟩ := by
    obtain ⟨g, e, _⟩ := row_ord ht.rowN hi
    exact ⟨g, e⟩
  subst hg
  obtain ⟨⟨x1, x2, x3, x4, x5⟩, hx⟩ : ∃ x, D[i] = x := ⟨_, rfl⟩
  obtain ⟨n, hn⟩ : ∃ n : Nat, D.length = n := ⟨_, rfl⟩
  have hf : ∀ w', Below w.heap.size w w' → (w'.cell? ⟨b, 1, none⟩ = some (.slice (some ⟨g, 0, none⟩) n cap) ∧ w'.cell? ⟨g, i * 5, none⟩ = some (.int .i64 x1) ∧ w'.cell? ⟨g, i * 5 + 1, none⟩ = some (.int .i64 x2) ∧ w'.cell? ⟨g, i * 5 + 2, none⟩ = some (.bool x3) ∧ w'.cell? ⟨g, i * 5 + 3, none⟩ = some (.int .u64 x4) ∧ w'.cell? ⟨g, i * 5 + 4, none⟩ = some (.int .u64 x5)) := fun w' hb => by
    have h' := ht.more hb
    obtain ⟨_, _, q, _⟩ := h'.swap.blk
    have q1 := q 1 _ rfl
    have t := two_cells hi hi hx hx h'
    rw [hn] at q1
    exact ⟨q1, t.1, t.2.1, t.2.2.1, t.2.2.2.1, t.2.2.2.2.1⟩
  have HF := Lib.hid hf
  rw [atL_eq hi, hx]
  rw [hn] at KL hi
  have KL := Lib.hid KL
  have H1 := Lib.hid h1
  have i0 : (0 : Int) ≤ (i : Int) := by omega
  have i1 : (i : Int) < (n : Int) := by omega
  have b0 : ¬ (i : Int) < 0 := by omega
  have b1 : decide ((i : Int) ≥ (n : Int)) = false := decide_eq_false (by omega)
  clear h1 h hn ht hx hf
  go_enter Try.func23, Try.ntmps23
  go_upto_region 1 with fail
  rw [← hbz]
  clear hbz
  generalize (w.alloc (.cells #[.int .i64 0, .int .i64 0, .bool false, .int .u64 0, .int .u64 0] 28)) = w1 at H1 KL ⊢
  go_wp2_with fail
  refine KL.out.mono ?_
  rintro e w2 ⟨rfl, hb⟩
  have h1 := H1.out.more hb
  obtain ⟨y0, y1, y2, y3, y4, y5⟩ := HF.out w2 h1.below
  obtain ⟨⟨u0, v0⟩, ⟨u1, v1⟩, ⟨u2, v2⟩, ⟨u3, v3⟩, ⟨u4, v4⟩, h2⟩ := Turns.store5 (o := ⟨0, 0, false, 0, 0⟩) h1 ⟨x1, x2, x3, x4, x5⟩
  have HB := Lib.hid (show Below _ _ _ from h2.below); have HBK := Lib.hid h2.blk.1
  clear h2 h1 hb KL
  go_wp2_with fail
  have hblk : _ = some (Obj.cells #[.int .i64 x1, .int .i64 x2, .bool x3, .int .u64 x4, .int .u64 x5] 28 (0, 0)) := HBK.out
  refine bodyPost_ret (v := .tuple #[.agg #[.int .i64 x1, .int .i64 x2, .bool x3, .int .u64 x4, .int .u64 x5], .bool true]) (results_row_tmp (p := 4) (u := 5) rfl _ _ bz _ _ (0, 0) _ rfl hblk Try.underlying28 rfl (by kernel_rfl)) rfl ?_
  exact ⟨rfl, HB.out⟩
end Go.Proofs.Ytkbebllkjmccoaa
