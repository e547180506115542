/- prio's Queue: Peek, Pop, Find, Remove over what they call. Conditions: as each says. -/
import Derived.Test.YtkbebllkjmccoaaQueueAll
namespace Go.Proofs.Ytkbebllkjmccoaa
open Go.RowKit Go.WideShapes

set_option maxRecDepth 100000 in
set_option maxHeartbeats 4000000 in
theorem ret_peek {w : World} {p : Addr} {o : OrdV} {v : Bool} {F : Nat → Prop} {P0 P : HP} [h0 : Stable P0] [hP : Stable P] (h : P0 w F)
    (K : ∀ (w1 : World) (bz : Nat), Turns F w w1 (star (Blk bz #[.int .i64 0, .int .i64 0, .bool false, .int .u64 0, .int .u64 0] 28) P0) → Calls Try.prog 23 #[.pointer (some p), .int .i64 0] w1 fun e w' => e = .returned (.tuple #[o.val, .bool v]) ∧ Turns F w w' (star (Blk bz #[.int .i64 0, .int .i64 0, .bool false, .int .u64 0, .int .u64 0] 28) P)) :
    Calls Try.prog 9 #[.pointer (some p)] w fun e w' => e = .returned (.tuple #[o.val, .bool v]) ∧ Turns F w w' P := by
  obtain ⟨bz, hbz, h1⟩ := (Turns.begin h).local5 #[.int .i64 0, .int .i64 0, .bool false, .int .u64 0, .int .u64 0] 28
  have K := K _ _ h1
  obtain ⟨x1, x2, x3, x4, x5⟩ := o
  simp only [OrdV.val] at K ⊢
  have K := Lib.hid K
  clear h h1
  go_enter Try.func9, Try.ntmps9
  go_upto_region 1 with fail
  rw [← hbz]
  clear hbz
  generalize (w.alloc (.cells #[.int .i64 0, .int .i64 0, .bool false, .int .u64 0, .int .u64 0] 28)) = w1 at *
  go_wp2_with fail
  refine K.out.mono ?_
  rintro e w2 ⟨rfl, ht⟩
  obtain ⟨⟨u0, v0⟩, ⟨u1, v1⟩, ⟨u2, v2⟩, ⟨u3, v3⟩, ⟨u4, v4⟩, h5⟩ := Turns.store5 (o := ⟨0, 0, false, 0, 0⟩) ht ⟨x1, x2, x3, x4, x5⟩
  have HBK := Lib.hid h5.blk.1
  have H5 := Lib.hid h5.snd
  clear ht h5 K
  go_wp2_with fail
  have hblk : _ = some (Obj.cells #[.int .i64 x1, .int .i64 x2, .bool x3, .int .u64 x4, .int .u64 x5] 28 (0, 0)) := HBK.out
  refine bodyPost_ret (v := .tuple #[.agg #[.int .i64 x1, .int .i64 x2, .bool x3, .int .u64 x4, .int .u64 x5], .bool v]) (results_row_tmp (p := 2) (u := 3) rfl _ _ bz _ _ (0, 0) _ rfl hblk Try.underlying28 rfl (by kernel_rfl)) rfl ?_
  exact ⟨rfl, H5.out⟩
set_option maxRecDepth 100000 in
set_option maxHeartbeats 4000000 in
theorem ret_pop {w : World} {p : Addr} {o : OrdV} {v : Bool} {F : Nat → Prop} {P0 P : HP} [h0 : Stable P0] [hP : Stable P] (h : P0 w F)
    (K : ∀ (w1 : World) (bz : Nat), Turns F w w1 (star (Blk bz #[.int .i64 0, .int .i64 0, .bool false, .int .u64 0, .int .u64 0] 28) P0) → Calls Try.prog 24 #[.pointer (some p), .int .i64 0] w1 fun e w' => e = .returned (.tuple #[o.val, .bool v]) ∧ Turns F w w' (star (Blk bz #[.int .i64 0, .int .i64 0, .bool false, .int .u64 0, .int .u64 0] 28) P)) :
    Calls Try.prog 10 #[.pointer (some p)] w fun e w' => e = .returned (.tuple #[o.val, .bool v]) ∧ Turns F w w' P := by
  obtain ⟨bz, hbz, h1⟩ := (Turns.begin h).local5 #[.int .i64 0, .int .i64 0, .bool false, .int .u64 0, .int .u64 0] 28
  have K := K _ _ h1
  obtain ⟨x1, x2, x3, x4, x5⟩ := o
  simp only [OrdV.val] at K ⊢
  have K := Lib.hid K
  clear h h1
  go_enter Try.func10, Try.ntmps10
  go_upto_region 1 with fail
  rw [← hbz]
  clear hbz
  generalize (w.alloc (.cells #[.int .i64 0, .int .i64 0, .bool false, .int .u64 0, .int .u64 0] 28)) = w1 at *
  go_wp2_with fail
  refine K.out.mono ?_
  rintro e w2 ⟨rfl, ht⟩
  obtain ⟨⟨u0, v0⟩, ⟨u1, v1⟩, ⟨u2, v2⟩, ⟨u3, v3⟩, ⟨u4, v4⟩, h5⟩ := Turns.store5 (o := ⟨0, 0, false, 0, 0⟩) ht ⟨x1, x2, x3, x4, x5⟩
  have HBK := Lib.hid h5.blk.1
  have H5 := Lib.hid h5.snd
  clear ht h5 K
  go_wp2_with fail
  have hblk : _ = some (Obj.cells #[.int .i64 x1, .int .i64 x2, .bool x3, .int .u64 x4, .int .u64 x5] 28 (0, 0)) := HBK.out
  refine bodyPost_ret (v := .tuple #[.agg #[.int .i64 x1, .int .i64 x2, .bool x3, .int .u64 x4, .int .u64 x5], .bool v]) (results_row_tmp (p := 2) (u := 3) rfl _ _ bz _ _ (0, 0) _ rfl hblk Try.underlying28 rfl (by kernel_rfl)) rfl ?_
  exact ⟨rfl, H5.out⟩
set_option maxRecDepth 100000 in
set_option maxHeartbeats 4000000 in
theorem ret_find {w : World} {p : Addr} {id : Int} {o : OrdV} {v : Bool} {F : Nat → Prop} {P0 P : HP} [h0 : Stable P0] [hP : Stable P] (h : P0 w F) (G : Int → Prop)
    (KP : ∀ (w1 : World) (bz : Nat), Turns F w w1 (star (Blk bz #[.int .i64 0, .int .i64 0, .bool false, .int .u64 0, .int .u64 0] 28) P0) → Calls Try.prog 29 #[.pointer (some p), .int .i64 id] w1 fun e w' => ∃ i : Int, e = .returned (.int .i64 i) ∧ G i ∧ Turns F w w' (star (Blk bz #[.int .i64 0, .int .i64 0, .bool false, .int .u64 0, .int .u64 0] 28) P0))
    (K : ∀ (w1 : World) (bz : Nat) (i : Int), G i → Turns F w w1 (star (Blk bz #[.int .i64 0, .int .i64 0, .bool false, .int .u64 0, .int .u64 0] 28) P0) → Calls Try.prog 23 #[.pointer (some p), .int .i64 i] w1 fun e w' => e = .returned (.tuple #[o.val, .bool v]) ∧ Turns F w w' (star (Blk bz #[.int .i64 0, .int .i64 0, .bool false, .int .u64 0, .int .u64 0] 28) P)) :
    Calls Try.prog 16 #[.pointer (some p), .int .i64 id] w fun e w' => e = .returned (.tuple #[o.val, .bool v]) ∧ Turns F w w' P := by
  obtain ⟨bz, hbz, h1⟩ := (Turns.begin h).local5 #[.int .i64 0, .int .i64 0, .bool false, .int .u64 0, .int .u64 0] 28
  have KP := KP _ _ h1
  obtain ⟨x1, x2, x3, x4, x5⟩ := o
  simp only [OrdV.val] at K ⊢
  have K := Lib.hid K; have KP := Lib.hid KP
  clear h h1
  go_enter Try.func16, Try.ntmps16
  go_upto_region 1 with fail
  rw [← hbz]
  clear hbz
  generalize (w.alloc (.cells #[.int .i64 0, .int .i64 0, .bool false, .int .u64 0, .int .u64 0] 28)) = w1 at *
  go_wp2_with fail
  refine KP.out.mono ?_
  rintro e w2 ⟨i, rfl, hi, ht⟩
  have K := Lib.hid (K.out w2 bz i hi ht)
  clear ht KP hi
  go_wp2_with fail
  refine K.out.mono ?_
  rintro e w3 ⟨rfl, ht⟩
  obtain ⟨⟨u0, v0⟩, ⟨u1, v1⟩, ⟨u2, v2⟩, ⟨u3, v3⟩, ⟨u4, v4⟩, h5⟩ := Turns.store5 (o := ⟨0, 0, false, 0, 0⟩) ht ⟨x1, x2, x3, x4, x5⟩
  have HBK := Lib.hid h5.blk.1
  have H5 := Lib.hid h5.snd
  clear ht h5 K
  go_wp2_with fail
  have hblk : _ = some (Obj.cells #[.int .i64 x1, .int .i64 x2, .bool x3, .int .u64 x4, .int .u64 x5] 28 (0, 0)) := HBK.out
  refine bodyPost_ret (v := .tuple #[.agg #[.int .i64 x1, .int .i64 x2, .bool x3, .int .u64 x4, .int .u64 x5], .bool v]) (results_row_tmp (p := 4) (u := 5) rfl _ _ bz _ _ (0, 0) _ rfl hblk Try.underlying28 rfl (by kernel_rfl)) rfl ?_
  exact ⟨rfl, H5.out⟩
set_option maxRecDepth 100000 in
set_option maxHeartbeats 4000000 in
theorem ret_remove {w : World} {p : Addr} {id : Int} {o : OrdV} {v : Bool} {F : Nat → Prop} {P0 P : HP} [h0 : Stable P0] [hP : Stable P] (h : P0 w F) (G : Int → Prop)
    (KP : ∀ (w1 : World) (bz : Nat), Turns F w w1 (star (Blk bz #[.int .i64 0, .int .i64 0, .bool false, .int .u64 0, .int .u64 0] 28) P0) → Calls Try.prog 29 #[.pointer (some p), .int .i64 id] w1 fun e w' => ∃ i : Int, e = .returned (.int .i64 i) ∧ G i ∧ Turns F w w' (star (Blk bz #[.int .i64 0, .int .i64 0, .bool false, .int .u64 0, .int .u64 0] 28) P0))
    (K : ∀ (w1 : World) (bz : Nat) (i : Int), G i → Turns F w w1 (star (Blk bz #[.int .i64 0, .int .i64 0, .bool false, .int .u64 0, .int .u64 0] 28) P0) → Calls Try.prog 24 #[.pointer (some p), .int .i64 i] w1 fun e w' => e = .returned (.tuple #[o.val, .bool v]) ∧ Turns F w w' (star (Blk bz #[.int .i64 0, .int .i64 0, .bool false, .int .u64 0, .int .u64 0] 28) P)) :
    Calls Try.prog 14 #[.pointer (some p), .int .i64 id] w fun e w' => e = .returned (.tuple #[o.val, .bool v]) ∧ Turns F w w' P := by
  obtain ⟨bz, hbz, h1⟩ := (Turns.begin h).local5 #[.int .i64 0, .int .i64 0, .bool false, .int .u64 0, .int .u64 0] 28
  have KP := KP _ _ h1
  obtain ⟨x1, x2, x3, x4, x5⟩ := o
  simp only [OrdV.val] at K ⊢
  have K := Lib.hid K; have KP := Lib.hid KP
  clear h h1
  go_enter Try.func14, Try.ntmps14
  go_upto_region 1 with fail
  rw [← hbz]
  clear hbz
  generalize (w.alloc (.cells #[.int .i64 0, .int .i64 0, .bool false, .int .u64 0, .int .u64 0] 28)) = w1 at *
  go_wp2_with fail
  refine KP.out.mono ?_
  rintro e w2 ⟨i, rfl, hi, ht⟩
  have K := Lib.hid (K.out w2 bz i hi ht)
  clear ht KP hi
  go_wp2_with fail
  refine K.out.mono ?_
  rintro e w3 ⟨rfl, ht⟩
  obtain ⟨⟨u0, v0⟩, ⟨u1, v1⟩, ⟨u2, v2⟩, ⟨u3, v3⟩, ⟨u4, v4⟩, h5⟩ := Turns.store5 (o := ⟨0, 0, false, 0, 0⟩) ht ⟨x1, x2, x3, x4, x5⟩
  have HBK := Lib.hid h5.blk.1
  have H5 := Lib.hid h5.snd
  clear ht h5 K
  go_wp2_with fail
  have hblk : _ = some (Obj.cells #[.int .i64 x1, .int .i64 x2, .bool x3, .int .u64 x4, .int .u64 x5] 28 (0, 0)) := HBK.out
  refine bodyPost_ret (v := .tuple #[.agg #[.int .i64 x1, .int .i64 x2, .bool x3, .int .u64 x4, .int .u64 x5], .bool v]) (results_row_tmp (p := 4) (u := 5) rfl _ _ bz _ _ (0, 0) _ rfl hblk Try.underlying28 rfl (by kernel_rfl)) rfl ?_
  exact ⟨rfl, H5.out⟩
end Go.Proofs.Ytkbebllkjmccoaa
