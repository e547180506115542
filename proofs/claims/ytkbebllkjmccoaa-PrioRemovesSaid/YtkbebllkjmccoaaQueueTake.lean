/- prio's Queue: take, place. Conditions: its orders lie in memory, a heap; at most a hundred thousand. -/
import Derived.Test.YtkbebllkjmccoaaQueueAt
namespace Go.Proofs.Ytkbebllkjmccoaa
open Go.RowKit Go.WideShapes

theorem remove_turns {F0 : Nat → Prop} {w0 w : World} {p : Addr} {up : Bool} {D : Ords} {R : HP} [hR : Stable R] (i : Nat) (h : Turns F0 w0 w (star (RankHP p up D) R)) (hl : D.length ≤ 900000) (hi : i < D.length) (hh : HeapTo (aheadO up) D D.length) :
    Calls Try.prog 32 #[.iface 56 (.pointer (some p)), .int .i64 i] w fun e w' => e = .returned (.iface 28 (atL D i).val) ∧ ∃ L', (atL D i :: L').Perm D ∧ HeapTo (aheadO up) L' L'.length ∧ Turns F0 w0 w' (star (RankHP p up L') R) := by
  refine (h.call (Q := fun e w' F => (e = .returned (.iface 28 (atL D i).val)) ∧ ∃ L', ((atL D i :: L').Perm D ∧ HeapTo (aheadO up) L' L'.length) ∧ RankHP p up L' w' F) (fun F hp => (heap_remove rankIf i (Turns.begin hp) hl hi hh).mono ?_)).mono ?_
  · rintro e w' ⟨he, L', h1, h2, F', h3, h4⟩
    exact ⟨F', ⟨he, L', ⟨h1, h2⟩, h3⟩, h4⟩
  · rintro e w' ⟨F, ⟨A, B, ⟨he, L', ⟨h1, h2⟩, h3⟩, r⟩, r2⟩
    exact ⟨he, L', h1, h2, F, ⟨A, B, h3, r⟩, r2⟩

set_option maxRecDepth 100000 in
set_option maxHeartbeats 4000000 in
theorem take_some {w : World} {p : Addr} {up : Bool} {D : Ords} {F : Nat → Prop} (i : Nat) (h : RankHP p up D w F) (hi : i < D.length) (hl : D.length ≤ 900000) (hh : HeapTo (aheadO up) D D.length) :
    Calls Try.prog 24 #[.pointer (some p), .int .i64 i] w fun e w' => e = .returned (.tuple #[(atL D i).val, .bool true]) ∧ ∃ L', (atL D i :: L').Perm D ∧ HeapTo (aheadO up) L' L'.length ∧ Turns F w w' (RankHP p up L') := by
  obtain ⟨b, hp⟩ : ∃ b, p = ⟨b, 0, none⟩ := by
    obtain ⟨b, _, _, hp, _⟩ := h.open'
    exact ⟨b, hp⟩
  subst hp
  obtain ⟨bz, hbz, h1⟩ := (Turns.begin h).local5 #[.int .i64 0, .int .i64 0, .bool false, .int .u64 0, .int .u64 0] 28
  have KA : Calls Try.prog 23 #[.pointer (some ⟨b, 0, none⟩), .int .i64 i] (w.alloc (.cells #[.int .i64 0, .int .i64 0, .bool false, .int .u64 0, .int .u64 0] 28)) fun e w' => e = .returned (.tuple #[(atL D i).val, .bool true]) ∧ Turns F w w' (star (Blk bz #[.int .i64 0, .int .i64 0, .bool false, .int .u64 0, .int .u64 0] 28) (RankHP ⟨b, 0, none⟩ up D)) := by
    obtain ⟨F', hp, _⟩ := h1.snd
    exact (at_some i hp hi).mono fun e w' ⟨he, hb⟩ => ⟨he, h1.more hb⟩
  have KR := fun (w' : World) (Q : HP) (hQ : Stable Q) (h : Turns F w w' (star (RankHP ⟨b, 0, none⟩ up D) Q)) => remove_turns (hR := hQ) i h hl hi hh
  obtain ⟨⟨x1, x2, x3, x4, x5⟩, hx⟩ : ∃ x, atL D i = x := ⟨_, rfl⟩
  rw [hx] at KA ⊢
  simp only [hx] at KR
  unfold OrdV.val at KA KR
  simp only [OrdV.val]
  have KA := Lib.hid KA; have KR := Lib.hid KR
  clear h h1 hx hi hl hh
  go_enter Try.func24, Try.ntmps24
  go_upto_region 1 with fail
  rw [← hbz]
  clear hbz
  generalize (w.alloc (.cells #[.int .i64 0, .int .i64 0, .bool false, .int .u64 0, .int .u64 0] 28)) = w1 at KA ⊢
  go_wp2_with fail
  refine KA.out.mono ?_
  rintro e w2 ⟨rfl, ht⟩
  obtain ⟨bo, hbo, h3⟩ := ht.local5 #[.int .i64 x1, .int .i64 x2, .bool x3, .int .u64 x4, .int .u64 x5] 28
  have H3 := Lib.hid h3
  clear ht h3
  go_upto_if 14 with fail
  rw [← hbo]
  clear hbo
  generalize (w2.alloc (.cells #[.int .i64 x1, .int .i64 x2, .bool x3, .int .u64 x4, .int .u64 x5] 28)) = w3 at H3 ⊢
  have K := Lib.hid (KR.out w3 _ inferInstance H3.out.last)
  go_wp2_with fail
  refine K.out.mono ?_
  rintro e w4 ⟨rfl, L', hp, hh, ht⟩
  have HP := Lib.hid hp; have HH := Lib.hid hh
  obtain ⟨_, _, q, _⟩ := ht.swap.blk
  have q0 := q 0 _ rfl
  have q1 := q 1 _ rfl
  have q2 := q 2 _ rfl
  have q3 := q 3 _ rfl
  have q4 := q 4 _ rfl
  obtain ⟨⟨u0, v0⟩, ⟨u1, v1⟩, ⟨u2, v2⟩, ⟨u3, v3⟩, ⟨u4, v4⟩, h5⟩ := Turns.store5 (o := ⟨0, 0, false, 0, 0⟩) ht.assoc'.comm ⟨x1, x2, x3, x4, x5⟩
  have HBK := Lib.hid h5.blk.1
  have H5 := Lib.hid h5.snd.fst
  clear hp hh q ht h5
  go_wp2_with fail
  have hblk : _ = some (Obj.cells #[.int .i64 x1, .int .i64 x2, .bool x3, .int .u64 x4, .int .u64 x5] 28 (0, 0)) := HBK.out
  refine bodyPost_ret (v := .tuple #[.agg #[.int .i64 x1, .int .i64 x2, .bool x3, .int .u64 x4, .int .u64 x5], .bool true]) (results_row_tmp (p := 4) (u := 5) rfl _ _ bz _ _ (0, 0) _ rfl hblk Try.underlying28 rfl (by kernel_rfl)) rfl ?_
  exact ⟨rfl, L', HP.out, HH.out, H5.out⟩

set_option maxRecDepth 100000 in
set_option maxHeartbeats 4000000 in
theorem take_none {w : World} {p : Addr} {up : Bool} {D : Ords} {F : Nat → Prop} (i : Int) (h : RankHP p up D w F) (hi : i < 0 ∨ (D.length : Int) ≤ i) :
    Calls Try.prog 24 #[.pointer (some p), .int .i64 i] w fun e w' => e = .returned (.tuple #[OrdV.zero.val, .bool false]) ∧ Turns F w w' (RankHP p up D) := by
  obtain ⟨bz, hbz, h1⟩ := (Turns.begin h).local5 #[.int .i64 0, .int .i64 0, .bool false, .int .u64 0, .int .u64 0] 28
  have KA : Calls Try.prog 23 #[.pointer (some p), .int .i64 i] (w.alloc (.cells #[.int .i64 0, .int .i64 0, .bool false, .int .u64 0, .int .u64 0] 28)) fun e w' => e = .returned (.tuple #[OrdV.zero.val, .bool false]) ∧ Turns F w w' (star (Blk bz #[.int .i64 0, .int .i64 0, .bool false, .int .u64 0, .int .u64 0] 28) (RankHP p up D)) := by
    obtain ⟨F', hp, _⟩ := h1.snd
    exact (at_none i hp hi).mono fun e w' ⟨he, hb⟩ => ⟨he, h1.more hb⟩
  simp only [OrdV.val, OrdV.zero] at KA ⊢
  have KA := Lib.hid KA
  clear h h1 hi
  go_enter Try.func24, Try.ntmps24
  go_upto_region 1 with fail
  rw [← hbz]
  clear hbz
  generalize (w.alloc (.cells #[.int .i64 0, .int .i64 0, .bool false, .int .u64 0, .int .u64 0] 28)) = w1 at KA ⊢
  go_wp2_with fail
  refine KA.out.mono ?_
  rintro e w2 ⟨rfl, ht⟩
  obtain ⟨bo, hbo, h3⟩ := ht.local5 #[.int .i64 0, .int .i64 0, .bool false, .int .u64 0, .int .u64 0] 28
  have H3 := Lib.hid h3
  clear ht h3
  go_upto_if 14 with fail
  rw [← hbo]
  clear hbo
  generalize (w2.alloc (.cells #[.int .i64 0, .int .i64 0, .bool false, .int .u64 0, .int .u64 0] 28)) = w3 at H3 ⊢
  have ht := H3.out
  obtain ⟨_, _, q, _⟩ := ht.blk
  have q0 := q 0 _ rfl
  have q1 := q 1 _ rfl
  have q2 := q 2 _ rfl
  have q3 := q 3 _ rfl
  have q4 := q 4 _ rfl
  obtain ⟨⟨u0, v0⟩, ⟨u1, v1⟩, ⟨u2, v2⟩, ⟨u3, v3⟩, ⟨u4, v4⟩, h5⟩ := Turns.store5 (o := ⟨0, 0, false, 0, 0⟩) ht.swap ⟨0, 0, false, 0, 0⟩
  have HBK := Lib.hid h5.blk.1
  have H5 := Lib.hid h5.snd.snd
  clear q ht h5
  go_wp2_with fail
  have hblk : _ = some (Obj.cells #[.int .i64 0, .int .i64 0, .bool false, .int .u64 0, .int .u64 0] 28 (0, 0)) := HBK.out
  refine bodyPost_ret (v := .tuple #[.agg #[.int .i64 0, .int .i64 0, .bool false, .int .u64 0, .int .u64 0], .bool false]) (results_row_tmp (p := 4) (u := 5) rfl _ _ bz _ _ (0, 0) _ rfl hblk Try.underlying28 rfl (by kernel_rfl)) rfl ?_
  exact ⟨rfl, H5.out⟩
end Go.Proofs.Ytkbebllkjmccoaa
