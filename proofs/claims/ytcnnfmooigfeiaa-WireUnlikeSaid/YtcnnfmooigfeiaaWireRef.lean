/- The document's own answers of layer 2: a number's bytes, a text's, the number at a place, and whether two rows are the same. Conditions: as each says. -/
import Derived.Test.YtcnnfmooigfeiaaWireApi
import Derived.WalkKit
import Derived.WalkSpells
import Derived.StillTactics
import Derived.LoopTactic
import Derived.Outline
import Derived.Laws.AppendOwnNone
namespace Go.Proofs.Ytcnnfmooigfeiaa
open Go.RowKit Go.WideShapes

theorem u8_info : (Try.prog.info? 5).map (fun i => (i.zero, i.size, i.bytes)) = some (some (.int .u8 0), 1, 1) := by kernel_rfl

theorem num8_next (n : Int) (q : Nat) (hq : q < 8) : (num8 n).take (8 - q) = (num8 n).take (8 - (q + 1)) ++ [byteAt n q] := by
  have h : q = 0 ∨ q = 1 ∨ q = 2 ∨ q = 3 ∨ q = 4 ∨ q = 5 ∨ q = 6 ∨ q = 7 := by omega
  rcases h with rfl | rfl | rfl | rfl | rfl | rfl | rfl | rfl <;> rfl
/-- A row of one cell, made just now. -/
theorem one_cell (w : World) (t : TypeId) (x : Value) : ∀ (j : Nat) (u : Value), [x][j]? = some u → (w.alloc (.cells #[x] t)).cell? ((⟨w.heap.size, 0, none⟩ : Addr).add j) = some u := by
  intro j u hu
  rcases j with _ | j
  · simp only [List.getElem?_cons_zero, Option.some.injEq] at hu
    subst hu
    rw [add_plain]; simp [go_sem]
  · simp at hu
theorem byte_lit {n : Int} {i : Nat} {d : Int} (h : (256 : Int) ^ i = d) : Value.int .u8 (n / d % 256) = .int .u8 ((byteAt n i).toNat : Int) := by
  rw [byteAt_toNat, h]
theorem rnum_step {w0 wr w1 : World} {u v' : Value} {n : Int} {q : Nat} {o : Obj} (hq : q < 8) (hbl : Below w0.heap.size w0 wr) (hown : wr.ownsRow w0.heap.size 5 1 u (8 - (q + 1)) (cells8 ((num8 n).take (8 - (q + 1)))))
    (hown1 : w1.ownsRow w0.heap.size 5 1 v' (8 - (q + 1) + 1) (cells8 ((num8 n).take (8 - (q + 1))) ++ [.int .u8 ((byteAt n q).toNat : Int)])) (hg : (wr.alloc o).grownBy w1 u.ownBlock) :
    w1.ownsRow w0.heap.size 5 1 v' (8 - q) (cells8 ((num8 n).take (8 - q))) ∧ Below w0.heap.size w0 w1 := by
  refine ⟨?_, (hbl.alloc hbl.size _).grown hg (by have := hbl.size; simp; omega) (fun k hk => (hown.lt k hk).1)⟩
  rw [num8_next n q hq, show 8 - q = 8 - (q + 1) + 1 by omega, cells8_append]
  exact hown1

set_option maxHeartbeats 4000000 in
theorem rnum_any (n : Int) (hn : Word n) (w : World) :
    Calls Try.prog 19 #[.int .u64 n] w fun e w' => ∃ v, e = .returned v ∧ Fresh8 w w' v (num8 n) := by
  obtain ⟨i0, hi, hz0, hz1, hz2⟩ := info_parts u8_info
  obtain ⟨n0, n1⟩ := hn
  go_enter Try.func19, Try.ntmps19
  go_wp2
  go_loopw [3, 4] (fun v i wr => ∃ r : Nat, r ≤ 8 ∧ i = .int .i64 ((r : Int) - 1) ∧ wr.ownsRow w.heap.size 5 1 v (8 - r) (cells8 ((num8 n).take (8 - r))) ∧ Below w.heap.size w wr) (fun _ i _ => (intOf i + 1).toNat)
  case atStart => exact ⟨8, by omega, rfl, by simpa [cells8] using World.ownsRow_nil _ _ _ _, Below.refl _ _⟩
  case round =>
    obtain ⟨r, hr, rfl, hown, hbl⟩ := hrel
    rcases r with _ | q
    · have e : ((0 : Nat) : Int) - 1 = -1 := rfl
      rw [e]
      go_wp2
      go_ret
      exact ⟨_, rfl, hown, hbl⟩
    · have hq : q = 0 ∨ q = 1 ∨ q = 2 ∨ q = 3 ∨ q = 4 ∨ q = 5 ∨ q = 6 ∨ q = 7 := by omega
      rcases hq with rfl | rfl | rfl | rfl | rfl | rfl | rfl | rfl
      · have e : ((0 + 1 : Nat) : Int) - 1 = 0 := rfl
        rw [e]
        have hv : Value.int .u8 (n % 256) = .int .u8 ((byteAt n 0).toNat : Int) := by rw [byteAt_toNat, show (256 : Int) ^ 0 = 1 by decide, Int.ediv_one]
        go_wp2_with (at_builtin; refine wpList_append_own _ rfl (.tmp 9) (.tmp 16) _ rfl w.heap.size 5 i0 (.int .u8 0) 1 1 Try.underlying25 hi hz0 hz1 hz2 rfl (by decide) _ _ _ rfl (hown.alloc _) ⟨wr.heap.size, 0, none⟩ 1 1 [.int .u8 ((byteAt n 0).toNat : Int)] rfl rfl (by first | exact one_cell wr _ _ | (rw [hv]; exact one_cell wr _ _)) (by intro u hu; rw [List.mem_singleton] at hu; subst hu; rfl) (by unfold maxLen; omega) (by omega) (by have := hbl.size; simp; omega) ?_)
        intro v' w1 hown1 hg1 _
        obtain ⟨hown2, hb2⟩ := rnum_step (by omega) hbl hown hown1 hg1
        clear hown hown1 hg1 hbl hv
        go_wp2
        go_roundw
        case rel => exact ⟨0, by omega, rfl, hown2, hb2⟩
        case measure => decide
      · have e : ((1 + 1 : Nat) : Int) - 1 = 1 := rfl
        rw [e]
        have hv : Value.int .u8 (n / 256 % 256) = .int .u8 ((byteAt n 1).toNat : Int) := by rw [byteAt_toNat, show (256 : Int) ^ 1 = 256 by decide]
        go_wp2_with (at_builtin; refine wpList_append_own _ rfl (.tmp 9) (.tmp 16) _ rfl w.heap.size 5 i0 (.int .u8 0) 1 1 Try.underlying25 hi hz0 hz1 hz2 rfl (by decide) _ _ _ rfl (hown.alloc _) ⟨wr.heap.size, 0, none⟩ 1 1 [.int .u8 ((byteAt n 1).toNat : Int)] rfl rfl (by first | exact one_cell wr _ _ | (rw [hv]; exact one_cell wr _ _)) (by intro u hu; rw [List.mem_singleton] at hu; subst hu; rfl) (by unfold maxLen; omega) (by omega) (by have := hbl.size; simp; omega) ?_)
        intro v' w1 hown1 hg1 _
        obtain ⟨hown2, hb2⟩ := rnum_step (by omega) hbl hown hown1 hg1
        clear hown hown1 hg1 hbl hv
        go_wp2
        go_roundw
        case rel => exact ⟨1, by omega, rfl, hown2, hb2⟩
        case measure => decide
      · have e : ((2 + 1 : Nat) : Int) - 1 = 2 := rfl
        rw [e]
        have hv : Value.int .u8 (n / 65536 % 256) = .int .u8 ((byteAt n 2).toNat : Int) := by rw [byteAt_toNat, show (256 : Int) ^ 2 = 65536 by decide]
        go_wp2_with (at_builtin; refine wpList_append_own _ rfl (.tmp 9) (.tmp 16) _ rfl w.heap.size 5 i0 (.int .u8 0) 1 1 Try.underlying25 hi hz0 hz1 hz2 rfl (by decide) _ _ _ rfl (hown.alloc _) ⟨wr.heap.size, 0, none⟩ 1 1 [.int .u8 ((byteAt n 2).toNat : Int)] rfl rfl (by first | exact one_cell wr _ _ | (rw [hv]; exact one_cell wr _ _)) (by intro u hu; rw [List.mem_singleton] at hu; subst hu; rfl) (by unfold maxLen; omega) (by omega) (by have := hbl.size; simp; omega) ?_)
        intro v' w1 hown1 hg1 _
        obtain ⟨hown2, hb2⟩ := rnum_step (by omega) hbl hown hown1 hg1
        clear hown hown1 hg1 hbl hv
        go_wp2
        go_roundw
        case rel => exact ⟨2, by omega, rfl, hown2, hb2⟩
        case measure => decide
      · have e : ((3 + 1 : Nat) : Int) - 1 = 3 := rfl
        rw [e]
        have hv : Value.int .u8 (n / 16777216 % 256) = .int .u8 ((byteAt n 3).toNat : Int) := by rw [byteAt_toNat, show (256 : Int) ^ 3 = 16777216 by decide]
        go_wp2_with (at_builtin; refine wpList_append_own _ rfl (.tmp 9) (.tmp 16) _ rfl w.heap.size 5 i0 (.int .u8 0) 1 1 Try.underlying25 hi hz0 hz1 hz2 rfl (by decide) _ _ _ rfl (hown.alloc _) ⟨wr.heap.size, 0, none⟩ 1 1 [.int .u8 ((byteAt n 3).toNat : Int)] rfl rfl (by first | exact one_cell wr _ _ | (rw [hv]; exact one_cell wr _ _)) (by intro u hu; rw [List.mem_singleton] at hu; subst hu; rfl) (by unfold maxLen; omega) (by omega) (by have := hbl.size; simp; omega) ?_)
        intro v' w1 hown1 hg1 _
        obtain ⟨hown2, hb2⟩ := rnum_step (by omega) hbl hown hown1 hg1
        clear hown hown1 hg1 hbl hv
        go_wp2
        go_roundw
        case rel => exact ⟨3, by omega, rfl, hown2, hb2⟩
        case measure => decide
      · have e : ((4 + 1 : Nat) : Int) - 1 = 4 := rfl
        rw [e]
        have hv : Value.int .u8 (n / 4294967296 % 256) = .int .u8 ((byteAt n 4).toNat : Int) := by rw [byteAt_toNat, show (256 : Int) ^ 4 = 4294967296 by decide]
        go_wp2_with (at_builtin; refine wpList_append_own _ rfl (.tmp 9) (.tmp 16) _ rfl w.heap.size 5 i0 (.int .u8 0) 1 1 Try.underlying25 hi hz0 hz1 hz2 rfl (by decide) _ _ _ rfl (hown.alloc _) ⟨wr.heap.size, 0, none⟩ 1 1 [.int .u8 ((byteAt n 4).toNat : Int)] rfl rfl (by first | exact one_cell wr _ _ | (rw [hv]; exact one_cell wr _ _)) (by intro u hu; rw [List.mem_singleton] at hu; subst hu; rfl) (by unfold maxLen; omega) (by omega) (by have := hbl.size; simp; omega) ?_)
        intro v' w1 hown1 hg1 _
        obtain ⟨hown2, hb2⟩ := rnum_step (by omega) hbl hown hown1 hg1
        clear hown hown1 hg1 hbl hv
        go_wp2
        go_roundw
        case rel => exact ⟨4, by omega, rfl, hown2, hb2⟩
        case measure => decide
      · have e : ((5 + 1 : Nat) : Int) - 1 = 5 := rfl
        rw [e]
        have hv : Value.int .u8 (n / 1099511627776 % 256) = .int .u8 ((byteAt n 5).toNat : Int) := by rw [byteAt_toNat, show (256 : Int) ^ 5 = 1099511627776 by decide]
        go_wp2_with (at_builtin; refine wpList_append_own _ rfl (.tmp 9) (.tmp 16) _ rfl w.heap.size 5 i0 (.int .u8 0) 1 1 Try.underlying25 hi hz0 hz1 hz2 rfl (by decide) _ _ _ rfl (hown.alloc _) ⟨wr.heap.size, 0, none⟩ 1 1 [.int .u8 ((byteAt n 5).toNat : Int)] rfl rfl (by first | exact one_cell wr _ _ | (rw [hv]; exact one_cell wr _ _)) (by intro u hu; rw [List.mem_singleton] at hu; subst hu; rfl) (by unfold maxLen; omega) (by omega) (by have := hbl.size; simp; omega) ?_)
        intro v' w1 hown1 hg1 _
        obtain ⟨hown2, hb2⟩ := rnum_step (by omega) hbl hown hown1 hg1
        clear hown hown1 hg1 hbl hv
        go_wp2
        go_roundw
        case rel => exact ⟨5, by omega, rfl, hown2, hb2⟩
        case measure => decide
      · have e : ((6 + 1 : Nat) : Int) - 1 = 6 := rfl
        rw [e]
        have hv : Value.int .u8 (n / 281474976710656 % 256) = .int .u8 ((byteAt n 6).toNat : Int) := by rw [byteAt_toNat, show (256 : Int) ^ 6 = 281474976710656 by decide]
        go_wp2_with (at_builtin; refine wpList_append_own _ rfl (.tmp 9) (.tmp 16) _ rfl w.heap.size 5 i0 (.int .u8 0) 1 1 Try.underlying25 hi hz0 hz1 hz2 rfl (by decide) _ _ _ rfl (hown.alloc _) ⟨wr.heap.size, 0, none⟩ 1 1 [.int .u8 ((byteAt n 6).toNat : Int)] rfl rfl (by first | exact one_cell wr _ _ | (rw [hv]; exact one_cell wr _ _)) (by intro u hu; rw [List.mem_singleton] at hu; subst hu; rfl) (by unfold maxLen; omega) (by omega) (by have := hbl.size; simp; omega) ?_)
        intro v' w1 hown1 hg1 _
        obtain ⟨hown2, hb2⟩ := rnum_step (by omega) hbl hown hown1 hg1
        clear hown hown1 hg1 hbl hv
        go_wp2
        go_roundw
        case rel => exact ⟨6, by omega, rfl, hown2, hb2⟩
        case measure => decide
      · have e : ((7 + 1 : Nat) : Int) - 1 = 7 := rfl
        rw [e]
        have hv : Value.int .u8 (n / 72057594037927936) = .int .u8 ((byteAt n 7).toNat : Int) := by rw [byteAt_toNat, show (256 : Int) ^ 7 = 72057594037927936 by decide, Int.emod_eq_of_lt (by omega) (by omega)]
        go_wp2_with (at_builtin; refine wpList_append_own _ rfl (.tmp 9) (.tmp 16) _ rfl w.heap.size 5 i0 (.int .u8 0) 1 1 Try.underlying25 hi hz0 hz1 hz2 rfl (by decide) _ _ _ rfl (hown.alloc _) ⟨wr.heap.size, 0, none⟩ 1 1 [.int .u8 ((byteAt n 7).toNat : Int)] rfl rfl (by first | exact one_cell wr _ _ | (rw [hv]; exact one_cell wr _ _)) (by intro u hu; rw [List.mem_singleton] at hu; subst hu; rfl) (by unfold maxLen; omega) (by omega) (by have := hbl.size; simp; omega) ?_)
        intro v' w1 hown1 hg1 _
        obtain ⟨hown2, hb2⟩ := rnum_step (by omega) hbl hown hown1 hg1
        clear hown hown1 hg1 hbl hv
        go_wp2
        go_roundw
        case rel => exact ⟨7, by omega, rfl, hown2, hb2⟩
        case measure => decide
end Go.Proofs.Ytcnnfmooigfeiaa
