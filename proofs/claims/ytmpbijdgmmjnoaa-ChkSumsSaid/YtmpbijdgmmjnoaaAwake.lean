/- awake answers true, and makes one new block of memory. No conditions. -/
import Derived.Test.YtmpbijdgmmjnoaaSum
namespace Go.Proofs.Ytmpbijdgmmjnoaa
open Go.RowKit Go.Shelf

theorem word_lit {n : Int} (h : (0 ≤ n ∧ n < 18446744073709551616) = True := by decide) : Word n := of_eq_true h
theorem add_is {a b r : Int} {t : Bool} (ha : Word a) (hb : Word b) (hr : kept (a + b) = r) (ht : fits (a + b) = t) (w : World) :
    Calls Try.prog 8 #[.int .u64 a, .int .u64 b] w fun e w' => e = .returned (.tuple #[.int .u64 r, .bool t]) ∧ w = w' := by
  subst hr; subst ht; exact add_any a b ha hb w
theorem sub_is {a b r : Int} {t : Bool} (ha : Word a) (hb : Word b) (hr : left a b = r) (ht : decide (b ≤ a) = t) (w : World) :
    Calls Try.prog 9 #[.int .u64 a, .int .u64 b] w fun e w' => e = .returned (.tuple #[.int .u64 r, .bool t]) ∧ w = w' := by
  subst hr; subst ht; exact sub_any a b ha hb w
theorem mul_is {a b r : Int} {t : Bool} (ha : Word a) (hb : Word b) (hr : kept (a * b) = r) (ht : fits (a * b) = t) (w : World) :
    Calls Try.prog 10 #[.int .u64 a, .int .u64 b] w fun e w' => e = .returned (.tuple #[.int .u64 r, .bool t]) ∧ w = w' := by
  subst hr; subst ht; exact mul_any a b ha hb w
theorem sum_is {A : Option Addr} {n cap : Nat} {xs : List Int} {r : Int} {t : Bool} (w : World) (hn : xs.length = n) (hx : Words xs) (hl : xs.length ≤ 4611686018427387904) (hr : kept (tot xs) = r) (ht : fits (tot xs) = t) (h : Lies w A xs) :
    Calls Try.prog 12 #[.slice A n cap] w fun e w' => e = .returned (.tuple #[.int .u64 r, .bool t]) ∧ w = w' := by
  subst hn; subst hr; subst ht; exact sum_any A cap xs w hx hl h

/-- The new block of three. -/
theorem lies_three (w : World) (a b c : Int) : Lies (w.alloc (.cells #[.int .u64 a, .int .u64 b, .int .u64 c] 22)) (some ⟨w.heap.size, 0, none⟩) [a, b, c] := by
  refine Or.inr ⟨_, 0, rfl, fun j hj => ?_⟩
  simp only [List.length_cons, List.length_nil] at hj
  have : j = 0 ∨ j = 1 ∨ j = 2 := by omega
  rcases this with rfl | rfl | rfl <;> simp [go_sem]

theorem awake_any (w : World) :
    Calls Try.prog 11 #[] w fun e w' => e = .returned (.bool true) ∧ w' = w.alloc (.cells #[.int .u64 1, .int .u64 2, .int .u64 3] 22) := by
  go_enter Try.func11, Try.ntmps11
  go_wp2_with (first
    | (go_at_call 8; refine (add_is (r := 7) (t := true) (a := 3) (b := 4) word_lit word_lit (by decide) (by decide) _).mono ?_; rintro e w' ⟨rfl, rfl⟩)
    | (go_at_call 9; refine (sub_is (r := 0) (t := false) (a := 1) (b := 2) word_lit word_lit (by decide) (by decide) _).mono ?_; rintro e w' ⟨rfl, rfl⟩)
    | (go_at_call 10; refine (mul_is (r := 9223372036854775808) (t := true) (a := 4294967296) (b := 2147483648) word_lit word_lit (by decide) (by decide) _).mono ?_; rintro e w' ⟨rfl, rfl⟩)
    | (go_at_call 12; refine (sum_is (r := 6) (t := true) (xs := [1, 2, 3]) _ rfl (by unfold Words Word; decide) (by decide) (by decide) (by decide) (lies_three _ 1 2 3)).mono ?_; rintro e w' ⟨rfl, rfl⟩))
  go_ret
  exact ⟨rfl, rfl⟩
end Go.Proofs.Ytmpbijdgmmjnoaa
