/- The contracts of package chk's functions Add and Sub: each answers the whole number and true, or 0 and false where that number is none of 64 bits. Conditions: the arguments are words of 64 bits. -/
import Derived.Test.YtnicfhafepiknaaRows
import Derived.Shelf.Spec.BitsCarry
import Derived.WalkKit
import Derived.WalkSpells
import Derived.StillTactics
import Derived.RowKit3
import Derived.Lib.Hide
namespace Go.Proofs.Ytnicfhafepiknaa
open Go.RowKit Go.Shelf

/-- A word of 64 bits. -/
def Word (x : Int) : Prop := 0 ≤ x ∧ x < 18446744073709551616
/-- Is the number one of 64 bits (from above)? -/
def fits (x : Int) : Bool := decide (x < 18446744073709551616)
/-- The number, if it is one of 64 bits; else 0. -/
def kept (x : Int) : Int := if x < 18446744073709551616 then x else 0
theorem fits_yes {x : Int} (h : x < 18446744073709551616) : fits x = true := by simp [fits, h]
theorem fits_no {x : Int} (h : 18446744073709551616 ≤ x) : fits x = false := by simp [fits]; omega
theorem kept_yes {x : Int} (h : x < 18446744073709551616) : kept x = x := by simp [kept, h]
theorem kept_no {x : Int} (h : 18446744073709551616 ≤ x) : kept x = 0 := by simp [kept]; omega

theorem add64_0 (x y : Int) (hx : 0 ≤ x) (hy : 0 ≤ y) (w : World) : (callFunc 46 #[.int .u64 x, .int .u64 y, .int .u64 0]).run Try.prog w =
    .ok (.value (.tuple #[.int .u64 ((x + y) % 18446744073709551616), .int .u64 ((x + y) / 18446744073709551616)])) w := by
  rw [run_callFunc_extern Try.func46 (by kernel_rfl) (by kernel_rfl) (by kernel_rfl) (e := add64Entry) (by kernel_rfl), run_add64 x y 0 hx hy (Int.le_refl 0) (by decide) w]
  simp [Result.andThen]

/-! ### chk -/
theorem add_yes (a b : Int) (ha : Word a) (hb : Word b) (h : a + b < 18446744073709551616) (w : World) :
    Calls Try.prog 35 #[.int .u64 a, .int .u64 b] w fun e w' => e = .returned (.tuple #[.int .u64 (a + b), .bool true]) ∧ w = w' := by
  obtain ⟨a0, a1⟩ := ha; obtain ⟨b0, b1⟩ := hb
  have k0 : (a + b) / 18446744073709551616 = 0 := by omega
  have k1 : (a + b) % 18446744073709551616 = a + b := by omega
  go_enter Try.func35, Try.ntmps35
  go_wp2_with (simp only [add64_0 a b a0 b0])
  go_ret2
  exact ⟨rfl, rfl⟩
theorem add_none (a b : Int) (ha : Word a) (hb : Word b) (h : 18446744073709551616 ≤ a + b) (w : World) :
    Calls Try.prog 35 #[.int .u64 a, .int .u64 b] w fun e w' => e = .returned (.tuple #[.int .u64 0, .bool false]) ∧ w = w' := by
  obtain ⟨a0, a1⟩ := ha; obtain ⟨b0, b1⟩ := hb
  have k0 : (a + b) / 18446744073709551616 = 1 := by omega
  go_enter Try.func35, Try.ntmps35
  go_wp2_with (simp only [add64_0 a b a0 b0])
  go_ret2
  exact ⟨rfl, rfl⟩
/-- chk.Add, whatever the sum. -/
theorem add_any (a b : Int) (ha : Word a) (hb : Word b) (w : World) :
    Calls Try.prog 35 #[.int .u64 a, .int .u64 b] w fun e w' => e = .returned (.tuple #[.int .u64 (kept (a + b)), .bool (fits (a + b))]) ∧ w = w' := by
  by_cases h : a + b < 18446744073709551616
  · rw [kept_yes h, fits_yes h]; exact add_yes a b ha hb h w
  · have h : 18446744073709551616 ≤ a + b := by omega
    rw [kept_no h, fits_no h]; exact add_none a b ha hb h w

/-- What chk.Sub tells. -/
def left (a b : Int) : Int := if b ≤ a then a - b else 0
theorem left_yes {a b : Int} (h : b ≤ a) : left a b = a - b := by simp [left, h]
theorem left_no {a b : Int} (h : a < b) : left a b = 0 := by simp [left]; omega
/-- chk.Sub, whatever the difference. -/
theorem sub_any (a b : Int) (ha : Word a) (hb : Word b) (w : World) :
    Calls Try.prog 36 #[.int .u64 a, .int .u64 b] w fun e w' => e = .returned (.tuple #[.int .u64 (left a b), .bool (decide (b ≤ a))]) ∧ w = w' := by
  obtain ⟨a0, a1⟩ := ha; obtain ⟨b0, b1⟩ := hb
  by_cases h : a < b
  · have e : decide (b ≤ a) = false := by simp; omega
    rw [left_no h, e]; clear e
    go_enter Try.func36, Try.ntmps36
    go_wp2
    go_ret2
    exact ⟨rfl, rfl⟩
  · have h : b ≤ a := by omega
    have e : decide (b ≤ a) = true := by simp; omega
    rw [left_yes h, e]; clear e
    have h2 : 0 ≤ a - b := by omega
    go_enter Try.func36, Try.ntmps36
    go_wp2
    go_ret2
    exact ⟨rfl, rfl⟩
end Go.Proofs.Ytnicfhafepiknaa
