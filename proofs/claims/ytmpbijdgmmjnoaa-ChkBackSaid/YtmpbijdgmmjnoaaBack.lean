/- ChkBack answers true. Conditions: the three numbers are words of 64 bits. -/
import Derived.Test.YtmpbijdgmmjnoaaAwake
namespace Go.Proofs.Ytmpbijdgmmjnoaa
open Go.RowKit Go.Shelf

/-- What Add tells of a and b, and of their sum and c, and what Sum tells of all three. -/
theorem back_add (a b c : Int) (ha : Word a) (hb : Word b) (hc : Word c) :
    (fits (a + b) = true ∧ kept (a + b) = a + b ∧ Word (a + b) ∧ left (a + b) b = a ∧ decide (b ≤ a + b) = true ∧ kept (a + b + c) = kept (tot [a, b, c]) ∧ fits (a + b + c) = fits (tot [a, b, c])) ∨
    (fits (a + b) = false ∧ kept (a + b) = 0 ∧ IntKind.u64.wrap (a + b) < a ∧ fits (tot [a, b, c]) = false) := by
  obtain ⟨a0, a1⟩ := ha; obtain ⟨b0, b1⟩ := hb; obtain ⟨c0, c1⟩ := hc
  have e : tot [a, b, c] = a + b + c := by simp [tot]; omega
  by_cases h : a + b < 18446744073709551616
  · refine Or.inl ⟨fits_yes h, kept_yes h, ⟨by omega, h⟩, by rw [left_yes (by omega)]; omega, by simp; omega, by rw [e], by rw [e]⟩
  · refine Or.inr ⟨fits_no (by omega), kept_no (by omega), ?_, fits_no (by omega)⟩
    rw [IntKind.wrap_u64]; omega
theorem back_mul (a b : Int) (ha : Word a) (hb : Word b) :
    (fits (a * b) = true ∧ a ≤ 0) ∨ (fits (a * b) = true ∧ 0 < a ∧ 0 ≤ kept (a * b) ∧ IntKind.u64.wrap ((kept (a * b)).tdiv a) = b ∧ kept (a * b) % a = 0) ∨ fits (a * b) = false := by
  obtain ⟨a0, a1⟩ := ha; obtain ⟨b0, b1⟩ := hb
  by_cases h : a * b < 18446744073709551616
  · by_cases hz : a = 0
    · exact Or.inl ⟨fits_yes h, by omega⟩
    · refine Or.inr (Or.inl ⟨fits_yes h, by omega, ?_, ?_, ?_⟩) <;> rw [kept_yes h]
      · exact Int.mul_nonneg a0 b0
      · rw [Int.tdiv_eq_ediv_of_nonneg (Int.mul_nonneg a0 b0), Int.mul_ediv_cancel_left b hz, IntKind.wrap_u64]; omega
      · exact Int.mul_emod_right a b
  · exact Or.inr (Or.inr (fits_no (by omega)))

set_option maxRecDepth 100000 in
set_option maxHeartbeats 4000000 in
theorem back_any (a b c : Int) (ha : Word a) (hb : Word b) (hc : Word c) (w : World) :
    Calls Try.prog 7 #[.int .u64 a, .int .u64 b, .int .u64 c] w fun e w' => e = .returned (.bool true) ∧ Grown w w' := by
  have A1 := back_add a b c ha hb hc
  have M1 := back_mul a b ha hb
  have a0 := ha.1
  have b0 := hb.1
  have wx : Words [a, b, c] := by unfold Words; simp only [List.mem_cons, List.not_mem_nil, or_false]; rintro x (rfl | rfl | rfl) <;> assumption
  have wl : [a, b, c].length ≤ 4611686018427387904 := by simp
  have C1 := Lib.hid (Int.add_comm b a)
  have C2 := Lib.hid (Int.mul_comm b a)
  obtain ⟨m, em⟩ : ∃ p, kept (a * b) = p := ⟨_, rfl⟩
  obtain ⟨good, egood⟩ : ∃ p, fits (a * b) = p := ⟨_, rfl⟩
  obtain ⟨x, ex⟩ : ∃ p, kept (tot [a, b, c]) = p := ⟨_, rfl⟩
  obtain ⟨yes, eyes⟩ : ∃ p, fits (tot [a, b, c]) = p := ⟨_, rfl⟩
  rw [egood, em] at M1
  rw [ex, eyes] at A1
  have EM := Lib.hid em; have EG := Lib.hid egood; have EX := Lib.hid ex; have EY := Lib.hid eyes
  clear em egood ex eyes
  have WX := Lib.hid wx; have WL := Lib.hid wl; clear wx wl
  have MUL1 := fun w => mul_is ha hb EM.out EG.out w
  have MUL2 := fun w => mul_is (r := m) (t := good) hb ha (by rw [C2.out]; exact EM.out) (by rw [C2.out]; exact EG.out) w
  have SUM : ∀ (w : World) (A : Option Addr), Lies w A [a, b, c] → Calls Try.prog 12 #[.slice A 3 3] w fun e w' => e = .returned (.tuple #[.int .u64 x, .bool yes]) ∧ w = w' :=
    fun w A h => sum_is w rfl WX.out WL.out EX.out EY.out h
  have K4 := Lib.hid MUL1; have K5 := Lib.hid MUL2; have K6 := Lib.hid SUM
  clear MUL1 MUL2 SUM
  rcases A1 with ⟨e1, e2, e3, e4, e5, e6, e7⟩ | ⟨e1, e2, e3, rfl⟩
  · have K := Lib.hid fun w => add_is ha hb e2 e1 w
    have K2 := Lib.hid fun w => add_is (r := a + b) (t := true) hb ha (by rw [C1.out]; exact e2) (by rw [C1.out]; exact e1) w
    have K3 := Lib.hid fun w => add_is e3 hc e6 e7 w
    have K7 := Lib.hid fun w => sub_is e3 hb e4 e5 w
    have e8 := e3.1
    clear e1 e2 e3 e4 e5 e6 e7
    cases yes <;> rcases M1 with ⟨rfl, M1⟩ | ⟨rfl, m1, m2, m3, m4⟩ | rfl
    all_goals
      go_enter Try.func7, Try.ntmps7
      go_wp2_with (first
        | ((with_reducible refine (K.out _).mono ?_); rintro e w' ⟨rfl, rfl⟩)
        | ((with_reducible refine (K2.out _).mono ?_); rintro e w' ⟨rfl, rfl⟩)
        | ((with_reducible refine (K3.out _).mono ?_); rintro e w' ⟨rfl, rfl⟩)
        | ((with_reducible refine (K4.out _).mono ?_); rintro e w' ⟨rfl, rfl⟩)
        | ((with_reducible refine (K5.out _).mono ?_); rintro e w' ⟨rfl, rfl⟩)
        | ((with_reducible refine (K7.out _).mono ?_); rintro e w' ⟨rfl, rfl⟩)
        | (go_at_call 12; refine (K6.out _ _ (lies_three _ a b c)).mono ?_; rintro e w' ⟨rfl, rfl⟩)
        | (go_at_call 11; refine (awake_any _).mono ?_; rintro e w' ⟨rfl, rfl⟩))
    all_goals
      go_ret
      exact ⟨rfl, ((Grown.refl _).alloc _ _).alloc _ _⟩
  · have K := Lib.hid fun w => add_is ha hb e2 e1 w
    have K2 := Lib.hid fun w => add_is (r := 0) (t := false) hb ha (by rw [C1.out]; exact e2) (by rw [C1.out]; exact e1) w
    obtain ⟨y, ey⟩ : ∃ p, kept (0 + c) = p := ⟨_, rfl⟩
    obtain ⟨too, etoo⟩ : ∃ p, fits (0 + c) = p := ⟨_, rfl⟩
    have K3 := Lib.hid fun w => add_is (word_lit : Word 0) hc ey etoo w
    have K7 := K3
    clear e1 e2 ey etoo
    rcases M1 with ⟨rfl, M1⟩ | ⟨rfl, m1, m2, m3, m4⟩ | rfl
    all_goals
      go_enter Try.func7, Try.ntmps7
      go_wp2_with (first
        | ((with_reducible refine (K.out _).mono ?_); rintro e w' ⟨rfl, rfl⟩)
        | ((with_reducible refine (K2.out _).mono ?_); rintro e w' ⟨rfl, rfl⟩)
        | ((with_reducible refine (K3.out _).mono ?_); rintro e w' ⟨rfl, rfl⟩)
        | ((with_reducible refine (K4.out _).mono ?_); rintro e w' ⟨rfl, rfl⟩)
        | ((with_reducible refine (K5.out _).mono ?_); rintro e w' ⟨rfl, rfl⟩)
        | ((with_reducible refine (K7.out _).mono ?_); rintro e w' ⟨rfl, rfl⟩)
        | (go_at_call 12; refine (K6.out _ _ (lies_three _ a b c)).mono ?_; rintro e w' ⟨rfl, rfl⟩)
        | (go_at_call 11; refine (awake_any _).mono ?_; rintro e w' ⟨rfl, rfl⟩))
    all_goals
      go_ret
      exact ⟨rfl, ((Grown.refl _).alloc _ _).alloc _ _⟩
end Go.Proofs.Ytmpbijdgmmjnoaa
