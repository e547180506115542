/- ChkOrder answers true. Conditions: the three numbers are words of 64 bits. -/
import Derived.Test.YtmpbijdgmmjnoaaAwake
import Derived.Deep.DeepCutAuto
namespace Go.Proofs.Ytmpbijdgmmjnoaa
open Go.RowKit Go.Shelf

/-- What the seven calls of one law tell of a, of the lower and of the higher number. -/
theorem add_order (a lo hi : Int) (h : lo ≤ hi) :
    fits (a + hi) = false ∨ (fits (a + hi) = true ∧ fits (a + lo) = true ∧ kept (a + lo) ≤ kept (a + hi)) := by
  by_cases h1 : a + hi < 18446744073709551616
  · exact Or.inr ⟨fits_yes h1, fits_yes (by omega), by rw [kept_yes h1, kept_yes (by omega)]; omega⟩
  · exact Or.inl (fits_no (by omega))
theorem mul_order (a lo hi : Int) (ha : 0 ≤ a) (h : lo ≤ hi) :
    fits (a * hi) = false ∨ (fits (a * hi) = true ∧ fits (a * lo) = true ∧ kept (a * lo) ≤ kept (a * hi)) := by
  have hm : a * lo ≤ a * hi := Int.mul_le_mul_of_nonneg_left h ha
  by_cases h1 : a * hi < 18446744073709551616
  · exact Or.inr ⟨fits_yes h1, fits_yes (by omega), by rw [kept_yes h1, kept_yes (by omega)]; omega⟩
  · exact Or.inl (fits_no (by omega))
theorem sub_order (a lo hi : Int) (h : lo ≤ hi) :
    (decide (hi ≤ a) = false ∧ decide (a ≤ hi) = true) ∨ (decide (hi ≤ a) = true ∧ decide (lo ≤ a) = true ∧ left a hi ≤ left a lo) := by
  by_cases h1 : hi ≤ a
  · exact Or.inr ⟨by simp [h1], by simp; omega, by rw [left_yes h1, left_yes (by omega)]; omega⟩
  · exact Or.inl ⟨by simp; omega, by simp; omega⟩

/-- The lower and the higher number of two. -/
def LoHi (w : World) (v7 v8 : Value) (wx : World) : Prop := ∃ lo hi : Int, v7 = .int .u64 lo ∧ v8 = .int .u64 hi ∧ lo ≤ hi ∧ Word lo ∧ Word hi ∧ wx = w

set_option maxRecDepth 100000 in
set_option maxHeartbeats 4000000 in
theorem order_any (a b c : Int) (ha : Word a) (hb : Word b) (hc : Word c) (w : World) :
    Calls Try.prog 5 #[.int .u64 a, .int .u64 b, .int .u64 c] w fun e w' => e = .returned (.bool true) ∧ Grown w w' := by
  go_enter Try.func5, Try.ntmps5
  go_upto_region 1 with fail
  go_cut [7, 8] (fun s7 s8 wx => LoHi w s7 s8 wx)
  case first =>
    go_wp2_with fail
    all_goals
      go_meet
      exact ⟨_, _, rfl, rfl, by omega, by assumption, by assumption, rfl⟩
  case rest =>
    obtain ⟨lo, hi, rfl, rfl, hle, hlo, hhi, rfl⟩ := hcut
    have A1 := add_order a lo hi hle
    have S1 := sub_order a lo hi hle
    have M1 := mul_order a lo hi ha.1 hle
    obtain ⟨p, ep⟩ : ∃ p, kept (a + lo) = p := ⟨_, rfl⟩
    obtain ⟨q, eq⟩ : ∃ p, kept (a + hi) = p := ⟨_, rfl⟩
    obtain ⟨r, er⟩ : ∃ p, left a lo = p := ⟨_, rfl⟩
    obtain ⟨s, es⟩ : ∃ p, left a hi = p := ⟨_, rfl⟩
    obtain ⟨t, et⟩ : ∃ p, kept (a * lo) = p := ⟨_, rfl⟩
    obtain ⟨u, eu⟩ : ∃ p, kept (a * hi) = p := ⟨_, rfl⟩
    obtain ⟨ok, eok⟩ : ∃ p, fits (a + lo) = p := ⟨_, rfl⟩
    obtain ⟨is, eis⟩ : ∃ p, fits (a + hi) = p := ⟨_, rfl⟩
    obtain ⟨so, eso⟩ : ∃ p, decide (lo ≤ a) = p := ⟨_, rfl⟩
    obtain ⟨too, etoo⟩ : ∃ p, decide (hi ≤ a) = p := ⟨_, rfl⟩
    obtain ⟨fine, efine⟩ : ∃ p, fits (a * lo) = p := ⟨_, rfl⟩
    obtain ⟨good, egood⟩ : ∃ p, fits (a * hi) = p := ⟨_, rfl⟩
    obtain ⟨ahi, eahi⟩ : ∃ p, decide (a ≤ hi) = p := ⟨_, rfl⟩
    rw [eis, eok, ep, eq] at A1
    rw [etoo, eso, er, es, eahi] at S1
    rw [egood, efine, et, eu] at M1
    have EP := Lib.hid ep; have EQ := Lib.hid eq; have ER := Lib.hid er; have ES := Lib.hid es; have ET := Lib.hid et; have EU := Lib.hid eu
    have EOK := Lib.hid eok; have EIS := Lib.hid eis; have ESO := Lib.hid eso; have ETOO := Lib.hid etoo; have EF := Lib.hid efine; have EG := Lib.hid egood
    have HLE := Lib.hid hle
    clear ep eq er es et eu eok eis eso etoo efine egood hle
    rcases A1 with rfl | ⟨rfl, rfl, A1⟩ <;> rcases S1 with ⟨rfl, rfl⟩ | ⟨rfl, rfl, S1⟩ <;> rcases M1 with rfl | ⟨rfl, rfl, M1⟩
    all_goals
      go_wp2_with (first
        | ((with_reducible refine (add_is ha hlo EP.out EOK.out _).mono ?_); rintro e w' ⟨rfl, rfl⟩)
        | ((with_reducible refine (add_is ha hhi EQ.out EIS.out _).mono ?_); rintro e w' ⟨rfl, rfl⟩)
        | ((with_reducible refine (sub_is ha hlo ER.out ESO.out _).mono ?_); rintro e w' ⟨rfl, rfl⟩)
        | ((with_reducible refine (sub_is ha hhi ES.out ETOO.out _).mono ?_); rintro e w' ⟨rfl, rfl⟩)
        | ((with_reducible refine (mul_is ha hlo ET.out EF.out _).mono ?_); rintro e w' ⟨rfl, rfl⟩)
        | ((with_reducible refine (mul_is ha hhi EU.out EG.out _).mono ?_); rintro e w' ⟨rfl, rfl⟩)
        | (go_at_call 11; refine (awake_any _).mono ?_; rintro e w' ⟨rfl, rfl⟩))
    all_goals
      go_ret
      exact ⟨rfl, (Grown.refl _).alloc _ _⟩
end Go.Proofs.Ytmpbijdgmmjnoaa
