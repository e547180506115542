/- ChkTells answers true. Conditions: the numbers are words of 64 bits, and the row lies in memory. -/
import Derived.Test.YtmpbijdgmmjnoaaAwake
import Derived.Test.YtmpbijdgmmjnoaaRef
namespace Go.Proofs.Ytmpbijdgmmjnoaa
open Go.RowKit Go.Shelf

theorem word_shr32 {a : Int} (h : Word a) : Word (a / 4294967296) := by
  obtain ⟨h0, h1⟩ := h; exact ⟨by omega, by omega⟩
theorem word_shr31 {a : Int} (h : Word a) : Word (a / 2147483648) := by
  obtain ⟨h0, h1⟩ := h; exact ⟨by omega, by omega⟩
theorem tells_long (a b : Int) (A : Option Addr) (n cap : Nat) (hn : 100 < n) (hn2 : n ≤ 9223372036854775807) (w : World) :
    Calls Try.prog 6 #[.int .u64 a, .int .u64 b, .slice A n cap] w fun e w' => e = .returned (.bool true) ∧ Grown w w' := by
  go_enter Try.func6, Try.ntmps6
  go_wp2_with (go_at_call 11; refine (awake_any _).mono ?_; rintro e w' ⟨rfl, rfl⟩)
  go_ret
  exact ⟨rfl, (Grown.refl _).alloc _ _⟩
set_option maxRecDepth 100000 in
set_option maxHeartbeats 4000000 in
theorem tells_any (a b : Int) (ha : Word a) (hb : Word b) (A : Option Addr) (n cap : Nat) (xs : List Int) (hn : xs.length = n) (hx : Words xs) (hl : n ≤ 100) (w : World) (h : Lies w A xs) :
    Calls Try.prog 6 #[.int .u64 a, .int .u64 b, .slice A n cap] w fun e w' => e = .returned (.bool true) ∧ Grown w w' := by
  obtain ⟨v, ev⟩ : ∃ p, kept (tot xs) = p := ⟨_, rfl⟩
  obtain ⟨yes, ey⟩ : ∃ p, fits (tot xs) = p := ⟨_, rfl⟩
  have SUM : Calls Try.prog 12 #[.slice A n cap] w fun e w' => e = .returned (.tuple #[.int .u64 v, .bool yes]) ∧ w = w' := by
    subst hn; subst ev; subst ey; exact sum_any A cap xs w hx (by omega) h
  have RSUM : Calls Try.prog 16 #[.slice A n cap] w fun e w' => e = .returned (.tuple #[.int .u64 v, .bool yes]) ∧ w = w' := by
    subst hn; subst ev; subst ey; exact rsum_any A cap xs w hx (by omega) h
  have K1 := Lib.hid SUM; have K2 := Lib.hid RSUM
  clear SUM RSUM ev ey hn hx h
  go_enter Try.func6, Try.ntmps6
  go_wp2_with fail
  go_loop [0, 1, 7] (fun sa sb i => ∃ (a b : Int) (k : Nat), k ≤ 2 ∧ Word a ∧ Word b ∧ sa = .int .u64 a ∧ sb = .int .u64 b ∧ i = .int .i64 k) (fun _ _ i => 2 - (intOf i).toNat)
  case atStart => exact ⟨a, b, 0, by omega, ha, hb, rfl, rfl, rfl⟩
  case round =>
    obtain ⟨a, b, k, hk, ha, hb, rfl, rfl, rfl⟩ := hrel
    by_cases hk2 : k < 2
    · obtain ⟨p, ep⟩ : ∃ p, kept (a + b) = p := ⟨_, rfl⟩
      obtain ⟨q, eq⟩ : ∃ p, fits (a + b) = p := ⟨_, rfl⟩
      obtain ⟨r, er⟩ : ∃ p, left a b = p := ⟨_, rfl⟩
      obtain ⟨s, es⟩ : ∃ p, decide (b ≤ a) = p := ⟨_, rfl⟩
      obtain ⟨t, et⟩ : ∃ p, kept (a * b) = p := ⟨_, rfl⟩
      obtain ⟨u, eu⟩ : ∃ p, fits (a * b) = p := ⟨_, rfl⟩
      have A1 := add_any a b ha hb; have A2 := radd_any a b ha hb
      have S1 := sub_any a b ha hb; have S2 := rsub_any a b ha hb
      have M1 := mul_any a b ha hb; have M2 := rmul_any a b ha hb
      rw [ep, eq] at A1 A2; rw [er, es] at S1 S2; rw [et, eu] at M1 M2
      clear ep eq er es et eu
      have A1 := Lib.hid A1; have A2 := Lib.hid A2; have S1 := Lib.hid S1; have S2 := Lib.hid S2; have M1 := Lib.hid M1; have M2 := Lib.hid M2
      have wa := word_shr32 ha
      have wb := word_shr31 hb
      obtain ⟨a0, a1⟩ := ha; obtain ⟨b0, b1⟩ := hb
      go_wp2_with (first
        | (go_at_call 8; refine (A1.out _).mono ?_; rintro e w' ⟨rfl, rfl⟩)
        | (go_at_call 13; refine (A2.out _).mono ?_; rintro e w' ⟨rfl, rfl⟩)
        | (go_at_call 9; refine (S1.out _).mono ?_; rintro e w' ⟨rfl, rfl⟩)
        | (go_at_call 14; refine (S2.out _).mono ?_; rintro e w' ⟨rfl, rfl⟩)
        | (go_at_call 10; refine (M1.out _).mono ?_; rintro e w' ⟨rfl, rfl⟩)
        | (go_at_call 15; refine (M2.out _).mono ?_; rintro e w' ⟨rfl, rfl⟩)
        | (go_at_call 12; refine K1.out.mono ?_; rintro e w' ⟨rfl, rfl⟩)
        | (go_at_call 16; refine K2.out.mono ?_; rintro e w' ⟨rfl, rfl⟩))
      go_round
      case rel => exact ⟨_, _, k + 1, by omega, wa, wb, rfl, rfl, by go_num⟩
      case measure => simp [intOf]; omega
    · have hk3 : k = 2 := by omega
      subst hk3
      go_wp2_with (go_at_call 11; refine (awake_any _).mono ?_; rintro e w' ⟨rfl, rfl⟩)
      go_ret
      exact ⟨rfl, (Grown.refl _).alloc _ _⟩
end Go.Proofs.Ytmpbijdgmmjnoaa
