/- The document's own answers of layer 1 tell the same as chk's contracts: the whole number and true, or 0 and false. Conditions: the numbers are words of 64 bits; a row lies in memory and is shorter than 2^62. -/
import Derived.Test.YtmpbijdgmmjnoaaSum
namespace Go.Proofs.Ytmpbijdgmmjnoaa
open Go.RowKit Go.Shelf

theorem radd_any (a b : Int) (ha : Word a) (hb : Word b) (w : World) :
    Calls Try.prog 13 #[.int .u64 a, .int .u64 b] w fun e w' => e = .returned (.tuple #[.int .u64 (kept (a + b)), .bool (fits (a + b))]) ∧ w = w' := by
  obtain ⟨a0, a1⟩ := ha; obtain ⟨b0, b1⟩ := hb
  by_cases h : a + b < 18446744073709551616
  · rw [kept_yes h, fits_yes h]
    have h2 : ¬ 18446744073709551615 - b < a := by omega
    go_enter Try.func13, Try.ntmps13
    go_wp2
    go_ret2
    exact ⟨rfl, rfl⟩
  · have h : 18446744073709551616 ≤ a + b := by omega
    rw [kept_no h, fits_no h]
    have h2 : 18446744073709551615 - b < a := by omega
    go_enter Try.func13, Try.ntmps13
    go_wp2
    go_ret2
    exact ⟨rfl, rfl⟩
theorem rsub_any (a b : Int) (ha : Word a) (hb : Word b) (w : World) :
    Calls Try.prog 14 #[.int .u64 a, .int .u64 b] w fun e w' => e = .returned (.tuple #[.int .u64 (left a b), .bool (decide (b ≤ a))]) ∧ w = w' := by
  obtain ⟨a0, a1⟩ := ha; obtain ⟨b0, b1⟩ := hb
  by_cases h : a < b
  · have e : decide (b ≤ a) = false := by simp; omega
    rw [left_no h, e]; clear e
    go_enter Try.func14, Try.ntmps14
    go_wp2
    go_ret2
    exact ⟨rfl, rfl⟩
  · have h : b ≤ a := by omega
    have e : decide (b ≤ a) = true := by simp; omega
    rw [left_yes h, e]; clear e
    have h2 : 0 ≤ a - b := by omega
    go_enter Try.func14, Try.ntmps14
    go_wp2
    go_ret2
    exact ⟨rfl, rfl⟩
theorem quo_yes {a b : Int} (ha : 0 < a) (h : a * b < 18446744073709551616) : ¬ (18446744073709551615 : Int) / a < b := by
  rw [quo_lt_iff ha]; omega
theorem quo_no {a b : Int} (ha : 0 < a) (h : 18446744073709551616 ≤ a * b) : (18446744073709551615 : Int) / a < b := by
  rw [quo_lt_iff ha]; omega
theorem rmul_any (a b : Int) (ha : Word a) (hb : Word b) (w : World) :
    Calls Try.prog 15 #[.int .u64 a, .int .u64 b] w fun e w' => e = .returned (.tuple #[.int .u64 (kept (a * b)), .bool (fits (a * b))]) ∧ w = w' := by
  obtain ⟨a0, a1⟩ := ha; obtain ⟨b0, b1⟩ := hb
  have p0 := Int.mul_nonneg a0 b0
  by_cases h : a * b < 18446744073709551616
  · have P := Lib.hid p0; have HH := Lib.hid h
    by_cases hz : a = 0
    · subst hz
      have e : kept (0 * b) = 0 := by simp [kept]
      have e' : fits (0 * b) = true := by simp [fits]
      rw [e, e']; clear e e' p0 h
      go_enter Try.func15, Try.ntmps15
      go_wp2
      go_ret2
      exact ⟨rfl, rfl⟩
    · have hp : 0 < a := by omega
      have hq := quo_yes hp h
      rw [kept_yes h, fits_yes h]
      have hn : (a == 0) = false := by simp [hz]
      have hn2 : (a != 0) = true := by simp [hz]
      go_enter Try.func15, Try.ntmps15
      go_wp2
      go_ret2
      exact ⟨rfl, rfl⟩
  · have h : 18446744073709551616 ≤ a * b := by omega
    have hp : 0 < a := by
      rcases Int.lt_or_eq_of_le a0 with h1 | h1
      · exact h1
      · subst h1; simp at h
    have hz : ¬ a = 0 := by omega
    have hq := quo_no hp h
    have hn : (a == 0) = false := by simp [hz]
    have hn2 : (a != 0) = true := by simp [hz]
    rw [kept_no h, fits_no h]
    go_enter Try.func15, Try.ntmps15
    go_wp2
    go_ret2
    exact ⟨rfl, rfl⟩

theorem rsum_empty (A : Option Addr) (cap : Nat) (w : World) :
    Calls Try.prog 16 #[.slice A 0 cap] w fun e w' => e = .returned (.tuple #[.int .u64 0, .bool true]) ∧ w = w' := by
  go_enter Try.func16, Try.ntmps16
  go_wp2
  go_loop [4, 5, 6] (fun t o i => i = .int .i64 0 ∧ t = .int .u64 0 ∧ o = .bool true) (fun _ _ _ => 0)
  case atStart => exact ⟨rfl, rfl, rfl⟩
  case round =>
    obtain ⟨rfl, rfl, rfl⟩ := hrel
    go_wp2
    go_ret2
    exact ⟨rfl, rfl⟩

theorem rsum_some (b off cap : Nat) (xs : List Int) (w : World) (hx : Words xs) (hl : xs.length ≤ 4611686018427387904)
    (hc : ∀ j, j < xs.length → w.cell? ⟨b, off + j, none⟩ = some (.int .u64 (xs.getD j 0))) :
    Calls Try.prog 16 #[.slice (some ⟨b, off, none⟩) xs.length cap] w fun e w' => e = .returned (.tuple #[.int .u64 (kept (tot xs)), .bool (fits (tot xs))]) ∧ w = w' := by
  have HC := Lib.hid hc; clear hc
  go_enter Try.func16, Try.ntmps16
  go_wp2
  go_loop [4, 5, 6] (fun t o i => ∃ k : Nat, k ≤ xs.length ∧ i = .int .i64 k ∧ t = .int .u64 (kept (tot (xs.take k))) ∧ o = .bool (fits (tot (xs.take k)))) (fun _ _ i => xs.length - (intOf i).toNat)
  case atStart => exact ⟨0, Nat.zero_le _, rfl, rfl, rfl⟩
  case round =>
    obtain ⟨k, hk, rfl, rfl, rfl⟩ := hrel
    have h0 := tot_take_nonneg xs k hx.nonneg
    have hle := tot_take_le xs k hx.nonneg
    by_cases hf : tot (xs.take k) < 18446744073709551616
    · have hy := kept_yes hf
      have hb := fits_yes hf
      by_cases hk' : k < xs.length
      · have hw := hx.at_ hk'
        have hcell := HC.out k hk'
        have hs := Lib.hid (tot_take_succ xs k hk')
        generalize xs.getD k 0 = x at hw hcell hs
        generalize tot (xs.take k) = t at hs hf h0 hy hb hle ⊢
        rw [hy, hb]
        clear hy hb hle
        obtain ⟨r, er⟩ : ∃ p, kept (t + x) = p := ⟨_, rfl⟩
        obtain ⟨o, eo⟩ : ∃ p, fits (t + x) = p := ⟨_, rfl⟩
        have R := radd_any t x ⟨h0, hf⟩ hw
        rw [er, eo] at R
        have ER := Lib.hid er; have EO := Lib.hid eo; clear er eo
        have K := Lib.hid R; clear R
        go_wp2_with (go_at_call 13; refine (K.out _).mono ?_; rintro e w' ⟨rfl, rfl⟩)
        go_round
        case rel => exact ⟨k + 1, by omega, by go_num, by rw [hs.out, ER.out], by rw [hs.out, EO.out]⟩
        case measure => simp [intOf]; omega
      · have hk2 : k = xs.length := by omega
        subst hk2
        rw [List.take_length] at *
        rw [hy, hb]
        have HY := Lib.hid hy; have HB := Lib.hid hb; clear hy hb
        go_wp2
        go_ret2
        exact ⟨by rw [HY.out, HB.out]; rfl, rfl⟩
    · have hf : 18446744073709551616 ≤ tot (xs.take k) := by omega
      rw [kept_no hf, fits_no hf]
      have E1 := Lib.hid (kept_no (show 18446744073709551616 ≤ tot xs by omega))
      have E2 := Lib.hid (fits_no (show 18446744073709551616 ≤ tot xs by omega))
      clear hle hf h0
      by_cases hk' : k < xs.length
      all_goals
        go_wp2
        go_ret2
        exact ⟨by rw [E1.out, E2.out]; rfl, rfl⟩

theorem rsum_any (A : Option Addr) (cap : Nat) (xs : List Int) (w : World) (hx : Words xs) (hl : xs.length ≤ 4611686018427387904) (h : Lies w A xs) :
    Calls Try.prog 16 #[.slice A xs.length cap] w fun e w' => e = .returned (.tuple #[.int .u64 (kept (tot xs)), .bool (fits (tot xs))]) ∧ w = w' := by
  rcases h with rfl | ⟨b, off, rfl, hc⟩
  · have := rsum_empty A cap w
    simpa [tot, kept, fits] using this
  · exact rsum_some b off cap xs w hx hl hc
end Go.Proofs.Ytmpbijdgmmjnoaa
