/- The contracts of chk.Sum, and of the document's own answers of layer 1: the whole number and true, or 0 and false. Conditions: the numbers are words of 64 bits; a row lies in memory and is shorter than 2^62. -/
import Derived.Test.YtnicfhafepiknaaChkA
import Derived.Test.YtnicfhafepiknaaPlain
import Derived.LoopTactic
import Derived.Outline
import Derived.Deep.QuietTactic
import Derived.BigQuiet
namespace Go.Proofs.Ytnicfhafepiknaa
open Go.RowKit Go.Shelf

/-- All are words. -/
def Words (xs : List Int) : Prop := ∀ x ∈ xs, Word x
theorem Words.nonneg {xs : List Int} (h : Words xs) : ∀ x ∈ xs, 0 ≤ x := fun x hx => (h x hx).1
theorem Words.at_ {xs : List Int} (h : Words xs) {k : Nat} (hk : k < xs.length) : Word (xs.getD k 0) := by
  have : xs.getD k 0 = xs[k] := by simp [List.getD, List.getElem?_eq_getElem hk]
  rw [this]; exact h _ (List.getElem_mem hk)
/-- The row of numbers lies at the address (any address, where there are none). -/
def Lies (w : World) (A : Option Addr) (xs : List Int) : Prop :=
  xs = [] ∨ ∃ b off : Nat, A = some ⟨b, off, none⟩ ∧ ∀ j, j < xs.length → w.cell? ⟨b, off + j, none⟩ = some (.int .u64 (xs.getD j 0))

theorem sum_empty (A : Option Addr) (cap : Nat) (w : World) :
    Calls Try.prog 38 #[.slice A 0 cap] w fun e w' => e = .returned (.tuple #[.int .u64 0, .bool true]) ∧ w = w' := by
  go_enter Try.func38, Try.ntmps38
  go_wp2
  go_loop [4, 11] (fun t i => i = .int .i64 0 ∧ t = .int .u64 0) (fun _ _ => 0)
  case atStart => exact ⟨rfl, rfl⟩
  case round =>
    obtain ⟨rfl, rfl⟩ := hrel
    go_wp2
    go_ret2
    exact ⟨rfl, rfl⟩

theorem sum_some (b off cap : Nat) (xs : List Int) (w : World) (hx : Words xs) (hl : xs.length ≤ 4611686018427387904)
    (hc : ∀ j, j < xs.length → w.cell? ⟨b, off + j, none⟩ = some (.int .u64 (xs.getD j 0))) :
    Calls Try.prog 38 #[.slice (some ⟨b, off, none⟩) xs.length cap] w fun e w' => e = .returned (.tuple #[.int .u64 (kept (tot xs)), .bool (fits (tot xs))]) ∧ w = w' := by
  have HC := Lib.hid hc; clear hc
  have HL := Lib.hid hl
  go_enter Try.func38, Try.ntmps38
  go_wp2
  go_loop [4, 11] (fun t i => ∃ k : Nat, k ≤ xs.length ∧ i = .int .i64 k ∧ t = .int .u64 (tot (xs.take k)) ∧ tot (xs.take k) < 18446744073709551616) (fun _ i => xs.length - (intOf i).toNat)
  case atStart => exact ⟨0, Nat.zero_le _, rfl, rfl, by simp [tot]⟩
  case round =>
    obtain ⟨k, hk, rfl, rfl, hlt⟩ := hrel
    have h0 := tot_take_nonneg xs k hx.nonneg
    by_cases hk' : k < xs.length
    · have hw := hx.at_ hk'
      have hcell := HC.out k hk'
      have hs := tot_take_succ xs k hk'
      have hle := tot_take_le xs (k + 1) hx.nonneg
      generalize xs.getD k 0 = x at hw hcell hs
      generalize tot (xs.take k) = t at hs hlt h0 ⊢
      by_cases hf : t + x < 18446744073709551616
      · have H1 := Lib.hid hs; clear hs; clear hle
        go_wp2_with (go_at_call 35; refine (add_yes _ _ ⟨h0, hlt⟩ hw hf _).mono ?_; rintro e w' ⟨rfl, rfl⟩)
        go_round
        case rel => exact ⟨k + 1, by omega, by go_num, by rw [H1.out], by rw [H1.out]; exact hf⟩
        case measure => simp [intOf]; omega
      · have hf : 18446744073709551616 ≤ t + x := by omega
        have hn : 18446744073709551616 ≤ tot xs := by omega
        have H1 := Lib.hid hs; clear hs; clear hle
        go_wp2_with (go_at_call 35; refine (add_none _ _ ⟨h0, hlt⟩ hw hf _).mono ?_; rintro e w' ⟨rfl, rfl⟩)
        go_ret2
        exact ⟨by rw [kept_no hn, fits_no hn]; rfl, rfl⟩
    · have hk2 : k = xs.length := by omega
      subst hk2
      rw [List.take_length] at *
      go_wp2
      go_ret2
      exact ⟨by rw [kept_yes hlt, fits_yes hlt]; rfl, rfl⟩

/-- chk.Sum, whatever the row. -/
theorem sum_any (A : Option Addr) (cap : Nat) (xs : List Int) (w : World) (hx : Words xs) (hl : xs.length ≤ 4611686018427387904) (h : Lies w A xs) :
    Calls Try.prog 38 #[.slice A xs.length cap] w fun e w' => e = .returned (.tuple #[.int .u64 (kept (tot xs)), .bool (fits (tot xs))]) ∧ w = w' := by
  rcases h with rfl | ⟨b, off, rfl, hc⟩
  · have := sum_empty A cap w
    simpa [tot, kept, fits] using this
  · exact sum_some b off cap xs w hx hl hc
end Go.Proofs.Ytnicfhafepiknaa
