/- ChkEnds answers true. No conditions. -/
import Derived.Test.YtmpbijdgmmjnoaaAwake
import Derived.Deep.DeepCutAuto
import Derived.Laws.BitsLemmas
namespace Go.Proofs.Ytmpbijdgmmjnoaa
open Go.RowKit Go.Shelf
theorem and255 (n : Int) : bits .and .i64 n 255 = n % 256 := by
  have h255 : (BitVec.ofInt 64 255).toNat = 2 ^ 8 - 1 := by decide
  have key : (BitVec.ofInt 64 n &&& BitVec.ofInt 64 255).toNat = (n % ((2 ^ 64 : Nat) : Int)).toNat % 2 ^ 8 := by
    rw [BitVec.toNat_and, BitVec.toNat_ofInt, h255, Nat.and_two_pow_sub_one_eq_mod]
  show IntKind.i64.wrap ((BitVec.ofInt 64 n &&& BitVec.ofInt 64 255).toNat : Nat) = n % 256
  rw [key, IntKind.wrap_i64]
  omega
/-- A row of ChkEnds' table, as it should be. -/
def EndsRow (a b : Int) (ad su mu : Bool) (s d p : Int) : Prop :=
  Word a ∧ Word b ∧ kept (a + b) = s ∧ fits (a + b) = ad ∧ left a b = d ∧ decide (b ≤ a) = su ∧ kept (a * b) = p ∧ fits (a * b) = mu
/-- The table in memory: each of its rows is as it should be. -/
def EndsAt (wx : World) (g r : Nat) (a b : Int) (ad su mu : Bool) (s d p : Int) : Prop :=
  wx.cell? ⟨g, r * 8, none⟩ = some (.int .u64 a) ∧ wx.cell? ⟨g, r * 8 + 1, none⟩ = some (.int .u64 b) ∧ wx.cell? ⟨g, r * 8 + 2, none⟩ = some (.bool ad) ∧ wx.cell? ⟨g, r * 8 + 3, none⟩ = some (.bool su) ∧
  wx.cell? ⟨g, r * 8 + 4, none⟩ = some (.bool mu) ∧ wx.cell? ⟨g, r * 8 + 5, none⟩ = some (.int .u64 s) ∧ wx.cell? ⟨g, r * 8 + 6, none⟩ = some (.int .u64 d) ∧ wx.cell? ⟨g, r * 8 + 7, none⟩ = some (.int .u64 p)
def EndsTable (wx : World) (g : Nat) : Prop :=
  ∀ r : Nat, r < 11 → ∃ (a b : Int) (ad su mu : Bool) (s d p : Int), EndsRow a b ad su mu s d p ∧ EndsAt wx g r a b ad su mu s d p
def EndsFirst (w wx : World) (v : Value) : Prop := ∃ g : Nat, v = .slice (some ⟨g, 0, none⟩) 11 11 ∧ EndsTable wx g ∧ Grown w wx
/-- The table of ChkEnds, cell by cell. -/
def endsCells : Array Value := #[
  .int .u64 0, .int .u64 0, .bool true, .bool true, .bool true, .int .u64 0, .int .u64 0, .int .u64 0,
  .int .u64 18446744073709551615, .int .u64 0, .bool true, .bool true, .bool true, .int .u64 18446744073709551615, .int .u64 18446744073709551615, .int .u64 0,
  .int .u64 0, .int .u64 18446744073709551615, .bool true, .bool false, .bool true, .int .u64 18446744073709551615, .int .u64 0, .int .u64 0,
  .int .u64 18446744073709551615, .int .u64 1, .bool false, .bool true, .bool true, .int .u64 0, .int .u64 18446744073709551614, .int .u64 18446744073709551615,
  .int .u64 18446744073709551615, .int .u64 18446744073709551615, .bool false, .bool true, .bool false, .int .u64 0, .int .u64 0, .int .u64 0,
  .int .u64 9223372036854775808, .int .u64 9223372036854775808, .bool false, .bool true, .bool false, .int .u64 0, .int .u64 0, .int .u64 0,
  .int .u64 9223372036854775807, .int .u64 9223372036854775808, .bool true, .bool false, .bool false, .int .u64 18446744073709551615, .int .u64 0, .int .u64 0,
  .int .u64 4294967296, .int .u64 4294967296, .bool true, .bool true, .bool false, .int .u64 8589934592, .int .u64 0, .int .u64 0,
  .int .u64 4294967296, .int .u64 4294967295, .bool true, .bool true, .bool true, .int .u64 8589934591, .int .u64 1, .int .u64 18446744069414584320,
  .int .u64 6148914691236517205, .int .u64 3, .bool true, .bool true, .bool true, .int .u64 6148914691236517208, .int .u64 6148914691236517202, .int .u64 18446744073709551615,
  .int .u64 6148914691236517206, .int .u64 3, .bool true, .bool true, .bool false, .int .u64 6148914691236517209, .int .u64 6148914691236517203, .int .u64 0]
theorem ends_at (w : World) (t : TypeId) (i : Nat) : (w.alloc (.cells endsCells t)).cell? ⟨w.heap.size, i, none⟩ = endsCells[i]? := by
  rw [World.cell?_alloc_new]
theorem ends_table (w : World) (t : TypeId) : EndsTable (w.alloc (.cells endsCells t)) w.heap.size := by
  intro r hr
  unfold EndsAt
  simp only [ends_at]
  match r, hr with
  | 0, _ => exact ⟨0, 0, true, true, true, 0, 0, 0, by unfold EndsRow Word; decide, rfl, rfl, rfl, rfl, rfl, rfl, rfl, rfl⟩
  | 1, _ => exact ⟨18446744073709551615, 0, true, true, true, 18446744073709551615, 18446744073709551615, 0, by unfold EndsRow Word; decide, rfl, rfl, rfl, rfl, rfl, rfl, rfl, rfl⟩
  | 2, _ => exact ⟨0, 18446744073709551615, true, false, true, 18446744073709551615, 0, 0, by unfold EndsRow Word; decide, rfl, rfl, rfl, rfl, rfl, rfl, rfl, rfl⟩
  | 3, _ => exact ⟨18446744073709551615, 1, false, true, true, 0, 18446744073709551614, 18446744073709551615, by unfold EndsRow Word; decide, rfl, rfl, rfl, rfl, rfl, rfl, rfl, rfl⟩
  | 4, _ => exact ⟨18446744073709551615, 18446744073709551615, false, true, false, 0, 0, 0, by unfold EndsRow Word; decide, rfl, rfl, rfl, rfl, rfl, rfl, rfl, rfl⟩
  | 5, _ => exact ⟨9223372036854775808, 9223372036854775808, false, true, false, 0, 0, 0, by unfold EndsRow Word; decide, rfl, rfl, rfl, rfl, rfl, rfl, rfl, rfl⟩
  | 6, _ => exact ⟨9223372036854775807, 9223372036854775808, true, false, false, 18446744073709551615, 0, 0, by unfold EndsRow Word; decide, rfl, rfl, rfl, rfl, rfl, rfl, rfl, rfl⟩
  | 7, _ => exact ⟨4294967296, 4294967296, true, true, false, 8589934592, 0, 0, by unfold EndsRow Word; decide, rfl, rfl, rfl, rfl, rfl, rfl, rfl, rfl⟩
  | 8, _ => exact ⟨4294967296, 4294967295, true, true, true, 8589934591, 1, 18446744069414584320, by unfold EndsRow Word; decide, rfl, rfl, rfl, rfl, rfl, rfl, rfl, rfl⟩
  | 9, _ => exact ⟨6148914691236517205, 3, true, true, true, 6148914691236517208, 6148914691236517202, 18446744073709551615, by unfold EndsRow Word; decide, rfl, rfl, rfl, rfl, rfl, rfl, rfl, rfl⟩
  | 10, _ => exact ⟨6148914691236517206, 3, true, true, false, 6148914691236517209, 6148914691236517203, 0, by unfold EndsRow Word; decide, rfl, rfl, rfl, rfl, rfl, rfl, rfl, rfl⟩
set_option maxRecDepth 100000 in
set_option maxHeartbeats 1000000 in
theorem ends_any (n : Int) (w : World) :
    Calls Try.prog 3 #[.int .i64 n] w fun e w' => e = .returned (.bool true) ∧ Grown w w' := by
  have h255 := and255 n
  have h1 : 0 ≤ n % 256 := by omega
  have h2 : n % 256 < 256 := by omega
  obtain ⟨r, hr⟩ : ∃ r : Nat, n % 256 % 11 = r := ⟨(n % 256 % 11).toNat, by omega⟩
  have hr1 : r < 11 := by omega
  go_enter Try.func3, Try.ntmps3
  go_upto_region 1 with fail
  go_cut [3] (fun s3 wx => EndsFirst w wx s3)
  case first =>
    go_wp2_with fail
    go_meet
    exact ⟨w.heap.size, rfl, ends_table w _, (Grown.refl _).alloc _ _⟩
  case rest =>
    obtain ⟨g, rfl, ht, hg⟩ := hcut
    obtain ⟨a, b, ad, su, mu, s, d, p, hrow, ⟨c0, c1, c2, c3, c4, c5, c6, c7⟩⟩ := ht r hr1
    clear ht
    have HG := Lib.hid hg; clear hg
    obtain ⟨wa, wb, e1, e2, e3, e4, e5, e6⟩ := hrow
    have E1 := Lib.hid e1; have E2 := Lib.hid e2; have E3 := Lib.hid e3; have E4 := Lib.hid e4; have E5 := Lib.hid e5; have E6 := Lib.hid e6
    clear e1 e2 e3 e4 e5 e6
    go_wp2_with (first
      | (go_at_call 8; refine (add_is wa wb E1.out E2.out _).mono ?_; rintro e w' ⟨rfl, rfl⟩)
      | (go_at_call 9; refine (sub_is wa wb E3.out E4.out _).mono ?_; rintro e w' ⟨rfl, rfl⟩)
      | (go_at_call 10; refine (mul_is wa wb E5.out E6.out _).mono ?_; rintro e w' ⟨rfl, rfl⟩)
      | (go_at_call 11; refine (awake_any _).mono ?_; rintro e w' ⟨rfl, rfl⟩))
    go_ret
    exact ⟨rfl, (HG.out.alloc _ _).alloc _ _⟩
end Go.Proofs.Ytmpbijdgmmjnoaa
