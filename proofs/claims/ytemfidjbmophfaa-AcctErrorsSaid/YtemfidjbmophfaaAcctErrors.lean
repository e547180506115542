/- AcctErrors answers true, and makes only new memory. Conditions: acct's calls are as their contracts say. -/
import Derived.Test.YtemfidjbmophfaaAcctAwake
import Derived.Test.YtemfidjbmophfaaBlk
import Derived.Deep.CutBlock
import Derived.Deep.DeepCutAuto
import Derived.Laws.BitsLemmas
namespace Go.Proofs.Ytemfidjbmophfaa
open Go.RowKit Go.WideShapes

theorem mask255 (n : Int) : bits .and .i64 n 255 = n % 256 := by
  have key : (BitVec.ofInt 64 n &&& BitVec.ofInt 64 255).toNat = (n % ((2 ^ 64 : Nat) : Int)).toNat % 2 ^ 8 := by
    rw [BitVec.toNat_and, BitVec.toNat_ofInt, show (BitVec.ofInt 64 255).toNat = 2 ^ 8 - 1 by decide, Nat.and_two_pow_sub_one_eq_mod]
  show IntKind.i64.wrap ((BitVec.ofInt 64 n &&& BitVec.ofInt 64 255).toNat : Nat) = n % 256
  rw [key, IntKind.wrap_i64]
  omega
/-- What is there ahead of each row. -/
def erX : Accts := [(0, 0), (0, 7)]
theorem er_first : putE (newA 2) 1 1 7 = 0 ∧ putX (newA 2) 1 1 7 = erX := by decide +kernel
def erE (tk : Bool) (c s n : Int) : Int := if tk then takeE erX c s n else putE erX c s n
def erY (tk : Bool) (c s n : Int) : Accts := if tk then takeX erX c s n else putX erX c s n
/-- A row of the table, as it should be. -/
def ErRow (tk : Bool) (c s n e : Int) : Prop :=
  I64 c ∧ I64 s ∧ U64 n ∧ putX erX c s 0 = erX ∧ erE tk c s n = e ∧ sumOk (erY tk c s n) 1 = true ∧ sumOk (erY tk c s n) 2 = false ∧
    (e = 0 → sumV (erY tk c s n) 1 = (if tk then 7 - n else 7 + n) ∧ 0 ≤ sumV (erY tk c s n) 1 ∧ sumV (erY tk c s n) 1 < 18446744073709551616) ∧ (e ≠ 0 → sumV (erY tk c s n) 1 = 7)
def ErAt (wx : World) (g r : Nat) (tk : Bool) (c s n e : Int) : Prop :=
  wx.cell? ⟨g, r * 5, none⟩ = some (.bool tk) ∧ wx.cell? ⟨g, r * 5 + 1, none⟩ = some (.int .i64 c) ∧ wx.cell? ⟨g, r * 5 + 2, none⟩ = some (.int .i64 s) ∧ wx.cell? ⟨g, r * 5 + 3, none⟩ = some (.int .u64 n) ∧ wx.cell? ⟨g, r * 5 + 4, none⟩ = some (.int .i64 e)
def ErTable (wx : World) (g : Nat) : Prop := ∀ r : Nat, r < 12 → ∃ (tk : Bool) (c s n e : Int), ErRow tk c s n e ∧ ErAt wx g r tk c s n e
/-- The table, cell by cell. -/
def erCells : Array Value := #[
  .bool false, .int .i64 (-1), .int .i64 9, .int .u64 1, .int .i64 2,
  .bool false, .int .i64 2, .int .i64 0, .int .u64 1, .int .i64 2,
  .bool false, .int .i64 1, .int .i64 (-1), .int .u64 1, .int .i64 3,
  .bool false, .int .i64 1, .int .i64 2, .int .u64 1, .int .i64 3,
  .bool false, .int .i64 1, .int .i64 1, .int .u64 18446744073709551608, .int .i64 0,
  .bool false, .int .i64 1, .int .i64 1, .int .u64 18446744073709551609, .int .i64 5,
  .bool true, .int .i64 (-1), .int .i64 9, .int .u64 1, .int .i64 2,
  .bool true, .int .i64 0, .int .i64 2, .int .u64 0, .int .i64 3,
  .bool true, .int .i64 1, .int .i64 1, .int .u64 7, .int .i64 0,
  .bool true, .int .i64 1, .int .i64 1, .int .u64 8, .int .i64 4,
  .bool true, .int .i64 0, .int .i64 1, .int .u64 0, .int .i64 0,
  .bool true, .int .i64 0, .int .i64 1, .int .u64 1, .int .i64 4]
theorem er_at (w : World) (t : TypeId) (i : Nat) : (w.alloc (.cells erCells t)).cell? ⟨w.heap.size, i, none⟩ = erCells[i]? := by
  rw [World.cell?_alloc_new]
theorem er_table (w : World) (t : TypeId) : ErTable (w.alloc (.cells erCells t)) w.heap.size := by
  intro r hr
  unfold ErAt
  simp only [er_at]
  match r, hr with
  | 0, _ => exact ⟨false, -1, 9, 1, 2, by unfold ErRow; decide +kernel, rfl, rfl, rfl, rfl, rfl⟩
  | 1, _ => exact ⟨false, 2, 0, 1, 2, by unfold ErRow; decide +kernel, rfl, rfl, rfl, rfl, rfl⟩
  | 2, _ => exact ⟨false, 1, -1, 1, 3, by unfold ErRow; decide +kernel, rfl, rfl, rfl, rfl, rfl⟩
  | 3, _ => exact ⟨false, 1, 2, 1, 3, by unfold ErRow; decide +kernel, rfl, rfl, rfl, rfl, rfl⟩
  | 4, _ => exact ⟨false, 1, 1, 18446744073709551608, 0, by unfold ErRow; decide +kernel, rfl, rfl, rfl, rfl, rfl⟩
  | 5, _ => exact ⟨false, 1, 1, 18446744073709551609, 5, by unfold ErRow; decide +kernel, rfl, rfl, rfl, rfl, rfl⟩
  | 6, _ => exact ⟨true, -1, 9, 1, 2, by unfold ErRow; decide +kernel, rfl, rfl, rfl, rfl, rfl⟩
  | 7, _ => exact ⟨true, 0, 2, 0, 3, by unfold ErRow; decide +kernel, rfl, rfl, rfl, rfl, rfl⟩
  | 8, _ => exact ⟨true, 1, 1, 7, 0, by unfold ErRow; decide +kernel, rfl, rfl, rfl, rfl, rfl⟩
  | 9, _ => exact ⟨true, 1, 1, 8, 4, by unfold ErRow; decide +kernel, rfl, rfl, rfl, rfl, rfl⟩
  | 10, _ => exact ⟨true, 0, 1, 0, 0, by unfold ErRow; decide +kernel, rfl, rfl, rfl, rfl, rfl⟩
  | 11, _ => exact ⟨true, 0, 1, 1, 4, by unfold ErRow; decide +kernel, rfl, rfl, rfl, rfl, rfl⟩

set_option maxRecDepth 100000 in
set_option maxHeartbeats 8000000 in
theorem errors_any (T : AcctApi) (n0 : Int) (w : World) :
    Calls Try.prog 3 #[.int .i64 n0] w fun e w' => e = .returned (.bool true) ∧ Below w.heap.size w w' := by
  have h255 := mask255 n0
  have h1 : 0 ≤ n0 % 256 := by omega
  have h2 : n0 % 256 < 256 := by omega
  obtain ⟨r, hr⟩ : ∃ r : Nat, n0 % 256 % 12 = r := ⟨(n0 % 256 % 12).toNat, by omega⟩
  have hr1 : r < 12 := by omega
  go_enter Try.func3, Try.ntmps3
  go_wp2_with fail
  refine (st_acct T (St.start w w (Below.refl _ _)) 2 (by decide)).mono ?_
  rintro e w1 ⟨p, rfl, h1'⟩
  have K := Lib.hid (h1'.aput 1 1 7 (by decide) (by decide) (by decide))
  rw [er_first.1, er_first.2] at K
  clear h1'
  go_wp2_with fail
  refine K.out.mono ?_
  rintro e w2 ⟨rfl, h2'⟩
  have H2 := Lib.hid h2'
  clear h2' K
  go_upto_region 5 with fail
  go_cut [4] (fun s4 wx => ∃ g : Nat, s4 = .slice (some ⟨g, 0, none⟩) 12 12 ∧ ErTable wx g ∧ St w wx (star (T.IsA (.pointer (some p)) erX) nothing))
  case first =>
    go_wp2_with fail
    go_meet
    exact ⟨w2.heap.size, rfl, er_table w2 _, H2.out.alloc _⟩
  case rest =>
    obtain ⟨g, rfl, ht, hst⟩ := hcut
    obtain ⟨w3, rfl⟩ : ∃ w3 : World, w3 = wc := ⟨_, rfl⟩
    obtain ⟨tk, c, s, n, e, hrow, ⟨c0, c1, c2, c3, c4⟩⟩ := ht r hr1
    obtain ⟨r1, r2, r3, r4, r5, r6, r7, r8, r9⟩ := hrow
    have HST := Lib.hid hst; have R1 := Lib.hid r1; have R2 := Lib.hid r2; have R3 := Lib.hid r3; have R5 := Lib.hid r5; have R6 := Lib.hid r6; have R7 := Lib.hid r7; have R8 := Lib.hid r8; have R9 := Lib.hid r9
    have HK := Lib.hid (fun (ts : TypeId) => by
      have K := (HST.out.add ((Below.refl _ _).alloc (Nat.le_refl _) _) (Blk.made w3 #[.bool tk, .int .i64 c, .int .i64 s, .int .u64 n, .int .i64 e] ts) (fun k hk => by rw [hk]; exact Nat.le_refl _)).swap.aput c s 0 R1.out R2.out (by decide)
      rw [r4] at K
      exact K)
    clear ht hst r1 r2 r3 r4 r5 r6 r7 r8 r9 H2
    go_wp2_with fail
    refine (HK.out _).mono ?_
    rintro e4 w4 ⟨rfl, h4⟩
    obtain ⟨z0, hz0⟩ : ∃ z, putE erX c s 0 = z := ⟨_, rfl⟩
    rw [hz0]
    obtain ⟨_, _, hcc, _⟩ := h4.swap.blk
    have a0 := hcc 0 _ rfl
    have a1 := hcc 1 _ rfl
    have a2 := hcc 2 _ rfl
    have a3 := hcc 3 _ rfl
    clear hcc hz0 c0 c1 c2 c3 c4 HK HST
    rcases tk with _ | _
    · have K := h4.aput c s n R1.out R2.out R3.out
      rw [show putE erX c s n = e from R5.out, show putX erX c s n = erY false c s n from rfl] at K
      have HK2 := Lib.hid K
      clear K h4
      go_wp2_with fail
      refine HK2.out.mono ?_
      rintro e5 w5 ⟨rfl, h5⟩
      have K := h5.asum 1 (by decide)
      obtain ⟨v, hv⟩ : ∃ v, sumV (erY false c s n) 1 = v := ⟨_, rfl⟩
      rw [R6.out, hv] at K
      have HK3 := Lib.hid K; have HV := Lib.hid hv
      clear K h5 hv HK2 a0 a1 a2 a3
      go_wp2_with fail
      refine HK3.out.mono ?_
      rintro e6 w6 ⟨rfl, h6, _⟩
      have K := h6.asum 2 (by decide)
      obtain ⟨v2, hv2⟩ : ∃ v, sumV (erY false c s n) 2 = v := ⟨_, rfl⟩
      rw [R7.out, hv2] at K
      have HK4 := Lib.hid K
      clear K h6 hv2 HK3
      go_wp2_with fail
      refine HK4.out.mono ?_
      rintro e7 w7 ⟨rfl, h7, _⟩
      obtain ⟨_, _, hcc, _⟩ := h7.swap.blk
      have a0 := hcc 0 _ rfl
      have a3 := hcc 3 _ rfl
      have a4 := hcc 4 _ rfl
      have HBW := Lib.hid h7.below
      have hsz := h7.size
      have HSZ := Lib.hid hsz
      clear hcc h7 HK4 hsz
      by_cases he : e = 0
      · have hv7 := R8.out he
        rw [HV.out] at hv7
        have hw : IntKind.u64.wrap (7 + n) = v := by
          rw [IntWalk.u64_in _ (by have := hv7.1; have h2 := hv7.2; simp only [Bool.false_eq_true, if_false] at this; omega)]
          exact hv7.1.symm
        subst he
        clear hv7
        go_wp2_with fail
        refine (aawake_any T _).mono ?_
        rintro e8 w8 ⟨rfl, hb8⟩
        have HB8 := Lib.hid hb8
        clear hb8
        go_wp2_with fail
        go_ret
        exact ⟨rfl, HBW.out.trans (HB8.out.mono HSZ.out)⟩
      · have hv7 := R9.out he
        rw [HV.out] at hv7
        subst hv7
        have b0 : (e == 0) = false := by rw [beq_eq_false_iff_ne]; exact he
        clear he
        go_wp2_with fail
        refine (aawake_any T _).mono ?_
        rintro e8 w8 ⟨rfl, hb8⟩
        have HB8 := Lib.hid hb8
        clear hb8
        go_wp2_with fail
        go_ret
        exact ⟨rfl, HBW.out.trans (HB8.out.mono HSZ.out)⟩
    · have K := h4.atake c s n R1.out R2.out R3.out
      rw [show takeE erX c s n = e from R5.out, show takeX erX c s n = erY true c s n from rfl] at K
      have HK2 := Lib.hid K
      clear K h4
      go_wp2_with fail
      refine HK2.out.mono ?_
      rintro e5 w5 ⟨rfl, h5⟩
      have K := h5.asum 1 (by decide)
      obtain ⟨v, hv⟩ : ∃ v, sumV (erY true c s n) 1 = v := ⟨_, rfl⟩
      rw [R6.out, hv] at K
      have HK3 := Lib.hid K; have HV := Lib.hid hv
      clear K h5 hv HK2 a0 a1 a2 a3
      go_wp2_with fail
      refine HK3.out.mono ?_
      rintro e6 w6 ⟨rfl, h6, _⟩
      have K := h6.asum 2 (by decide)
      obtain ⟨v2, hv2⟩ : ∃ v, sumV (erY true c s n) 2 = v := ⟨_, rfl⟩
      rw [R7.out, hv2] at K
      have HK4 := Lib.hid K
      clear K h6 hv2 HK3
      go_wp2_with fail
      refine HK4.out.mono ?_
      rintro e7 w7 ⟨rfl, h7, _⟩
      obtain ⟨_, _, hcc, _⟩ := h7.swap.blk
      have a0 := hcc 0 _ rfl
      have a3 := hcc 3 _ rfl
      have a4 := hcc 4 _ rfl
      have HBW := Lib.hid h7.below
      have hsz := h7.size
      have HSZ := Lib.hid hsz
      clear hcc h7 HK4 hsz
      by_cases he : e = 0
      · have hv7 := R8.out he
        rw [HV.out] at hv7
        have hw : IntKind.u64.wrap (7 - n) = v := by
          rw [IntWalk.u64_in _ (by have := hv7.1; have h2 := hv7.2; simp only [if_true] at this; omega)]
          exact hv7.1.symm
        subst he
        clear hv7
        go_wp2_with fail
        refine (aawake_any T _).mono ?_
        rintro e8 w8 ⟨rfl, hb8⟩
        have HB8 := Lib.hid hb8
        clear hb8
        go_wp2_with fail
        go_ret
        exact ⟨rfl, HBW.out.trans (HB8.out.mono HSZ.out)⟩
      · have hv7 := R9.out he
        rw [HV.out] at hv7
        subst hv7
        have b0 : (e == 0) = false := by rw [beq_eq_false_iff_ne]; exact he
        clear he
        go_wp2_with fail
        refine (aawake_any T _).mono ?_
        rintro e8 w8 ⟨rfl, hb8⟩
        have HB8 := Lib.hid hb8
        clear hb8
        go_wp2_with fail
        go_ret
        exact ⟨rfl, HBW.out.trans (HB8.out.mono HSZ.out)⟩
end Go.Proofs.Ytemfidjbmophfaa
