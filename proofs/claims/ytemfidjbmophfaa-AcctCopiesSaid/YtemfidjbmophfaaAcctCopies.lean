/- AcctCopies answers true, and makes only new memory. Conditions: acct's calls are as their contracts say; the rows lie in memory. -/
import Derived.Test.YtemfidjbmophfaaAcctMoves
import Derived.Deep.RegionHeld3
namespace Go.Proofs.Ytemfidjbmophfaa
open Go.RowKit Go.WideShapes

theorem mask1 (n : Int) : bits .and .i64 n 1 = n % 2 := by
  have key : (BitVec.ofInt 64 n &&& BitVec.ofInt 64 1).toNat = (n % ((2 ^ 64 : Nat) : Int)).toNat % 2 ^ 1 := by
    rw [BitVec.toNat_and, BitVec.toNat_ofInt, show (BitVec.ofInt 64 1).toNat = 2 ^ 1 - 1 by decide, Nat.and_two_pow_sub_one_eq_mod]
  show IntKind.i64.wrap ((BitVec.ofInt 64 n &&& BitVec.ofInt 64 1).toNat : Nat) = n % 2
  rw [key, IntKind.wrap_i64]
  omega
theorem umask255 (n : Int) : bits .and .u64 n 255 = n % 256 := by
  have key : (BitVec.ofInt 64 n &&& BitVec.ofInt 64 255).toNat = (n % ((2 ^ 64 : Nat) : Int)).toNat % 2 ^ 8 := by
    rw [BitVec.toNat_and, BitVec.toNat_ofInt, show (BitVec.ofInt 64 255).toNat = 2 ^ 8 - 1 by decide, Nat.and_two_pow_sub_one_eq_mod]
  show IntKind.u64.wrap ((BitVec.ofInt 64 n &&& BitVec.ofInt 64 255).toNat : Nat) = n % 256
  rw [key, IntKind.wrap_u64]
  omega

/-- Where the second loop stands. -/
def CopiesAt (T : AcctApi) (w0 w : World) (pa pw pb : Addr) : Prop :=
  ∃ X Y, St w0 w (star (T.IsA (.pointer (some pb)) X) (star (T.IsA (.pointer (some pw)) X) (star (T.IsA (.pointer (some pa)) Y) nothing)))

set_option maxRecDepth 100000 in
set_option maxHeartbeats 16000000 in
theorem copies_some (T : AcctApi) (A A2 : Option Addr) (cap cap2 : Nat) (hs : List Int) (ps : List MoveV) (w : World) (hlh : hs.length ≤ 9223372036854775807) (hh : NumsIn w A hs) (hlp : ps.length ≤ 9223372036854775807) (hp : MovesAt w A2 ps) :
    Calls Try.prog 5 #[.slice A hs.length cap, .slice A2 ps.length cap2] w fun e w' => e = .returned (.bool true) ∧ Below w.heap.size w w' := by
  obtain ⟨nh, hnh⟩ : ∃ k, hs.length = k := ⟨_, rfl⟩
  obtain ⟨np, hnp⟩ : ∃ k, ps.length = k := ⟨_, rfl⟩
  rw [hnh] at hlh ⊢
  rw [hnp] at hlp ⊢
  have HNH := Lib.hid hnh; have HNP := Lib.hid hnp; have HH := Lib.hid hh; have HP := Lib.hid hp
  clear hnh hnp hh hp
  go_enter Try.func5, Try.ntmps5
  go_wp2_with fail
  refine (st_acct T (St.start w w (Below.refl _ _)) 3 (by decide)).mono ?_
  rintro e w1 ⟨pa, rfl, h1⟩
  have K := Lib.hid (st_acct T h1 3 (by decide))
  clear h1
  go_wp2_with fail
  refine K.out.mono ?_
  rintro e w2 ⟨pw, rfl, h2⟩
  have H2 := Lib.hid h2
  clear h2 K
  go_upto_block 0 with fail
  go_cut [7] (fun _ wx => ∃ X, St w wx (star (T.IsA (.pointer (some pw)) X) (star (T.IsA (.pointer (some pa)) X) nothing)))
  case first =>
    go_wp2_with fail
    go_loopw [7] (fun i wr => ∃ (k : Nat) (X : Accts), k ≤ nh ∧ k ≤ 6 ∧ i = .int .i64 k ∧ St w wr (star (T.IsA (.pointer (some pw)) X) (star (T.IsA (.pointer (some pa)) X) nothing))) (fun i _ => 6 - (intOf i).toNat)
    case atStart => exact ⟨0, newA 3, by omega, by omega, rfl, H2.out⟩
    case round =>
      obtain ⟨k, X, hk, hk6, rfl, hst⟩ := hrel
      have HST := Lib.hid hst
      clear hst H2
      by_cases hgo : k < nh ∧ k < 6
      · obtain ⟨hg1, hg2⟩ := hgo
        obtain ⟨b, off, rfl, hb, hc, hu⟩ := HH.out.at (i := k) (by rw [HNH.out]; exact hg1)
        generalize hs[k]'(by rw [HNH.out]; exact hg1) = x at hc hu
        have hcw := (HST.out.below.cell (p := ⟨b, off + k, none⟩) hb).trans hc
        have hn : Hid (U64 (x / 16)) := Lib.hid ⟨by omega, by omega⟩
        have HC := Lib.hid hc
        have hr3 : Hid (I64 ((k : Int) % 3)) := Lib.hid ⟨by omega, by omega⟩
        have hq3 : Hid (I64 ((k : Int) / 3)) := Lib.hid ⟨by omega, by omega⟩
        have HK := Lib.hid (HST.out.swap.aput ((k : Int) % 3) ((k : Int) / 3) (x / 16) hr3.out hq3.out hn.out)
        clear hu hc
        go_wp2_with fail
        refine HK.out.mono ?_
        rintro e w3 ⟨rfl, h3⟩
        have hcw3 := (h3.below.cell (p := ⟨b, off + k, none⟩) hb).trans HC.out
        have HK2 := Lib.hid (h3.swap.aput ((k : Int) % 3) ((k : Int) / 3) (x / 16) hr3.out hq3.out hn.out)
        clear h3 HK hcw
        go_wp2_with fail
        refine HK2.out.mono ?_
        rintro e w4 ⟨rfl, h4⟩
        have H4 := Lib.hid h4
        clear h4 HK2 hcw3
        go_wp2_with fail
        go_roundw
        case rel => exact ⟨k + 1, _, by omega, by omega, by go_num, H4.out⟩
        case measure => simp [intOf]; omega
      · have hge : k = nh ∨ (k < nh ∧ k = 6) := by omega
        clear hgo
        rcases hge with rfl | ⟨hlt, rfl⟩
        all_goals
          go_wp2_with fail
          go_meet
          exact ⟨X, HST.out⟩
  case rest =>
    obtain ⟨X, hst⟩ := hcut
    obtain ⟨w3, rfl⟩ : ∃ w3 : World, w3 = wc := ⟨_, rfl⟩
    have HK := Lib.hid (hst.swap.acopy)
    clear hst H2
    go_wp2_with fail
    refine HK.out.mono ?_
    rintro e w4 ⟨pb, rfl, h4⟩
    have hstart : CopiesAt T w w4 pa pw pb := ⟨X, X, h4.third.swap⟩
    have HS := Lib.hid hstart
    clear hstart h4 HK
    go_upto_block 2 with fail
    go_cut [9] (fun _ wx => CopiesAt T w wx pa pw pb)
    case first =>
      go_wp2_with fail
      go_loopw [9] (fun i wr => ∃ k : Nat, k ≤ np ∧ k ≤ 20 ∧ i = .int .i64 k ∧ CopiesAt T w wr pa pw pb) (fun i _ => 20 - (intOf i).toNat)
      case atStart => exact ⟨0, by omega, by omega, rfl, HS.out⟩
      case round =>
        obtain ⟨k, hk, hk20, rfl, hat⟩ := hrel
        clear HS
        by_cases hgo : k < np ∧ k < 20
        · obtain ⟨hg1, hg2⟩ := hgo
          obtain ⟨X, Y, hst⟩ := hat
          have HST := Lib.hid hst
          obtain ⟨b, off, rfl, hb, c0, c1, c2, c3, hok⟩ := HP.out.at (i := k) (by rw [HNP.out]; exact hg1)
          generalize ps[k]'(by rw [HNP.out]; exact hg1) = pv at c0 c1 c2 c3 hok
          obtain ⟨tk, pc, psd, n⟩ := pv
          obtain ⟨_, _, hn⟩ := hok
          simp only at c0 c1 c2 c3 hn
          have HC0 := Lib.hid c0; have HC3 := Lib.hid c3; have HN := Lib.hid hn
          have d1 := (HST.out.below.cell (p := ⟨b, off + k * 4 + 1, none⟩) hb).trans c1
          have d2 := (HST.out.below.cell (p := ⟨b, off + k * 4 + 2, none⟩) hb).trans c2
          have e3 := mask3 pc
          have e4 := mask1 psd
          obtain ⟨f, hf⟩ : ∃ m : Int, pc % 4 = m := ⟨_, rfl⟩
          obtain ⟨t, ht⟩ : ∃ m : Int, psd % 2 = m := ⟨_, rfl⟩
          have f64 : I64 f := ⟨by omega, by omega⟩
          have t64 : I64 t := ⟨by omega, by omega⟩
          rw [hf] at e3; rw [ht] at e4
          have F64 := Lib.hid f64; have T64 := Lib.hid t64
          clear c0 c1 c2 c3 hn hf ht f64 t64 hst
          go_wp2_with fail
          go_quiet (fail)
          clear d1 d2 e3 e4
          have h3 := HST.out.more (below_drewN (Below.refl _ _) nq)
          obtain ⟨w5, hw5⟩ : ∃ w5, wr.drewN nq = w5 := ⟨_, rfl⟩
          rw [hw5] at h3 ⊢
          have H3 := Lib.hid h3
          have d0 := (h3.below.cell (p := ⟨b, off + k * 4, none⟩) hb).trans HC0.out
          clear h3 hw5 HST
          go_upto_if 83 with fail
          go_cut [102] (fun _ wx => CopiesAt T w wx pa pw pb)
          case first =>
            rcases tk with _ | _
            · have d3 := (H3.out.below.cell (p := ⟨b, off + k * 4 + 3, none⟩) hb).trans HC3.out
              have um := umask255 n
              have un : U64 (n % 256) := ⟨by omega, by omega⟩
              have HK := Lib.hid (H3.out.third.aput f t (n % 256) F64.out T64.out un)
              clear un
              go_wp2_with fail
              refine HK.out.mono ?_
              rintro e w6 ⟨rfl, h6⟩
              have H6 := Lib.hid h6
              clear h6 HK d3 um
              go_wp2_with fail
              go_meet
              exact ⟨X, _, H6.out.third'⟩
            · have HK1 := Lib.hid (H3.out.drew.atake f t n F64.out T64.out HN.out)
              have d3 := (H3.out.below.cell (p := ⟨b, off + k * 4 + 3, none⟩) hb).trans HC3.out
              go_wp2_with fail
              go_cut [102] (fun s102 wx => s102 = .bool false ∧ CopiesAt T w wx pa pw pb)
              case first =>
                go_region_held3 (fun w' => w'.cell? ⟨b, off + k * 4 + 3, none⟩ = some (.int .u64 n)) (first | exact e8 | exact e7 | exact d3) (first
                  | (go_at_call_of 9 (Value.pointer (some pb)); refine HK1.out.mono ?_; rintro e w7 ⟨rfl, h7⟩; have e7 := (h7.below.cell (p := ⟨b, off + k * 4 + 3, none⟩) hb).trans HC3.out; have K2 := Lib.hid (h7.swap.atake f t n F64.out T64.out HN.out); clear h7)
                  | (go_at_call_of 9 (Value.pointer (some pw)); refine K2.out.mono ?_; rintro e w8 ⟨rfl, h8⟩; have e8 := (h8.below.cell (p := ⟨b, off + k * 4 + 3, none⟩) hb).trans HC3.out; have H8 := Lib.hid h8.swap; clear h8))
                all_goals
                  go_wp2_with fail
                  go_meet
                  exact ⟨by first | rfl | simp, _, Y, H8.out⟩
              case rest =>
                obtain ⟨rfl, hat⟩ := hcut
                have HAT := Lib.hid hat
                clear hat HK1 d3
                go_wp2_with fail
                go_meet
                exact HAT.out
          case rest =>
            obtain ⟨X, Y, hst⟩ := hcut
            obtain ⟨w6, rfl⟩ : ∃ w6 : World, w6 = wc := ⟨_, rfl⟩
            have HST := Lib.hid hst
            clear hst H3 d0
            go_wp2_with fail
            go_loopw [12] (fun i wr2 => ∃ j : Nat, j ≤ 3 ∧ i = .int .i64 j ∧ St w wr2 (star (T.IsA (.pointer (some pb)) X) (star (T.IsA (.pointer (some pw)) X) (star (T.IsA (.pointer (some pa)) Y) nothing)))) (fun i _ => 3 - (intOf i).toNat)
            case atStart => exact ⟨0, by omega, rfl, HST.out⟩
            case round =>
              obtain ⟨j, hj, rfl, hst⟩ := hrel
              clear HST
              by_cases hj3 : j < 3
              · have j64 : Hid (I64 (j : Int)) := Lib.hid ⟨by omega, by omega⟩
                have HK := Lib.hid (hst.afree j 0 j64.out (by decide))
                clear hst
                go_wp2_with fail
                refine HK.out.mono ?_
                rintro e w7 ⟨rfl, h7, _⟩
                have HK2 := Lib.hid (h7.swap.afree j 0 j64.out (by decide))
                clear h7 HK
                go_wp2_with fail
                refine HK2.out.mono ?_
                rintro e w8 ⟨rfl, h8, _⟩
                have HK3 := Lib.hid (h8.swap.afree j 1 j64.out (by decide))
                clear h8 HK2
                go_wp2_with fail
                refine HK3.out.mono ?_
                rintro e w9 ⟨rfl, h9, _⟩
                have HK4 := Lib.hid (h9.swap.afree j 1 j64.out (by decide))
                clear h9 HK3
                go_wp2_with fail
                refine HK4.out.mono ?_
                rintro e w10 ⟨rfl, h10, _⟩
                have H10 := Lib.hid h10.swap
                clear h10 HK4
                go_wp2_with fail
                go_roundw
                case rel => exact ⟨j + 1, by omega, by go_num, H10.out⟩
                case measure => simp [intOf]; omega
              · obtain rfl : j = 3 := by omega
                have HS3 := Lib.hid hst
                clear hst
                go_wp2_with fail
                go_roundw
                case rel => exact ⟨k + 1, by omega, by omega, by go_num, X, Y, HS3.out⟩
                case measure => simp [intOf]; omega
        · have HAT := Lib.hid hat
          have hge : k = np ∨ (k < np ∧ k = 20) := by omega
          clear hgo hat
          rcases hge with rfl | ⟨hlt, rfl⟩
          all_goals
            go_wp2_with fail
            go_meet
            exact HAT.out
    case rest =>
      obtain ⟨X, Y, hst⟩ := hcut
      obtain ⟨w4, rfl⟩ : ∃ w5 : World, w5 = wc := ⟨_, rfl⟩
      have HB := Lib.hid hst.below
      have hsz := hst.size
      have HSZ := Lib.hid hsz
      clear hst hsz HS
      go_wp2_with fail
      refine (aawake_any T _).mono ?_
      rintro e w8 ⟨rfl, hb8⟩
      have HB8 := Lib.hid hb8
      clear hb8
      go_wp2_with fail
      go_ret
      exact ⟨rfl, HB.out.trans (HB8.out.mono HSZ.out)⟩
end Go.Proofs.Ytemfidjbmophfaa
