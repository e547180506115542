/- AcctPlays answers true, and makes only new memory. Conditions: acct's calls are as their contracts say; the rows lie in memory. -/
import Derived.Test.YtemfidjbmophfaaAcctAwake
import Derived.Test.YtemfidjbmophfaaAcctSteps
import Derived.Test.YtemfidjbmophfaaAcctRef6
import Derived.LoopTactic
import Derived.RegionTactic
import Derived.Deep.CutBlock
import Derived.Deep.DeepCutAuto
import Derived.Deep.RegionHeld3
import Derived.Laws.BitsLemmas
namespace Go.Proofs.Ytemfidjbmophfaa
open Go.RowKit Go.WideShapes

theorem pl_mask3 (n : Int) : bits .and .i64 n 3 = n % 4 := by
  have key : (BitVec.ofInt 64 n &&& BitVec.ofInt 64 3).toNat = (n % ((2 ^ 64 : Nat) : Int)).toNat % 2 ^ 2 := by
    rw [BitVec.toNat_and, BitVec.toNat_ofInt, show (BitVec.ofInt 64 3).toNat = 2 ^ 2 - 1 by decide, Nat.and_two_pow_sub_one_eq_mod]
  show IntKind.i64.wrap ((BitVec.ofInt 64 n &&& BitVec.ofInt 64 3).toNat : Nat) = n % 4
  rw [key, IntKind.wrap_i64]
  omega
theorem pl_mask1 (n : Int) : bits .and .i64 n 1 = n % 2 := by
  have key : (BitVec.ofInt 64 n &&& BitVec.ofInt 64 1).toNat = (n % ((2 ^ 64 : Nat) : Int)).toNat % 2 ^ 1 := by
    rw [BitVec.toNat_and, BitVec.toNat_ofInt, show (BitVec.ofInt 64 1).toNat = 2 ^ 1 - 1 by decide, Nat.and_two_pow_sub_one_eq_mod]
  show IntKind.i64.wrap ((BitVec.ofInt 64 n &&& BitVec.ofInt 64 1).toNat : Nat) = n % 2
  rw [key, IntKind.wrap_i64]
  omega
theorem pl_mask31 (n : Int) : bits .and .i64 n 31 = n % 32 := by
  have key : (BitVec.ofInt 64 n &&& BitVec.ofInt 64 31).toNat = (n % ((2 ^ 64 : Nat) : Int)).toNat % 2 ^ 5 := by
    rw [BitVec.toNat_and, BitVec.toNat_ofInt, show (BitVec.ofInt 64 31).toNat = 2 ^ 5 - 1 by decide, Nat.and_two_pow_sub_one_eq_mod]
  show IntKind.i64.wrap ((BitVec.ofInt 64 n &&& BitVec.ofInt 64 31).toNat : Nat) = n % 32
  rw [key, IntKind.wrap_i64]
  omega

/-- Where the loop stands. -/
def PlaysAt (T : AcctApi) (w0 w : World) (p : Addr) (b : Nat) (s : Value) : Prop :=
  ∃ X, X.length ≤ 1000 ∧ GoodA X ∧ St w0 w (star (T.IsA (.pointer (some p)) X) (star (AccAt b s X) nothing))

set_option maxRecDepth 100000 in
set_option maxHeartbeats 16000000 in
theorem aplays_some (T : AcctApi) (cl : Int) (A : Option Addr) (cap : Nat) (ps : List MoveV) (few : Bool) (at0 : Int) (w : World) (hcl : I64 cl) (hlp : ps.length ≤ 9223372036854775807) (hp : MovesAt w A ps) (_ : I64 at0) :
    Calls Try.prog 6 #[.int .i64 cl, .slice A ps.length cap, .bool few, .int .i64 at0] w fun e w' => e = .returned (.bool true) ∧ Below w.heap.size w w' := by
  obtain ⟨np, hnp⟩ : ∃ k, ps.length = k := ⟨_, rfl⟩
  rw [hnp] at hlp ⊢
  have HNP := Lib.hid hnp; have HP := Lib.hid hp; have HCL := Lib.hid hcl
  clear hnp hp hcl
  go_enter Try.func6, Try.ntmps6
  go_upto_if 22 with fail
  go_cut [0] (fun s0 wx => ∃ c : Int, s0 = .int .i64 c ∧ I64 c ∧ wx = w)
  case first =>
    rcases few with _ | _
    · go_wp2_with fail
      go_meet
      exact ⟨cl, rfl, HCL.out, rfl⟩
    · have e3 := pl_mask3 cl
      obtain ⟨m, hm⟩ : ∃ m : Int, cl % 4 = m := ⟨_, rfl⟩
      have m64 : I64 m := ⟨by omega, by omega⟩
      rw [hm] at e3
      have M64 := Lib.hid m64
      clear hm m64
      go_wp2_with fail
      go_meet
      exact ⟨m, rfl, M64.out, rfl⟩
  case rest =>
    obtain ⟨c, rfl, hc, rfl⟩ := hcut
    obtain ⟨wB, rfl⟩ : ∃ wB : World, wB = wc := ⟨_, rfl⟩
    have HC := Lib.hid hc
    clear hc HCL
    go_wp2_with fail
    refine (st_acct T (St.start wB wB (Below.refl _ _)) c HC.out).mono ?_
    rintro e w1 ⟨pa, rfl, h1⟩
    have K := Lib.hid (st_acct6 h1 c)
    clear h1
    go_wp2_with fail
    refine K.out.mono ?_
    rintro e w2 ⟨b, s, rfl, h2⟩
    have hlen : (newA c).length ≤ 1000 := by have := newA_length c; omega
    have hstart : PlaysAt T wB w2 pa b s := ⟨newA c, hlen, goodA_new c, h2.swap⟩
    have HS := Lib.hid hstart
    clear hstart h2 K hlen
    go_upto_block 0 with fail
    go_cut [10] (fun s10 wx => s10 = .pointer (some ⟨b, 0, none⟩) ∧ ∃ p, PlaysAt T wB wx p b s)
    case first =>
      go_wp2_with fail
      go_loopw [9, 11] (fun a i wr => ∃ (k : Nat) (p : Addr), k ≤ np ∧ k ≤ 40 ∧ a = .pointer (some p) ∧ i = .int .i64 k ∧ PlaysAt T wB wr p b s) (fun _ i _ => 40 - (intOf i).toNat)
      case atStart => exact ⟨0, pa, by omega, by omega, rfl, rfl, HS.out⟩
      case round =>
        obtain ⟨k, p, hk, hk40, rfl, rfl, hat⟩ := hrel
        clear HS
        by_cases hgo : k < np ∧ k < 40
        · obtain ⟨hg1, hg2⟩ := hgo
          obtain ⟨X, hX, hg, hst⟩ := hat
          have HST := Lib.hid hst; have HX := Lib.hid hX; have HG := Lib.hid hg
          obtain ⟨bb, off, rfl, hb, c0, c1, c2, c3, hok⟩ := HP.out.at (i := k) (by rw [HNP.out]; exact hg1)
          generalize ps[k]'(by rw [HNP.out]; exact hg1) = pv at c0 c1 c2 c3 hok
          obtain ⟨tk, pc, psd, n⟩ := pv
          obtain ⟨hpc, hps, hn⟩ := hok
          simp only at c0 c1 c2 c3 hpc hps hn
          have HC0 := Lib.hid c0; have HN := Lib.hid hn; have HPC := Lib.hid hpc; have HPS := Lib.hid hps
          have d1 := (HST.out.below.cell (p := ⟨bb, off + k * 4 + 1, none⟩) hb).trans c1
          have d2 := (HST.out.below.cell (p := ⟨bb, off + k * 4 + 2, none⟩) hb).trans c2
          have d3 := (HST.out.below.cell (p := ⟨bb, off + k * 4 + 3, none⟩) hb).trans c3
          clear c0 c1 c2 c3 hn hst hX hg hpc hps
          go_wp2_with fail
          go_quiet (fail)
          clear d1 d2 d3
          have h3 := HST.out.more (below_drewN (Below.refl _ _) nq)
          obtain ⟨w5, hw5⟩ : ∃ w5, wr.drewN nq = w5 := ⟨_, rfl⟩
          rw [hw5] at h3 ⊢
          have H3 := Lib.hid h3
          clear h3 hw5 HST
          go_upto_if 56 with fail
          go_cut [12, 13] (fun x y wx => ∃ ci si : Int, x = .int .i64 ci ∧ y = .int .i64 si ∧ (I64 ci ∧ I64 si) ∧ wx = w5)
          case first =>
            rcases few with _ | _
            · go_wp2_with fail
              go_meet
              exact ⟨pc, psd, rfl, rfl, ⟨HPC.out, HPS.out⟩, rfl⟩
            · have e3 := pl_mask3 pc
              have e4 := pl_mask1 psd
              obtain ⟨f, hf⟩ : ∃ m : Int, pc % 4 = m := ⟨_, rfl⟩
              obtain ⟨t, ht⟩ : ∃ m : Int, psd % 2 = m := ⟨_, rfl⟩
              have f64 : I64 f := ⟨by omega, by omega⟩
              have t64 : I64 t := ⟨by omega, by omega⟩
              rw [hf] at e3; rw [ht] at e4
              have F64 := Lib.hid f64; have T64 := Lib.hid t64
              clear hf ht f64 t64
              go_wp2_with fail
              go_meet
              exact ⟨f, t, rfl, rfl, ⟨F64.out, T64.out⟩, rfl⟩
          case rest =>
            obtain ⟨f, t, rfl, rfl, hft, hw5⟩ := hcut
            subst hw5
            have F64 := Lib.hid hft.1; have T64 := Lib.hid hft.2
            clear hft HPC HPS
            go_upto_if 64 with fail
            go_cut [9] (fun a wx => ∃ p, a = .pointer (some p) ∧ St wB wx (star (T.IsA (.pointer (some p)) X) (star (AccAt b s X) nothing)))
            case first =>
              have e5 := pl_mask31 at0
              obtain ⟨m, hm⟩ : ∃ m : Int, at0 % 32 = m := ⟨_, rfl⟩
              rw [hm] at e5
              clear hm
              by_cases hi : (k : Int) = m
              · have b1 : decide ((k : Int) = m) = true := decide_eq_true hi
                have b2 : ((k : Int) == m) = true := by rw [hi]; exact beq_self_eq_true m
                clear hi
                have K := Lib.hid (H3.out.acopy)
                go_wp2_with fail
                refine K.out.mono ?_
                rintro e w6 ⟨p2, rfl, h6⟩
                have K2 := Lib.hid (h6.swap.aput f t 1 F64.out T64.out (by decide))
                clear h6 K
                go_wp2_with fail
                refine K2.out.mono ?_
                rintro e w7 ⟨rfl, h7⟩
                have H7 := Lib.hid h7.snd
                clear h7 K2
                go_wp2_with fail
                go_meet
                exact ⟨p2, rfl, H7.out⟩
              · have b1 : decide ((k : Int) = m) = false := decide_eq_false hi
                have b2 : ((k : Int) == m) = false := beq_eq_false_iff_ne.2 hi
                clear hi
                go_wp2_with fail
                go_meet
                exact ⟨p, rfl, H3.out⟩
            case rest =>
              obtain ⟨p2, rfl, hst⟩ := hcut
              have K := Lib.hid (hst.aput f t n F64.out T64.out HN.out)
              clear hst H3
              go_wp2_with fail
              refine K.out.mono ?_
              rintro e w8 ⟨rfl, h8⟩
              have d0 := (h8.below.cell (p := ⟨bb, off + k * 4, none⟩) hb).trans HC0.out
              have H8 := Lib.hid h8
              clear h8 K
              go_upto_if 83 with fail
              go_cut [16, 17] (fun x y wx => ∃ z : Int, x = .int .i64 z ∧ y = .int .i64 z ∧ ∃ Y, Y.length ≤ 1000 ∧ GoodA Y ∧ St wB wx (star (T.IsA (.pointer (some p2)) Y) (star (AccAt b s Y) nothing)))
              case first =>
                have HXP := Lib.hid (Nat.le_trans (Nat.le_of_eq (putX_length X f t n)) HX.out)
                have HGP := Lib.hid (HG.out.put f t HN.out)
                rcases tk with _ | _
                · have K := Lib.hid (H8.out.swap.rput f t n HG.out HN.out)
                  go_wp2_with fail
                  refine K.out.mono ?_
                  rintro e w9 ⟨rfl, h9⟩
                  have H9 := Lib.hid h9.swap
                  clear h9 K
                  go_wp2_with fail
                  go_meet
                  exact ⟨_, rfl, rfl, _, HXP.out, HGP.out, H9.out⟩
                · have K := Lib.hid (H8.out.atake f t n F64.out T64.out HN.out)
                  go_wp2_with fail
                  refine K.out.mono ?_
                  rintro e w9 ⟨rfl, h9⟩
                  have K2 := Lib.hid (h9.swap.rput f t n HG.out HN.out)
                  clear h9 K
                  go_wp2_with fail
                  refine K2.out.mono ?_
                  rintro e w10 ⟨rfl, h10⟩
                  have K3 := Lib.hid (h10.rtake f t n HGP.out HN.out)
                  clear h10 K2
                  go_wp2_with fail
                  refine K3.out.mono ?_
                  rintro e w11 ⟨rfl, h11⟩
                  have H11 := Lib.hid h11.swap
                  clear h11 K3
                  go_wp2_with fail
                  go_meet
                  exact ⟨_, rfl, rfl, _, Nat.le_trans (Nat.le_of_eq (takeX_length _ f t n)) HXP.out, HGP.out.take f t HN.out, H11.out⟩
              case rest =>
                obtain ⟨z, rfl, rfl, Y, hY, hgY, hst⟩ := hcut
                have HY := Lib.hid hY; have HGY := Lib.hid hgY
                have K := Lib.hid (hst.asum t T64.out)
                clear hst hY hgY H8 d0 HC0
                obtain ⟨sv, hsv⟩ : ∃ x, sumV Y t = x := ⟨_, rfl⟩
                obtain ⟨so, hso⟩ : ∃ x, sumOk Y t = x := ⟨_, rfl⟩
                obtain ⟨fr, hfr⟩ : ∃ x, freeA Y f t = x := ⟨_, rfl⟩
                have HSV := Lib.hid hsv; have HSO := Lib.hid hso; have HFR := Lib.hid hfr
                rw [hsv, hso] at K
                clear hsv hso hfr
                go_wp2_with fail
                refine K.out.mono ?_
                rintro e w12 ⟨rfl, h12, _⟩
                have K2 := h12.swap.rsum t HGY.out (by have := HY.out; omega)
                rw [HSV.out, HSO.out] at K2
                have HK2 := Lib.hid K2
                clear h12 K K2
                go_wp2_with fail
                refine HK2.out.mono ?_
                rintro e w13 ⟨rfl, h13, _⟩
                have K3 := h13.swap.afree f t F64.out T64.out
                rw [HFR.out] at K3
                have HK3 := Lib.hid K3
                clear h13 HK2 K3
                go_wp2_with fail
                refine HK3.out.mono ?_
                rintro e w14 ⟨rfl, h14, _⟩
                have K4 := h14.swap.rfree f t
                rw [HFR.out] at K4
                have HK4 := Lib.hid K4; have H14 := Lib.hid h14
                clear h14 HK3 K4
                go_wp2_with fail
                refine HK4.out.mono ?_
                rintro e w15 ⟨rfl, rfl⟩
                go_wp2_with fail
                go_roundw
                case rel => exact ⟨k + 1, p2, by omega, by omega, rfl, by go_num, Y, HY.out, HGY.out, H14.out⟩
                case measure => simp [intOf]; omega
        · have HAT := Lib.hid hat
          have hge : k = np ∨ (k < np ∧ k = 40) := by omega
          clear hgo hat
          rcases hge with rfl | ⟨hlt, rfl⟩
          all_goals
            go_wp2_with fail
            go_meet
            exact ⟨rfl, p, HAT.out⟩
    case rest =>
      obtain ⟨rfl, p, X, _, _, hst⟩ := hcut
      have HB := Lib.hid hst.below
      have hsz := hst.size
      have HSZ := Lib.hid hsz
      clear hst hsz HS
      go_wp2_with fail
      refine (aawake_any T _).mono ?_
      rintro e w8 ⟨rfl, hb8⟩
      have HB8 := Lib.hid hb8
      clear hb8
      go_wp2_with fail
      go_ret
      exact ⟨rfl, HB.out.trans (HB8.out.mono HSZ.out)⟩
end Go.Proofs.Ytemfidjbmophfaa
