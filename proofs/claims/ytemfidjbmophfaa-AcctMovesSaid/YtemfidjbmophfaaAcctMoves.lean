/- AcctMoves answers true, and makes only new memory. Conditions: acct's calls are as their contracts say; the rows lie in memory. -/
import Derived.Test.YtemfidjbmophfaaAcctAwake
import Derived.Test.YtemfidjbmophfaaAcctSteps
import Derived.LoopTactic
import Derived.RegionTactic
import Derived.Deep.CutBlock
import Derived.Deep.DeepCutAuto
import Derived.Laws.BitsLemmas
namespace Go.Proofs.Ytemfidjbmophfaa
open Go.RowKit Go.WideShapes

theorem mv_ok {X : Accts} {c : Int} (hl : X.length = 4) (hc : 0 ≤ c ∧ c < 4) : okE X c 0 = 0 := okE_zero.2 ⟨⟨hc.1, by omega⟩, Or.inl rfl⟩
theorem mv_take {X : Accts} {c n : Int} (hl : X.length = 4) (hc : 0 ≤ c ∧ c < 4) (hn : n ≤ amt X c 0) : takeE X c 0 n = 0 ∧ total (takeX X c 0 n) 0 = total X 0 - n := by
  have h : takeE X c 0 n = 0 := takeE_zero.2 ⟨mv_ok hl hc, hn⟩
  refine ⟨h, ?_⟩
  rw [takeX, if_pos h, total_set ⟨hc.1, by omega⟩]
  omega
theorem mv_not {X : Accts} {c n : Int} (hl : X.length = 4) (hc : 0 ≤ c ∧ c < 4) (hn : amt X c 0 < n) : takeE X c 0 n = 4 ∧ takeX X c 0 n = X := by
  have h : takeE X c 0 n = 4 := by rw [takeE, if_pos (mv_ok hl hc), if_pos hn]
  exact ⟨h, by rw [takeX, if_neg (by rw [h]; decide)]⟩
theorem mv_put {X : Accts} {c n : Int} (hg : GoodA X) (hl : X.length = 4) (hc : 0 ≤ c ∧ c < 4) (hn : total X 0 + n < 18446744073709551616) : putE X c 0 n = 0 ∧ total (putX X c 0 n) 0 = total X 0 + n := by
  have ha := amt_le_total hg 0 (c := c) ⟨hc.1, by omega⟩
  have h : putE X c 0 n = 0 := putE_zero.2 ⟨mv_ok hl hc, by omega⟩
  refine ⟨h, ?_⟩
  rw [putX, if_pos h, total_set ⟨hc.1, by omega⟩]
  omega
theorem mv_sum {X : Accts} (h : total X 0 < 18446744073709551616) : sumOk X 0 = true ∧ sumV X 0 = total X 0 := by
  have h1 : sumOk X 0 = true := decide_eq_true ⟨Or.inl rfl, h⟩
  exact ⟨h1, by rw [sumV, if_pos h1]⟩
theorem mv_new : (newA 4).length = 4 ∧ total (newA 4) 0 = 0 := by decide +kernel
theorem mask3 (n : Int) : bits .and .i64 n 3 = n % 4 := by
  have key : (BitVec.ofInt 64 n &&& BitVec.ofInt 64 3).toNat = (n % ((2 ^ 64 : Nat) : Int)).toNat % 2 ^ 2 := by
    rw [BitVec.toNat_and, BitVec.toNat_ofInt, show (BitVec.ofInt 64 3).toNat = 2 ^ 2 - 1 by decide, Nat.and_two_pow_sub_one_eq_mod]
  show IntKind.i64.wrap ((BitVec.ofInt 64 n &&& BitVec.ofInt 64 3).toNat : Nat) = n % 4
  rw [key, IntKind.wrap_i64]
  omega

set_option maxRecDepth 100000 in
set_option maxHeartbeats 16000000 in
theorem moves_some (T : AcctApi) (A A2 : Option Addr) (cap cap2 : Nat) (hs : List Int) (ps : List MoveV) (w : World) (hlh : hs.length ≤ 9223372036854775807) (hh : NumsIn w A hs) (hlp : ps.length ≤ 9223372036854775807) (hp : MovesAt w A2 ps) :
    Calls Try.prog 4 #[.slice A hs.length cap, .slice A2 ps.length cap2] w fun e w' => e = .returned (.bool true) ∧ Below w.heap.size w w' := by
  obtain ⟨nh, hnh⟩ : ∃ k, hs.length = k := ⟨_, rfl⟩
  obtain ⟨np, hnp⟩ : ∃ k, ps.length = k := ⟨_, rfl⟩
  rw [hnh] at hlh ⊢
  rw [hnp] at hlp ⊢
  have k3 := mask3
  have HNH := Lib.hid hnh; have HNP := Lib.hid hnp; have HH := Lib.hid hh; have HP := Lib.hid hp
  clear hnh hnp hh hp
  go_enter Try.func4, Try.ntmps4
  go_wp2_with fail
  refine (st_acct T (St.start w w (Below.refl _ _)) 4 (by decide)).mono ?_
  rintro e w1 ⟨p, rfl, h1⟩
  have H1 := Lib.hid h1
  clear h1
  go_upto_block 0 with fail
  go_cut [6] (fun _ wx => ∃ X, X.length = 4 ∧ GoodA X ∧ total X 0 < 18446744073709551616 ∧ St w wx (star (T.IsA (.pointer (some p)) X) nothing))
  case first =>
    go_wp2_with fail
    go_loopw [6] (fun i wr => ∃ (k : Nat) (X : Accts), k ≤ nh ∧ k ≤ 4 ∧ i = .int .i64 k ∧ X.length = 4 ∧ GoodA X ∧ total X 0 ≤ k * 2305843009213693952 ∧ St w wr (star (T.IsA (.pointer (some p)) X) nothing)) (fun i _ => 4 - (intOf i).toNat)
    case atStart => exact ⟨0, newA 4, by omega, by omega, rfl, mv_new.1, goodA_new 4, by rw [mv_new.2]; decide, H1.out⟩
    case round =>
      obtain ⟨k, X, hk, hk4, rfl, hX, hg, ht, hst⟩ := hrel
      have HST := Lib.hid hst; have HG := Lib.hid hg; have HT := Lib.hid ht; have HX := Lib.hid hX
      clear hst hg ht hX H1
      by_cases hgo : k < nh ∧ k < 4
      · obtain ⟨hg1, hg2⟩ := hgo
        obtain ⟨b, off, rfl, hb, hc, hu⟩ := HH.out.at (i := k) (by rw [HNH.out]; exact hg1)
        generalize hs[k]'(by rw [HNH.out]; exact hg1) = x at hc hu
        have hcw := (HST.out.below.cell (p := ⟨b, off + k, none⟩) hb).trans hc
        have hn : U64 (x / 8) := ⟨by omega, by omega⟩
        have HU := Lib.hid hu
        have K := HST.out.aput k 0 (x / 8) ⟨by omega, by omega⟩ (by decide) hn
        have hput := mv_put (n := x / 8) HG.out HX.out (c := (k : Int)) ⟨by omega, by omega⟩ (by have := HT.out; omega)
        rw [hput.1] at K
        have HK := Lib.hid K
        have HP2 := Lib.hid hput.2
        have HG2 := Lib.hid (HG.out.put k 0 hn)
        clear K hput hn hc
        go_wp2_with fail
        refine HK.out.mono ?_
        rintro e w3 ⟨rfl, h3⟩
        have H3 := Lib.hid h3
        clear h3 HK hcw
        go_wp2_with fail
        go_roundw
        case rel => exact ⟨k + 1, _, by omega, by omega, by go_num, by rw [putX_length]; exact HX.out, HG2.out, by rw [HP2.out]; have := HT.out; have := HU.out; omega, H3.out⟩
        case measure => simp [intOf]; omega
      · have hge : k = nh ∨ (k < nh ∧ k = 4) := by omega
        have htt : total X 0 < 18446744073709551616 := by have := HT.out; omega
        have HTT := Lib.hid htt
        clear hgo htt
        rcases hge with rfl | ⟨hlt, rfl⟩
        all_goals
          go_wp2_with fail
          go_meet
          exact ⟨X, HX.out, HG.out, HTT.out, HST.out⟩
  case rest =>
    obtain ⟨X, hX, hg, ht, hst⟩ := hcut
    obtain ⟨w2, rfl⟩ : ∃ w2 : World, w2 = wc := ⟨_, rfl⟩
    obtain ⟨S, hS⟩ : ∃ s, total X 0 = s := ⟨_, rfl⟩
    have K := hst.asum 0 (by decide)
    rw [(mv_sum ht).1, (mv_sum ht).2, hS] at K
    rw [hS] at ht
    have HK := Lib.hid K; have HG := Lib.hid hg; have HS := Lib.hid hS; have HX := Lib.hid hX; have HT := Lib.hid ht
    clear K hst hg hS hX ht H1
    go_wp2_with fail
    refine HK.out.mono ?_
    rintro e w3 ⟨rfl, h3, _⟩
    have H3 := Lib.hid h3
    clear h3 HK
    go_upto_block 2 with fail
    go_cut [9] (fun _ wx => ∃ X, St w wx (star (T.IsA (.pointer (some p)) X) nothing))
    case first =>
      go_wp2_with fail
      go_loopw [9] (fun i wr => ∃ (k : Nat) (X : Accts), k ≤ np ∧ k ≤ 30 ∧ i = .int .i64 k ∧ X.length = 4 ∧ GoodA X ∧ total X 0 = S ∧ St w wr (star (T.IsA (.pointer (some p)) X) nothing)) (fun i _ => 30 - (intOf i).toNat)
      case atStart => exact ⟨0, X, by omega, by omega, rfl, HX.out, HG.out, HS.out, H3.out⟩
      case round =>
        clear H3 HS HX HG
        obtain ⟨k, X, hk, hk30, rfl, hX, hg, hS, hst⟩ := hrel
        have HST := Lib.hid hst; have HG := Lib.hid hg; have HS := Lib.hid hS; have HX := Lib.hid hX
        clear hst hg hS hX
        by_cases hgo : k < np ∧ k < 30
        · obtain ⟨hg1, hg2⟩ := hgo
          obtain ⟨b, off, rfl, hb, _, c1, c2, c3, hok⟩ := HP.out.at (i := k) (by rw [HNP.out]; exact hg1)
          generalize ps[k]'(by rw [HNP.out]; exact hg1) = pv at c1 c2 c3 hok
          obtain ⟨tk, pc, psd, n⟩ := pv
          obtain ⟨_, _, hn⟩ := hok
          simp only at c1 c2 c3 hn
          have HC3 := Lib.hid c3; have HN := Lib.hid hn
          have d1 := (HST.out.below.cell (p := ⟨b, off + k * 4 + 1, none⟩) hb).trans c1
          have d2 := (HST.out.below.cell (p := ⟨b, off + k * 4 + 2, none⟩) hb).trans c2
          obtain ⟨f, hf⟩ : ∃ m : Int, pc % 4 = m := ⟨_, rfl⟩
          obtain ⟨t, ht⟩ : ∃ m : Int, psd % 4 = m := ⟨_, rfl⟩
          have hfr : 0 ≤ f ∧ f < 4 := by omega
          have htr : 0 ≤ t ∧ t < 4 := by omega
          have e3 := k3 pc
          have e4 := k3 psd
          rw [hf] at e3; rw [ht] at e4
          have HFR := Lib.hid hfr; have HTR := Lib.hid htr
          clear c1 c2 c3 hn hf ht hfr htr k3
          go_wp2_with fail
          go_quiet (fail)
          clear d1 d2 e3 e4
          have h3 := HST.out.more (below_drewN (Below.refl _ _) nq)
          obtain ⟨w4, hw4⟩ : ∃ w4, wr.drewN nq = w4 := ⟨_, rfl⟩
          rw [hw4] at h3 ⊢
          have hfe : freeA X f 0 = amt X f 0 := by rw [freeA, if_pos (mv_ok HX.out HFR.out)]
          have hte : freeA X t 0 = amt X t 0 := by rw [freeA, if_pos (mv_ok HX.out HTR.out)]
          have f64 : I64 f := ⟨by have := HFR.out; omega, by have := HFR.out; omega⟩
          have t64 : I64 t := ⟨by have := HTR.out; omega, by have := HTR.out; omega⟩
          obtain ⟨x, hx⟩ : ∃ x, amt X f 0 = x := ⟨_, rfl⟩
          obtain ⟨y, hy⟩ : ∃ y, amt X t 0 = y := ⟨_, rfl⟩
          rw [hx] at hfe; rw [hy] at hte
          have HFE := Lib.hid hfe; have HTE := Lib.hid hte; have HXX := Lib.hid hx; have HF64 := Lib.hid f64; have HT64 := Lib.hid t64
          have K := h3.afree f 0 f64 (by decide)
          rw [hfe] at K
          have HK := Lib.hid K
          clear K h3 hw4 HST hfe hte hx hy f64 t64
          go_wp2_with fail
          refine HK.out.mono ?_
          rintro e w5 ⟨rfl, h5, _⟩
          have K := h5.afree t 0 HT64.out (by decide)
          rw [HTE.out] at K
          have HK2 := Lib.hid K
          clear K h5 HK
          go_wp2_with fail
          refine HK2.out.mono ?_
          rintro e w6 ⟨rfl, h6, _⟩
          have d3 := (h6.below.cell (p := ⟨b, off + k * 4 + 3, none⟩) hb).trans HC3.out
          have HK3 := Lib.hid (h6.atake f 0 n HF64.out (by decide) HN.out)
          clear h6 HK2
          have hS64 : S < 18446744073709551616 := HT.out
          by_cases hle : n ≤ x
          · obtain ⟨e1, e2⟩ := mv_take (n := n) HX.out HFR.out (by rw [HXX.out]; exact hle)
            have hg1' := HG.out.take f 0 HN.out
            have hl1 := (takeX_length X f 0 n).trans HX.out
            rw [HS.out] at e2
            obtain ⟨X1, hX1⟩ : ∃ X1, takeX X f 0 n = X1 := ⟨_, rfl⟩
            rw [e1, hX1] at HK3
            rw [hX1] at e2 hg1' hl1
            have hnn := HN.out
            obtain ⟨e3, e4⟩ := mv_put (n := n) hg1' hl1 HTR.out (by omega)
            have E3 := Lib.hid e3
            have e5 : total (putX X1 t 0 n) 0 = S := by rw [e4, e2]; omega
            have E5 := Lib.hid e5; have HG2 := Lib.hid (hg1'.put t 0 HN.out); have HL2 := Lib.hid ((putX_length X1 t 0 n).trans hl1)
            have b1 : decide (n ≤ x) = true := decide_eq_true hle
            clear e1 e2 hX1 hg1' hl1 e3 e4 e5 hnn hle
            go_wp2_with fail
            refine HK3.out.mono ?_
            rintro e w7 ⟨rfl, h7⟩
            have d7 := (h7.below.cell (p := ⟨b, off + k * 4 + 3, none⟩) hb).trans HC3.out
            have K := h7.aput t 0 n HT64.out (by decide) HN.out
            rw [E3.out] at K
            have HK4 := Lib.hid K
            clear K h7 HK3 d3
            go_wp2_with fail
            refine HK4.out.mono ?_
            rintro e w8 ⟨rfl, h8⟩
            have H8 := Lib.hid h8
            clear h8 HK4 d7
            have hS2 : total (putX X1 t 0 n) 0 < 18446744073709551616 := by rw [E5.out]; exact HT.out
            have K := H8.out.asum 0 (by decide)
            rw [(mv_sum hS2).1, (mv_sum hS2).2, E5.out] at K
            have HKS := Lib.hid K
            clear K hS2
            go_wp2_with fail
            refine HKS.out.mono ?_
            rintro e w12 ⟨rfl, h12, _⟩
            have H12 := Lib.hid h12
            clear h12 HKS
            go_wp2_with fail
            go_roundw
            case rel => exact ⟨k + 1, (putX X1 t 0 n), by omega, by omega, by go_num, HL2.out, HG2.out, E5.out, H12.out⟩
            case measure => simp [intOf]; omega
          · obtain ⟨e1, e2⟩ := mv_not (n := n) HX.out HFR.out (by rw [HXX.out]; omega)
            rw [e1, e2] at HK3
            have b1 : decide (n ≤ x) = false := decide_eq_false hle
            clear e1 e2 hle
            go_wp2_with fail
            refine HK3.out.mono ?_
            rintro e w7 ⟨rfl, h7⟩
            have d7 := (h7.below.cell (p := ⟨b, off + k * 4 + 3, none⟩) hb).trans HC3.out
            have K := h7.afree f 0 HF64.out (by decide)
            rw [HFE.out] at K
            have HK4 := Lib.hid K
            clear K h7 HK3 d3
            go_wp2_with fail
            refine HK4.out.mono ?_
            rintro e w8 ⟨rfl, h8, _⟩
            have K := h8.afree t 0 HT64.out (by decide)
            rw [HTE.out] at K
            have HK5 := Lib.hid K
            clear K h8 HK4 d7
            go_wp2_with fail
            refine HK5.out.mono ?_
            rintro e w9 ⟨rfl, h9, _⟩
            have H9 := Lib.hid h9
            clear h9 HK5
            have hS2 : total X 0 < 18446744073709551616 := by rw [HS.out]; exact HT.out
            have K := H9.out.asum 0 (by decide)
            rw [(mv_sum hS2).1, (mv_sum hS2).2, HS.out] at K
            have HKS := Lib.hid K
            clear K hS2
            go_wp2_with fail
            refine HKS.out.mono ?_
            rintro e w12 ⟨rfl, h12, _⟩
            have H12 := Lib.hid h12
            clear h12 HKS
            go_wp2_with fail
            go_roundw
            case rel => exact ⟨k + 1, X, by omega, by omega, by go_num, HX.out, HG.out, HS.out, H12.out⟩
            case measure => simp [intOf]; omega
        · have hge : k = np ∨ (k < np ∧ k = 30) := by omega
          clear hgo
          rcases hge with rfl | ⟨hlt, rfl⟩
          all_goals
            go_wp2_with fail
            go_meet
            exact ⟨X, HST.out⟩
    case rest =>
      obtain ⟨X, hst⟩ := hcut
      obtain ⟨w4, rfl⟩ : ∃ w4 : World, w4 = wc := ⟨_, rfl⟩
      have HB := Lib.hid hst.below
      have hsz := hst.size
      have HSZ := Lib.hid hsz
      clear hst hsz H3
      go_wp2_with fail
      refine (aawake_any T _).mono ?_
      rintro e w8 ⟨rfl, hb8⟩
      have HB8 := Lib.hid hb8
      clear hb8
      go_wp2_with fail
      go_ret
      exact ⟨rfl, HB.out.trans (HB8.out.mono HSZ.out)⟩
end Go.Proofs.Ytemfidjbmophfaa
