/- HoldSums answers true, and makes only new memory. Conditions: acct's and hold's calls are as their contracts say; the rows lie in memory. -/
import Derived.Test.YtnicfhafepiknaaHoldAwake
import Derived.Test.YtnicfhafepiknaaHoldFacts
import Derived.Test.YtnicfhafepiknaaAcctSteps
import Derived.Test.YtnicfhafepiknaaFlat
import Derived.LoopTactic
import Derived.RegionTactic
import Derived.Deep.CutBlock
import Derived.Deep.DeepCutAuto
import Derived.Deep.RegionHeld3
import Derived.Laws.BitsLemmas
namespace Go.Proofs.Ytnicfhafepiknaa
open Go.RowKit Go.WideShapes

theorem hs_mask3 (n : Int) : bits .and .i64 n 3 = n % 4 := by
  have key : (BitVec.ofInt 64 n &&& BitVec.ofInt 64 3).toNat = (n % ((2 ^ 64 : Nat) : Int)).toNat % 2 ^ 2 := by
    rw [BitVec.toNat_and, BitVec.toNat_ofInt, show (BitVec.ofInt 64 3).toNat = 2 ^ 2 - 1 by decide, Nat.and_two_pow_sub_one_eq_mod]
  show IntKind.i64.wrap ((BitVec.ofInt 64 n &&& BitVec.ofInt 64 3).toNat : Nat) = n % 4
  rw [key, IntKind.wrap_i64]
  omega
theorem hs_put {X : Accts} (hg : GoodA X) (hl : X.length = 3) {k n : Int} (hk : 0 ≤ k ∧ k < 3) (hn : total X 1 + n < 18446744073709551616) : total (putX X k 1 n) 1 = total X 1 + n := by
  have ho : okE X k 1 = 0 := okE_zero.2 ⟨⟨hk.1, by omega⟩, Or.inr rfl⟩
  have ha := amt_le_total hg 1 (c := k) ⟨hk.1, by omega⟩
  have h : putE X k 1 n = 0 := putE_zero.2 ⟨ho, by omega⟩
  rw [putX, if_pos h, total_set ⟨hk.1, by omega⟩]
  omega
theorem hs_new : (newA 3).length = 3 ∧ total (newA 3) 1 = 0 := by decide +kernel

/-- Where the second loop stands. -/
def SumsAt {T : AcctApi} (U : HoldApi T) (w0 w : World) (q p : Addr) (S : Int) : Prop :=
  ∃ X H g, X.length = 3 ∧ GoodF X H g ∧ htot X H g = S ∧ St w0 w (star (U.IsF (.pointer (some q)) (.pointer (some p)) H g) (star (T.IsA (.pointer (some p)) X) nothing))

set_option maxRecDepth 100000 in
set_option maxHeartbeats 16000000 in
theorem hsums_some {T : AcctApi} (U : HoldApi T) (A : Option Addr) (cap : Nat) (hs : List Int) (A2 : Option Addr) (cap2 : Nat) (ps : List (List Value)) (w : World) (hlh : hs.length ≤ 9223372036854775807) (hh : NumsIn w A hs) (hlp : ps.length ≤ 9223372036854775807) (hp : FlatAt w A2 [.i, .i, .u] ps) :
    Calls Try.prog 7 #[.slice A hs.length cap, .slice A2 ps.length cap2] w fun e w' => e = .returned (.bool true) ∧ Below w.heap.size w w' := by
  obtain ⟨nh, hnh⟩ : ∃ k, hs.length = k := ⟨_, rfl⟩
  obtain ⟨np, hnp⟩ : ∃ k, ps.length = k := ⟨_, rfl⟩
  rw [hnh] at hlh ⊢
  rw [hnp] at hlp ⊢
  have HNH := Lib.hid hnh; have HNP := Lib.hid hnp; have HH := Lib.hid hh; have HP := Lib.hid hp
  clear hnh hnp hh hp
  go_enter Try.func7, Try.ntmps7
  go_wp2_with fail
  refine (st_acct T (St.start w w (Below.refl _ _)) 3 (by decide)).mono ?_
  rintro e w1 ⟨p, rfl, h1⟩
  have K := Lib.hid (st_fees U h1 (goodA_new 3) (by decide))
  rw [hs_new.1] at K
  clear h1
  go_wp2_with fail
  refine K.out.mono ?_
  rintro e w2 ⟨q, rfl, h2⟩
  have H2 := Lib.hid h2
  clear h2 K
  go_upto_block 0 with fail
  go_cut [7] (fun sm wx => ∃ X S, sm = .int .u64 S ∧ X.length = 3 ∧ GoodA X ∧ total X 1 = S ∧ S < 18446744073709551616 ∧ St w wx (star (U.IsF (.pointer (some q)) (.pointer (some p)) (List.replicate 3 0) 0) (star (T.IsA (.pointer (some p)) X) nothing)))
  case first =>
    go_wp2_with fail
    go_loopw [7, 8] (fun sm i wr => ∃ (k : Nat) (X : Accts) (S : Int), k ≤ nh ∧ k ≤ 3 ∧ sm = .int .u64 S ∧ i = .int .i64 k ∧ X.length = 3 ∧ GoodA X ∧ total X 1 = S ∧ (0 ≤ S ∧ S ≤ k * 1152921504606846976) ∧ St w wr (star (U.IsF (.pointer (some q)) (.pointer (some p)) (List.replicate 3 0) 0) (star (T.IsA (.pointer (some p)) X) nothing))) (fun _ i _ => 3 - (intOf i).toNat)
    case atStart => exact ⟨0, newA 3, 0, by omega, by omega, rfl, rfl, hs_new.1, goodA_new 3, hs_new.2, ⟨by decide, by decide⟩, H2.out⟩
    case round =>
      obtain ⟨k, X, S, hk, hk3, rfl, rfl, hX, hg, ht, hS, hst⟩ := hrel
      have HST := Lib.hid hst; have HG := Lib.hid hg; have HT := Lib.hid ht; have HX := Lib.hid hX
      clear hst hg ht hX H2
      by_cases hgo : k < nh ∧ k < 3
      · obtain ⟨hg1, hg2⟩ := hgo
        obtain ⟨b, off, rfl, hb, hc, hu⟩ := HH.out.at (i := k) (by rw [HNH.out]; exact hg1)
        generalize hs[k]'(by rw [HNH.out]; exact hg1) = x at hc hu
        have hcw := (HST.out.below.cell (p := ⟨b, off + k, none⟩) hb).trans hc
        have hn : U64 (x / 16) := ⟨by omega, by omega⟩
        have hwr : IntKind.u64.wrap (S + x / 16) = S + x / 16 := IntWalk.u64_in _ (by omega)
        have hput := hs_put (n := x / 16) HG.out HX.out (k := (k : Int)) ⟨by omega, by omega⟩ (by have := HT.out; omega)
        have HPT := Lib.hid hput; have HC := Lib.hid hc
        have HN := Lib.hid hn; have HSB := Lib.hid (show 0 ≤ S + x / 16 ∧ S + x / 16 ≤ (k + 1 : Nat) * 1152921504606846976 by omega)
        have HK := Lib.hid (HST.out.swap.aput k 1 (x / 16) ⟨by omega, by omega⟩ (by decide) hn)
        clear hput hn hc hS hu
        go_wp2_with fail
        refine HK.out.mono ?_
        rintro e w3 ⟨rfl, h3⟩
        have hcw3 := (h3.below.cell (p := ⟨b, off + k, none⟩) hb).trans HC.out
        have H3 := Lib.hid h3.swap
        clear h3 HK hcw
        go_wp2_with fail
        go_roundw
        case rel => exact ⟨k + 1, _, _, by omega, by omega, rfl, by go_num, by rw [putX_length]; exact HX.out, HG.out.put k 1 HN.out, by rw [HPT.out, HT.out], HSB.out, H3.out⟩
        case measure => simp [intOf]; omega
      · have hge : k = nh ∨ (k < nh ∧ k = 3) := by omega
        have hSS : S < 18446744073709551616 := by omega
        have HSS := Lib.hid hSS
        clear hgo hSS hS
        rcases hge with rfl | ⟨hlt, rfl⟩
        all_goals
          go_wp2_with fail
          go_meet
          exact ⟨X, S, rfl, HX.out, HG.out, HT.out, HSS.out, HST.out⟩
  case rest =>
    obtain ⟨X, S, rfl, hX, hg, ht, hS, hst⟩ := hcut
    obtain ⟨w3, rfl⟩ : ∃ w3 : World, w3 = wc := ⟨_, rfl⟩
    have hgf : GoodF X (List.replicate 3 0) 0 := by have := goodF_new hg (by omega); rwa [hX] at this
    have hstart : SumsAt U w w3 q p S := ⟨X, List.replicate 3 0, 0, hX, hgf, by show total X 1 + (0 + (0 + (0 + 0))) + 0 = S; omega, hst⟩
    have HS := Lib.hid hstart; have HSB := Lib.hid hS
    clear hstart hst hX hg ht hS hgf H2
    go_upto_block 2 with fail
    go_cut [9] (fun _ wx => SumsAt U w wx q p S)
    case first =>
      go_wp2_with fail
      go_loopw [9] (fun i wr => ∃ k : Nat, k ≤ np ∧ k ≤ 40 ∧ i = .int .i64 k ∧ SumsAt U w wr q p S) (fun i _ => 40 - (intOf i).toNat)
      case atStart => exact ⟨0, by omega, by omega, rfl, HS.out⟩
      case round =>
        obtain ⟨k, hk, hk40, rfl, hat⟩ := hrel
        clear HS
        by_cases hgo : k < np ∧ k < 40
        · obtain ⟨hg1, hg2⟩ := hgo
          obtain ⟨X, H, g, hX, hgf, htt, hst⟩ := hat
          have HST := Lib.hid hst; have HX := Lib.hid hX; have HG := Lib.hid hgf; have HTT := Lib.hid htt
          obtain ⟨b, off, rfl, hb, hfit, hc⟩ := HP.out.at (i := k) (by rw [HNP.out]; exact hg1)
          generalize ps[k]'(by rw [HNP.out]; exact hg1) = r at hfit hc
          obtain ⟨kd, pc, n, rfl, hkd, hpc, hn⟩ := flat_iiu hfit
          have c0 : w.cell? ⟨b, off + k * 3, none⟩ = some (.int .i64 kd) := hc 0 (by decide)
          have c1 : w.cell? ⟨b, off + k * 3 + 1, none⟩ = some (.int .i64 pc) := hc 1 (by decide)
          have c2 : w.cell? ⟨b, off + k * 3 + 2, none⟩ = some (.int .u64 n) := hc 2 (by decide)
          have HC0 := Lib.hid c0; have HC2 := Lib.hid c2; have HN := Lib.hid hn
          have d1 := (HST.out.below.cell (p := ⟨b, off + k * 3 + 1, none⟩) hb).trans c1
          have e3 := hs_mask3 pc
          obtain ⟨c, hcm⟩ : ∃ m : Int, pc % 4 = m := ⟨_, rfl⟩
          have c64 : I64 c := ⟨by omega, by omega⟩
          rw [hcm] at e3
          have C64 := Lib.hid c64
          obtain ⟨hd, hhd⟩ : ∃ x, hOf H c = x := ⟨_, rfl⟩
          have K0 := hst.fheld c c64
          rw [hhd] at K0
          have K := Lib.hid K0; have HHD := Lib.hid hhd
          have hud : U64 hd := by have := hOf_u64 hgf.gh c; rwa [hhd] at this
          have HUD := Lib.hid hud
          clear K0 hhd hud
          clear hfit hc c0 c1 c2 hkd hpc hn hst hX hgf htt hcm c64
          go_wp2_with fail
          refine K.out.mono ?_
          rintro e w4 ⟨rfl, h4, _⟩
          have K2 := Lib.hid h4.fgot
          clear h4 K d1 e3
          go_wp2_with fail
          refine K2.out.mono ?_
          rintro e w5 ⟨rfl, h5, _⟩
          have H5 := Lib.hid h5
          have d0 := (h5.below.cell (p := ⟨b, off + k * 3, none⟩) hb).trans HC0.out
          clear h5 K2
          go_upto_block 4 with fail
          go_cut [13, 77] (fun _ _ wx => SumsAt U w wx q p S)
          case first =>
            have e4 := hs_mask3 kd
            have hS64 : htot X H g < 18446744073709551616 := by rw [HTT.out]; exact HSB.out
            obtain ⟨m, hm⟩ : ∃ m : Int, kd % 4 = m := ⟨_, rfl⟩
            rw [hm] at e4
            clear hm
            have d2 := (H5.out.below.cell (p := ⟨b, off + k * 3 + 2, none⟩) hb).trans HC2.out
            by_cases hm0 : m = 0
            · subst hm0
              obtain ⟨f1, f2, f3, f4⟩ := settle_facts HG.out hS64 (c := c) HN.out
              have f5 := (setlN_le HG.out (c := c) HN.out)
              have K := H5.out.fsettle c n HG.out C64.out HN.out
              have hg2 := HG.out.settle (c := c) HN.out
              have hx2 : (setlX X H g c n).length = 3 := by have := hg2.same; unfold setlX; split <;> simp only [putX_length, HX.out]
              obtain ⟨sn, hsn⟩ : ∃ x, setlN H g c n = x := ⟨_, rfl⟩
              obtain ⟨X2, hX2⟩ : ∃ x, setlX X H g c n = x := ⟨_, rfl⟩
              obtain ⟨H2', hH2⟩ : ∃ x, setlH X H g c n = x := ⟨_, rfl⟩
              rw [hsn] at K f1 f2 f4 f5 hg2
              rw [hX2] at K f4 hg2 hx2
              rw [hH2] at K f3 f4 hg2
              rw [HHD.out] at f1 f5
              have b1 : decide (hd < sn) = false := decide_eq_false (by omega)
              have b2 : decide (n < sn) = false := decide_eq_false (by omega)
              have hwr : IntKind.u64.wrap (g + sn) = g + sn := IntWalk.u64_in _ (by have := HG.out.gg; omega)
              have HK := Lib.hid K; have F3 := Lib.hid f3; have HG2 := Lib.hid hg2; have HX2 := Lib.hid hx2; have HT2 := Lib.hid (f4.trans HTT.out)
              clear K f1 f2 f3 f4 f5 hsn hX2 hH2 hg2 hx2 hS64
              go_wp2_with fail
              refine HK.out.mono ?_
              rintro e w6 ⟨rfl, h6⟩
              have d6 := (h6.below.cell (p := ⟨b, off + k * 3 + 2, none⟩) hb).trans HC2.out
              have K3 := Lib.hid h6.fgot
              clear h6 HK d2 d0
              go_wp2_with fail
              refine K3.out.mono ?_
              rintro e w7 ⟨rfl, h7, _⟩
              have K4 := h7.fheld c C64.out
              rw [F3.out] at K4
              have HK4 := Lib.hid K4
              clear h7 K3 K4 d6
              go_wp2_with fail
              refine HK4.out.mono ?_
              rintro e w8 ⟨rfl, h8, _⟩
              have H8 := Lib.hid h8
              clear h8 HK4
              go_wp2_with fail
              go_meet
              exact ⟨X2, H2', g + sn, HX2.out, HG2.out, HT2.out, H8.out⟩
            · by_cases hm1 : m = 1
              · subst hm1
                obtain ⟨f1, f2, f3⟩ := forf_facts HG.out hS64 (c := c)
                have f5 := forfN_le HG.out (c := c)
                have K := H5.out.fforfeit c HG.out C64.out
                have hg2 := HG.out.forfeit (c := c)
                obtain ⟨H2', hH2⟩ : ∃ x, forfH H g c = x := ⟨_, rfl⟩
                rw [f1, HHD.out] at K f3 hg2 f5
                rw [hH2] at K f2 f3 hg2
                have hwr : IntKind.u64.wrap (g + hd) = g + hd := IntWalk.u64_in _ (by have := HG.out.gg; omega)
                have HK := Lib.hid K; have F2 := Lib.hid f2; have HG2 := Lib.hid hg2; have HT2 := Lib.hid (f3.trans HTT.out)
                clear K f1 f2 f3 f5 hH2 hg2 hS64 d2 hm0
                go_wp2_with fail
                refine HK.out.mono ?_
                rintro e w6 ⟨rfl, h6⟩
                have K3 := Lib.hid h6.fgot
                clear h6 HK d0
                go_wp2_with fail
                refine K3.out.mono ?_
                rintro e w7 ⟨rfl, h7, _⟩
                have K4 := h7.fheld c C64.out
                rw [F2.out] at K4
                have HK4 := Lib.hid K4
                clear h7 K3 K4
                go_wp2_with fail
                refine HK4.out.mono ?_
                rintro e w8 ⟨rfl, h8, _⟩
                have H8 := Lib.hid h8
                clear h8 HK4
                go_wp2_with fail
                go_meet
                exact ⟨X, H2', g + hd, HX.out, HG2.out, HT2.out, H8.out⟩
              · have b0 : (m == 0) = false := beq_eq_false_iff_ne.2 hm0
                have b1 : (m == 1) = false := beq_eq_false_iff_ne.2 hm1
                obtain ⟨f1, f2, f3, f4⟩ := hold_facts HG.out hS64 (c := c) HN.out
                have f5 := holdN_le HG.out (c := c) HN.out
                have f6 := free_u64 HG.out.ga c 1
                have K := H5.out.swap.afree c 1 C64.out (by decide)
                have K2 := fun w6 (h6 : St w w6 (star (U.IsF (.pointer (some q)) (.pointer (some p)) H g) (star (T.IsA (.pointer (some p)) X) nothing))) => h6.fhold c n HG.out C64.out HN.out
                have hg2 := HG.out.hold (c := c) HN.out
                have hx2 : (holdX X H c n).length = 3 := by unfold holdX; split <;> simp only [takeX_length, HX.out]
                obtain ⟨fr, hfr⟩ : ∃ x, freeA X c 1 = x := ⟨_, rfl⟩
                obtain ⟨sn, hsn⟩ : ∃ x, holdN X H c n = x := ⟨_, rfl⟩
                obtain ⟨X2, hX2⟩ : ∃ x, holdX X H c n = x := ⟨_, rfl⟩
                obtain ⟨H2', hH2⟩ : ∃ x, holdH X H c n = x := ⟨_, rfl⟩
                rw [hfr] at K f1 f3 f5 f6
                rw [hsn] at f1 f2 f3 f5
                simp only [hsn] at K2
                rw [hX2] at f3 f4 hg2 hx2
                simp only [hX2] at K2
                rw [hH2] at f2 f4 hg2
                simp only [hH2] at K2
                rw [HHD.out] at f2 f5
                have hmin : (if n < fr then n else fr) = sn := by rw [f1]; split <;> omega
                have hwr : IntKind.u64.wrap (hd + sn) = hd + sn := IntWalk.u64_in _ (by have := HUD.out; omega)
                have hwr2 : IntKind.u64.wrap (fr - sn) = fr - sn := IntWalk.u64_in _ (by omega)
                have HK := Lib.hid K; have HK2 := Lib.hid K2; have F2 := Lib.hid f2; have F3 := Lib.hid f3; have HG2 := Lib.hid hg2; have HX2 := Lib.hid hx2; have HT2 := Lib.hid (f4.trans HTT.out)
                clear K K2 f1 f2 f3 f4 f5 f6 hfr hsn hX2 hH2 hg2 hx2 hS64 hm0 hm1 d2
                go_wp2_with fail
                refine HK.out.mono ?_
                rintro e w6 ⟨rfl, h6, _⟩
                have K3 := Lib.hid (HK2.out _ h6.swap)
                have d6 := (h6.below.cell (p := ⟨b, off + k * 3 + 2, none⟩) hb).trans HC2.out
                clear h6 HK d0
                go_wp2_with fail
                refine K3.out.mono ?_
                rintro e w7 ⟨rfl, h7⟩
                have d7 := (h7.below.cell (p := ⟨b, off + k * 3 + 2, none⟩) hb).trans HC2.out
                have K4 := h7.fheld c C64.out
                rw [F2.out] at K4
                have HK4 := Lib.hid K4
                clear h7 K3 K4 d6
                go_wp2_with fail
                refine HK4.out.mono ?_
                rintro e w8 ⟨rfl, h8, _⟩
                have K5 := h8.swap.afree c 1 C64.out (by decide)
                rw [F3.out] at K5
                have HK5 := Lib.hid K5
                clear h8 HK4 K5 d7
                go_wp2_with fail
                refine HK5.out.mono ?_
                rintro e w9 ⟨rfl, h9, _⟩
                have HK6 := Lib.hid h9.swap.fgot
                clear h9 HK5
                go_wp2_with fail
                refine HK6.out.mono ?_
                rintro e w10 ⟨rfl, h10, _⟩
                have H10 := Lib.hid h10
                clear h10 HK6
                go_wp2_with fail
                go_meet
                exact ⟨X2, H2', g, HX2.out, HG2.out, HT2.out, H10.out⟩
          case rest =>
            obtain ⟨X2, H2', g2, hX2, hG2, hT2, hst2⟩ := hcut
            have hth : H2'.length = 3 := hG2.same.trans hX2
            have hp3 := partF_three hX2 hth
            have hpm := partF_mono hG2
            have HG2 := Lib.hid hG2; have HX2 := Lib.hid hX2; have HT2 := Lib.hid hT2; have HP3 := Lib.hid hp3; have HPM := Lib.hid hpm
            have K := Lib.hid hst2.fgot
            clear hX2 hG2 hT2 hst2 hth hp3 hpm H5 d0
            go_wp2_with fail
            refine K.out.mono ?_
            rintro e w9 ⟨rfl, h9, _⟩
            have H9 := Lib.hid h9
            clear h9 K
            go_upto_block 5 with fail
            go_cut [17] (fun al wx => al = .int .u64 S ∧ SumsAt U w wx q p S)
            case first =>
              go_wp2_with fail
              go_loopw [17, 18] (fun al i wr => ∃ (j : Nat) (x : Int), j ≤ 3 ∧ al = .int .u64 x ∧ i = .int .i64 j ∧ x = g2 + partF X2 H2' j ∧ St w wr (star (U.IsF (.pointer (some q)) (.pointer (some p)) H2' g2) (star (T.IsA (.pointer (some p)) X2) nothing))) (fun _ i _ => 3 - (intOf i).toNat)
              case atStart => exact ⟨0, g2, by omega, rfl, rfl, (Int.add_zero g2).symm, H9.out⟩
              case round =>
                obtain ⟨j, x, hj, rfl, rfl, hx, hst2⟩ := hrel
                clear H9
                by_cases hj3 : j < 3
                · have hm := HPM.out j
                  have hb3 : partF X2 H2' (j + 1) ≤ partF X2 H2' 3 := by
                    have h1 : partF X2 H2' 1 + hOf H2' (1 : Nat) ≤ partF X2 H2' 2 := (HPM.out 1).2
                    have h2 : partF X2 H2' 2 + hOf H2' (2 : Nat) ≤ partF X2 H2' 3 := (HPM.out 2).2
                    have m0 := hsum_le HG2.out (1 : Nat)
                    have m1 := hsum_le HG2.out (2 : Nat)
                    have : j = 0 ∨ j = 1 ∨ j = 2 := by omega
                    rcases this with rfl | rfl | rfl
                    · show partF X2 H2' 1 ≤ partF X2 H2' 3
                      omega
                    · show partF X2 H2' 2 ≤ partF X2 H2' 3
                      omega
                    · exact Int.le_refl _
                  have hstep : partF X2 H2' (j + 1) = partF X2 H2' j + hOf H2' j + freeA X2 j 1 := rfl
                  have htot2 : partF X2 H2' 3 + g2 = S := by rw [HP3.out]; exact HT2.out
                  have hge := HG2.out.gg
                  have hS := HSB.out
                  have j64 : Hid (I64 (j : Int)) := Lib.hid ⟨by omega, by omega⟩
                  have K := hst2.fheld j j64.out
                  have hfu := free_u64 HG2.out.ga j 1
                  obtain ⟨hv, hhv⟩ : ∃ y, hOf H2' j = y := ⟨_, rfl⟩
                  obtain ⟨fv, hfv⟩ : ∃ y, freeA X2 j 1 = y := ⟨_, rfl⟩
                  have HFV := Lib.hid hfv
                  rw [hhv] at K hm hstep
                  rw [hfv] at hstep hfu
                  have hwr : IntKind.u64.wrap (x + hv) = x + hv := IntWalk.u64_in _ (by have := hOf_u64 HG2.out.gh j; rw [hhv] at this; omega)
                  have hwr2 : IntKind.u64.wrap (x + hv + fv) = x + hv + fv := IntWalk.u64_in _ (by have := hOf_u64 HG2.out.gh j; rw [hhv] at this; omega)
                  have hx2 : Hid (x + hv + fv = g2 + partF X2 H2' (j + 1)) := Lib.hid (by omega)
                  have HK := Lib.hid K
                  clear K hm hb3 hstep htot2 hge hS hfu hx hst2 hhv hfv
                  go_wp2_with fail
                  refine HK.out.mono ?_
                  rintro e w10 ⟨rfl, h10, _⟩
                  have K2 := h10.swap.afree j 1 j64.out (by decide)
                  rw [HFV.out] at K2
                  have HK2 := Lib.hid K2
                  clear h10 HK K2
                  go_wp2_with fail
                  refine HK2.out.mono ?_
                  rintro e w11 ⟨rfl, h11, _⟩
                  have H11 := Lib.hid h11.swap
                  clear h11 HK2
                  go_wp2_with fail
                  go_roundw
                  case rel => exact ⟨j + 1, _, by omega, rfl, by go_num, hx2.out, H11.out⟩
                  case measure => simp [intOf]; omega
                · obtain rfl : j = 3 := by omega
                  have HS3 := Lib.hid hst2
                  have hxS : x = S := by rw [hx, HP3.out, ← HT2.out]; unfold htot; omega
                  have HXS := Lib.hid hxS
                  clear hst2 hx hxS hj3
                  go_wp2_with fail
                  go_meet
                  exact ⟨by rw [HXS.out], X2, H2', g2, HX2.out, HG2.out, HT2.out, HS3.out⟩
            case rest =>
              obtain ⟨rfl, hat⟩ := hcut
              have HAT := Lib.hid hat
              clear hat H9
              go_wp2_with fail
              go_roundw
              case rel => exact ⟨k + 1, by omega, by omega, by go_num, HAT.out⟩
              case measure => simp [intOf]; omega
        · have HAT := Lib.hid hat
          have hge : k = np ∨ (k < np ∧ k = 40) := by omega
          clear hgo hat
          rcases hge with rfl | ⟨hlt, rfl⟩
          all_goals
            go_wp2_with fail
            go_meet
            exact HAT.out
    case rest =>
      obtain ⟨X, H, g, _, _, _, hst⟩ := hcut
      have HB := Lib.hid hst.below
      have hsz := hst.size
      have HSZ := Lib.hid hsz
      clear hst hsz HS
      go_wp2_with fail
      refine (hawake_any U _).mono ?_
      rintro e w8 ⟨rfl, hb8⟩
      have HB8 := Lib.hid hb8
      clear hb8
      go_wp2_with fail
      go_ret
      exact ⟨rfl, HB.out.trans (HB8.out.mono HSZ.out)⟩
end Go.Proofs.Ytnicfhafepiknaa
