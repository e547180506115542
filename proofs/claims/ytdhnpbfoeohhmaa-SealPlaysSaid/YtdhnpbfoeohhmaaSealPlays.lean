/- SealPlays answers true, and makes only new memory. Conditions: seal's calls are as their contracts say; the rows lie in memory. -/
import Derived.Test.YtdhnpbfoeohhmaaSealAwake
import Derived.Test.YtdhnpbfoeohhmaaSteps
import Derived.Test.YtdhnpbfoeohhmaaSame
import Derived.Test.YtdhnpbfoeohhmaaVaultOpen
import Derived.Deep.RegionHeld3
namespace Go.Proofs.Ytdhnpbfoeohhmaa
open Go.RowKit Go.WideShapes

theorem and7p (n : Int) : bits .and .i64 n 7 = n % 8 := and_mask n 3 7 (by decide) (by decide)
theorem and3p (n : Int) : bits .and .i64 n 3 = n % 4 := and_mask n 2 3 (by decide) (by decide)
/-- Where the loop stands. -/
def PlaysAt (S : SealApi) (w0 w : World) (pa : Addr) (br : Nat) (n : Int) (i : Nat) : Prop :=
  ∃ T L, T.length ≤ i ∧ L.length ≤ i ∧ OnlyC T L ∧ St w0 w (star (S.IsV (.pointer (some pa)) n T L) (star (IsVault (.pointer (some ⟨br, 0, none⟩)) n T L) nothing))

set_option maxRecDepth 100000 in
set_option maxHeartbeats 16000000 in
theorem plays_some (S : SealApi) (need : Int) (A : Option Addr) (cap : Nat) (ps : List StepV) (few : Bool) (w : World) (hneed : I64 need) (hlp : ps.length ≤ 9223372036854775807) (hp : StepsAt w A ps) :
    Calls Try.prog 6 #[.int .i64 need, .slice A ps.length cap, .bool few] w fun e w' => e = .returned (.bool true) ∧ Below w.heap.size w w' := by
  obtain ⟨np, hnp⟩ : ∃ k, ps.length = k := ⟨_, rfl⟩
  rw [hnp] at hlp ⊢
  have k7 := and7p; have k3 := and3p
  obtain ⟨n, hn⟩ : ∃ n : Int, n = (if few then need % 4 else need) := ⟨_, rfl⟩
  have hn64 : I64 n := by
    rcases few with _ | _
    · rw [hn]; exact hneed
    · rw [hn]; simp only [if_true]; constructor <;> omega
  have HNP := Lib.hid hnp; have HP := Lib.hid hp; have HN := Lib.hid hn; have HN64 := Lib.hid hn64
  clear hnp hp hn hn64 hneed
  go_enter Try.func6, Try.ntmps6
  go_upto_if 19 with fail
  go_cut [0] (fun s0 wx => s0 = .int .i64 n ∧ wx = w)
  case first =>
    rcases few with _ | _
    · obtain rfl : n = need := HN.out
      go_wp2_with fail
      go_meet
      exact ⟨rfl, rfl⟩
    · obtain rfl : n = need % 4 := HN.out
      go_wp2_with fail
      go_meet
      exact ⟨rfl, rfl⟩
  case rest =>
    obtain ⟨rfl, rfl⟩ := hcut
    obtain ⟨w, rfl⟩ : ∃ w1 : World, w1 = wc := ⟨_, rfl⟩
    go_wp2_with fail
    refine (st_vault S (St.start w w (Below.refl _ _)) n HN64.out).mono ?_
    rintro e w1 ⟨pa, rfl, h1⟩
    have h2 : St w (w1.alloc (.cells #[.int .i64 n, .slice none 0 0, .slice none 0 0] 46)) (star (IsVault (.pointer (some ⟨w1.heap.size, 0, none⟩)) n [] []) (star (S.IsV (.pointer (some pa)) n [] []) nothing)) :=
      h1.add ((Below.refl _ _).alloc (Nat.le_refl _) _) (IsVault.made w1 n) (fun k hk => by rw [hk]; exact Nat.le_refl _)
    have hstart : PlaysAt S w (w1.alloc (.cells #[.int .i64 n, .slice none 0 0, .slice none 0 0] 46)) pa w1.heap.size n 0 := ⟨[], [], by simp, by simp, onlyC_nil _, h2.swap⟩
    have HS := Lib.hid hstart
    clear hstart h1 h2
    go_upto_block 0 with fail
    generalize w1.alloc (.cells #[.int .i64 n, .slice none 0 0, .slice none 0 0] 46) = w2 at HS ⊢
    generalize w1.heap.size = br at HS ⊢
    go_cut [9] (fun _ wx => PlaysAt S w wx pa br n 40)
    case first =>
      go_wp2_with fail
      go_loopw [9] (fun i wr => ∃ k : Nat, k ≤ np ∧ k ≤ 40 ∧ i = .int .i64 k ∧ PlaysAt S w wr pa br n k) (fun i _ => 40 - (intOf i).toNat)
      case atStart => exact ⟨0, by omega, by omega, rfl, HS.out⟩
      case round =>
        obtain ⟨k, hkp, hk40, rfl, hat⟩ := hrel
        clear HS
        by_cases hgo : k < np ∧ k < 40
        · obtain ⟨hg1, hg2⟩ := hgo
          obtain ⟨T, L, hT, hL, hon, hst⟩ := hat
          obtain ⟨b, off, rfl, hb, c0, c1, c2, c3, hok⟩ := HP.out.at (i := k) (by rw [HNP.out]; exact hg1)
          generalize ps[k]'(by rw [HNP.out]; exact hg1) = pv at c0 c1 c2 c3 hok
          obtain ⟨kd, pa_, pb_, pA, pcap, pt⟩ := pv
          obtain ⟨_, q2, q3, q4, q5, q6, q7⟩ := hok
          simp only at c0 c1 c2 c3 q2 q3 q4 q5 q6 q7
          obtain ⟨lp, hlp'⟩ : ∃ m, pt.length = m := ⟨_, rfl⟩
          rw [hlp'] at c3 q4
          have HLP := Lib.hid hlp'
          have HST := Lib.hid hst; have HON := Lib.hid hon
          have HC0 := Lib.hid c0; have HC3 := Lib.hid c3; have HQ6 := Lib.hid q6; have HQ7 := Lib.hid q7
          have d1 := (hst.below.cell (p := ⟨b, off + k * 4 + 1, none⟩) hb).trans c1
          have d2 := (hst.below.cell (p := ⟨b, off + k * 4 + 2, none⟩) hb).trans c2
          have hab : ∃ x' y' : Int, I64 x' ∧ I64 y' ∧ x' = (if few then pa_ % 4 else pa_) ∧ y' = (if few then pb_ % 8 else pb_) := by
            rcases few with _ | _
            · exact ⟨pa_, pb_, q2, q3, rfl, rfl⟩
            · exact ⟨pa_ % 4, pb_ % 8, ⟨by omega, by omega⟩, ⟨by omega, by omega⟩, rfl, rfl⟩
          obtain ⟨x, y, wx, wy, hx, hy⟩ := hab
          have HX := Lib.hid hx; have HY := Lib.hid hy; have WX := Lib.hid wx; have WY := Lib.hid wy
          clear hst hon c0 c1 c2 c3 q2 q3 q6 q7 hx hy wx wy hlp'
          go_wp2_with fail
          go_quiet (fail)
          clear d1 d2
          have h3 := HST.out.more (below_drewN (Below.refl _ _) nq)
          obtain ⟨w3, hw3⟩ : ∃ w3, wr.drewN nq = w3 := ⟨_, rfl⟩
          rw [hw3] at h3 ⊢
          have H3 := Lib.hid h3
          have d3 := (h3.below.cell (p := ⟨b, off + k * 4 + 3, none⟩) hb).trans HC3.out
          clear h3 hw3 HST
          obtain ⟨big, hbig⟩ : ∃ q, decide ((200 : Int) < (lp : Int)) = q := ⟨_, rfl⟩
          rcases big with _ | _
          · have hl200 : lp ≤ 200 := by have := of_decide_eq_false hbig; omega
            go_upto_if 57 with fail
            go_cut [10, 11] (fun s10 s11 wx => s10 = .int .i64 x ∧ s11 = .int .i64 y ∧ wx = w3)
            case first =>
              rcases few with _ | _
              · obtain rfl : x = pa_ := HX.out
                obtain rfl : y = pb_ := HY.out
                go_wp2_with fail
                go_meet
                exact ⟨rfl, rfl, rfl⟩
              · obtain rfl : x = pa_ % 4 := HX.out
                obtain rfl : y = pb_ % 8 := HY.out
                go_wp2_with fail
                go_meet
                exact ⟨rfl, rfl, rfl⟩
            case rest =>
              obtain ⟨rfl, rfl, rfl⟩ := hcut
              obtain ⟨w3, rfl⟩ : ∃ w3 : World, w3 = wc := ⟨_, rfl⟩
              have d0 := (H3.out.below.cell (p := ⟨b, off + k * 4, none⟩) hb).trans HC0.out
              have e0 := k7 kd
              obtain ⟨m, hm⟩ : ∃ m : Int, kd % 8 = m := ⟨_, rfl⟩
              rw [hm] at e0
              clear hm hbig HX HY k7 k3
              go_upto_block 2 with fail
              go_cut [68] (fun _ wx => PlaysAt S w wx pa br n (k + 1))
              case first =>
                have hm5 : m = 0 ∨ (m = 1 ∨ m = 2 ∨ m = 3) ∨ ((m == 0) = false ∧ (m == 1) = false ∧ (m == 2) = false ∧ (m == 3) = false) := by
                  simp only [beq_eq_false_iff_ne]; omega
                rcases hm5 with rfl | hm5 | ⟨b0, b1, b2, b3⟩
                · have K1 := H3.out.drew.vseal x pA lp pcap pt (by omega) WX.out HLP.out (by have := S.lim_ge; omega) q4 HQ6.out (HQ7.out.below (H3.out.below.drew))
                  have HK1 := Lib.hid K1
                  clear K1 d0
                  go_wp2_with fail
                  go_cut [86] (fun s86 wx => s86 = .bool false ∧ St w wx (star (S.IsV (.pointer (some pa)) n (T ++ [(x, pt)]) L) (star (IsVault (.pointer (some ⟨br, 0, none⟩)) n (T ++ [(x, pt)]) L) nothing)))
                  case first =>
                    go_region_held3 (fun w' => w'.cell? ⟨b, off + k * 4 + 3, none⟩ = some (.slice pA lp pcap)) (first | exact e6 | exact e5 | exact d3) (first
                      | (go_at_call 10; refine HK1.out.mono ?_; rintro e w5 ⟨rfl, h5⟩; have e5 := (h5.below.cell (p := ⟨b, off + k * 4 + 3, none⟩) hb).trans HC3.out; have K2 := Lib.hid (h5.swap.rseal x pA lp pcap pt (by omega) HLP.out HQ6.out q4 (HQ7.out.below h5.below)); clear h5)
                      | (go_at_call 17; refine K2.out.mono ?_; rintro e w6 ⟨rfl, h6⟩; have e6 := (h6.below.cell (p := ⟨b, off + k * 4 + 3, none⟩) hb).trans HC3.out; have H6 := Lib.hid h6.swap; clear h6))
                    all_goals
                      go_wp2_with fail
                      go_meet
                      exact ⟨rfl, H6.out⟩
                  case rest =>
                    obtain ⟨rfl, hst5⟩ := hcut
                    have H5 := Lib.hid hst5
                    clear hst5 HK1 d3
                    go_wp2_with fail
                    go_meet
                    exact ⟨_, L, by simp; omega, by omega, HON.out.more _, H5.out⟩
                · have HK := Lib.hid (H3.out.vshare x y (by omega) (by omega) HON.out WX.out WY.out)
                  obtain ⟨q, hq⟩ : ∃ q, isC T y = q := ⟨_, rfl⟩
                  have HQ := Lib.hid hq
                  rw [hq] at HK
                  clear hq
                  rcases hm5 with rfl | rfl | rfl
                  all_goals
                    go_wp2_with fail
                    refine HK.out.mono ?_
                    rintro e w4 ⟨rfl, h4⟩
                    have K2 := h4.swap.rshare x y (by omega)
                    rw [HQ.out] at K2
                    have HK2 := Lib.hid K2
                    have hsl := shareAdd_length T L x y
                    clear h4 K2 d0 d3
                    go_wp2_with fail
                    refine HK2.out.mono ?_
                    rintro e w5 ⟨rfl, h5⟩
                    have H5 := Lib.hid h5.swap
                    clear h5 HK2
                    rcases q with _ | _
                    all_goals
                      go_wp2_with fail
                      go_meet
                      exact ⟨T, _, by omega, by omega, HON.out.share x y, H5.out⟩
                · go_wp2_with fail
                  go_meet
                  exact ⟨T, L, by omega, by omega, HON.out, H3.out⟩
              case rest =>
                obtain ⟨T, L, hT, hL, hon, hst⟩ := hcut
                obtain ⟨w4, rfl⟩ : ∃ w4 : World, w4 = wc := ⟨_, rfl⟩
                have HON := Lib.hid hon
                have K := hst.vopen x y (by omega) (by omega) hon WX.out WY.out
                obtain ⟨q, hq⟩ : ∃ q, openOk n T L x y = q := ⟨_, rfl⟩
                obtain ⟨row, hrow⟩ : ∃ r, openRow n T L x y = r := ⟨_, rfl⟩
                rw [hq, hrow] at K
                have HQ := Lib.hid hq; have HROW := Lib.hid hrow
                have HK := Lib.hid K
                clear hst hon K hq hrow d0 d3 H3 e0
                go_wp2_with fail
                refine HK.out.mono ?_
                rintro e w5 ⟨x5, rfl, h5⟩
                have K2 := h5.third.ropen x y (by omega) (by omega) HON.out
                rw [HQ.out, HROW.out] at K2
                have HK2 := Lib.hid K2
                have H5 := Lib.hid h5
                clear h5 HK K2
                go_wp2_with fail
                refine HK2.out.mono ?_
                rintro e w6 ⟨x6, F6, rfl, hr6, _, hb6⟩
                obtain ⟨A6, cap6, rfl, hc6, hn6, hl6⟩ := hr6.lie
                have h6 := H5.out.more hb6
                obtain ⟨A5, cap5, rfl, hc5, hn5, hl5⟩ := h6.lieR
                obtain ⟨lr, hlr⟩ : ∃ m, row.length = m := ⟨_, rfl⟩
                have HKS := Lib.hid (bsame_any (cap := cap5) (capb := cap6) hl5 hl6 hlr hlr (fun h => by have := hn5 h; omega) (fun h => by have := hn6 h; omega))
                rw [decide_eq_true rfl] at HKS
                rw [hlr]
                have H6 := Lib.hid h6.snd
                clear hr6 hb6 hc6 hn6 hl6 h6 hc5 hn5 hl5 H5 HK2 hlr
                have hal := allOf_le L y
                have hal2 : (allOf L y).length ≤ 1000000 := by omega
                have HAL := Lib.hid hal2
                clear hal hal2
                go_upto_region 25 with fail
                go_cut [139] (fun s139 wx => s139 = .bool false ∧ St w wx (star (S.IsV (.pointer (some pa)) n T L) (star (IsVault (.pointer (some ⟨br, 0, none⟩)) n T L) nothing)))
                case first =>
                  have HKV := Lib.hid (H6.out.vshares y (by omega) (by omega) HON.out WY.out)
                  rcases q with _ | _
                  all_goals
                    go_wp2_with fail
                    refine HKS.out.mono ?_
                    rintro e w7 ⟨rfl, rfl⟩
                    go_wp2_with fail
                    refine HKV.out.mono ?_
                    rintro e w8 ⟨x8, rfl, h8⟩
                    obtain ⟨A8, cap8, rfl, hi8⟩ := h8.ints
                    have HKR := Lib.hid (h8.third.rshares y (by omega) HON.out)
                    have HI8 := Lib.hid hi8
                    have H8 := Lib.hid h8.snd
                    clear h8 hi8 HKV HKS
                    go_wp2_with fail
                    refine HKR.out.mono ?_
                    rintro e w9 ⟨x9, rfl, ho9, hb9⟩
                    obtain ⟨A9, cap9, rfl, _, hi9⟩ := ints_own ho9
                    have HKI := Lib.hid (same_any (cap := cap8) (capb := cap9) (HI8.out.below hb9) hi9 HAL.out HAL.out)
                    rw [decide_eq_true rfl] at HKI
                    have H9 := Lib.hid (H8.out.more hb9)
                    clear ho9 hb9 hi9 HI8 H8 HKR
                    go_wp2_with fail
                    refine HKI.out.mono ?_
                    rintro e w10 ⟨rfl, q10, rfl⟩
                    have h10 := H9.out.more (below_drewN (Below.refl _ _) q10)
                    have HKL := Lib.hid (h10.vlen (by omega))
                    clear h10 H9 HKI
                    go_wp2_with fail
                    refine HKL.out.mono ?_
                    rintro e w11 ⟨rfl, h11, _⟩
                    have HKM := Lib.hid (h11.swap.rlen)
                    have H11 := Lib.hid h11
                    clear h11 HKL
                    go_wp2_with fail
                    refine HKM.out.mono ?_
                    rintro e w12 ⟨rfl, rfl⟩
                    go_wp2_with fail
                    go_meet
                    exact ⟨rfl, H11.out⟩
                case rest =>
                  obtain ⟨rfl, hst7⟩ := hcut
                  obtain ⟨w7, rfl⟩ : ∃ w7 : World, w7 = wc := ⟨_, rfl⟩
                  have HKR := Lib.hid (hst7.swap.rshares y (by omega) HON.out)
                  have H7 := Lib.hid hst7
                  clear hst7 H6 HKS
                  go_wp2_with fail
                  refine HKR.out.mono ?_
                  rintro e w8 ⟨x8, rfl, ho8, hb8⟩
                  obtain ⟨A8, cap8, rfl, _, hi8⟩ := ints_own ho8
                  have H8 := Lib.hid (H7.out.more hb8)
                  have HI8 := Lib.hid hi8
                  obtain ⟨l, hl⟩ : ∃ l, allOf L y = l := ⟨_, rfl⟩
                  rw [hl] at HI8 HAL ⊢
                  obtain ⟨nl, hnl⟩ : ∃ m, l.length = m := ⟨_, rfl⟩
                  rw [hnl]
                  have HNL := Lib.hid hnl; have HLL := Lib.hid hl
                  have hnl6 : nl ≤ 1000000 := by rw [← hnl]; exact HAL.out
                  clear ho8 hb8 hi8 H7 HKR hl hnl
                  go_upto_block 3 with fail
                  go_cut [16] (fun s16 wx => s16 = .bool (decide (x ∈ l)) ∧ wx = w8)
                  case first =>
                    go_wp2_with fail
                    go_loopw [16, 144] (fun sh si wr => ∃ j : Nat, j ≤ nl ∧ si = .int .i64 j ∧ sh = .bool (decide (x ∈ l.take j)) ∧ wr = w8) (fun _ si _ => nl - (intOf si).toNat)
                    case atStart => exact ⟨0, by omega, rfl, by simp, rfl⟩
                    case round =>
                      obtain ⟨j, hj, rfl, rfl, rfl⟩ := hrel
                      by_cases hjn : j < nl
                      · have hjl : j < l.length := by rw [HNL.out]; exact hjn
                        obtain ⟨b8, off8, rfl, hbb, hcz⟩ := HI8.out.at hjl
                        have htk : l.take (j + 1) = l.take j ++ [l[j]] := List.take_succ_eq_append_getElem hjl
                        generalize l[j] = z at hcz htk
                        obtain ⟨q1, hq1⟩ : ∃ q, decide (x ∈ l.take j) = q := ⟨_, rfl⟩
                        obtain ⟨q2, hq2⟩ : ∃ q, (z == x) = q := ⟨_, rfl⟩
                        have hnew : decide (x ∈ l.take (j + 1)) = (q1 || q2) := by
                          rw [htk, ← hq1, ← hq2, Bool.eq_iff_iff]
                          simp only [decide_eq_true_eq, List.mem_append, List.mem_singleton, Bool.or_eq_true, beq_iff_eq]
                          exact ⟨fun h => h.imp id Eq.symm, fun h => h.imp id Eq.symm⟩
                        have HNEW := Lib.hid hnew
                        rw [hq1]
                        clear htk hq1 hnew
                        rcases q1 with _ | _
                        all_goals (rcases q2 with _ | _)
                        all_goals
                          go_wp2_with fail
                          go_roundw
                          case rel => exact ⟨j + 1, hjn, by go_num, by rw [HNEW.out]; rfl, by first | rfl | trivial⟩
                          case measure => simp [intOf]; omega
                      · obtain rfl : j = nl := by omega
                        have ht : l.take j = l := List.take_of_length_le (by rw [HNL.out]; exact Nat.le_refl _)
                        rw [ht]
                        clear hjn hj
                        go_wp2_with fail
                        go_meet
                        exact ⟨rfl, rfl⟩
                  case rest =>
                    obtain ⟨rfl, rfl⟩ := hcut
                    obtain ⟨w8, rfl⟩ : ∃ w8 : World, w8 = wc := ⟨_, rfl⟩
                    have K := H8.out.vshared x y (by omega) (by omega) HON.out WX.out WY.out
                    have hmem : decide ((x, y) ∈ L) = decide (x ∈ l) := by rw [decide_eq_decide, ← HLL.out, mem_allOf]
                    rw [hmem] at K
                    have HK := Lib.hid K
                    obtain ⟨qq, hqq⟩ : ∃ q, decide (x ∈ l) = q := ⟨_, rfl⟩
                    rw [hqq] at HK ⊢
                    clear K hmem H8 hqq
                    go_wp2_with fail
                    refine HK.out.mono ?_
                    rintro e w9 ⟨rfl, h9, _⟩
                    have H9 := Lib.hid h9
                    clear h9 HK
                    rcases qq with _ | _
                    all_goals
                      go_wp2_with fail
                      go_roundw
                      case rel => exact ⟨k + 1, by omega, by omega, by go_num, T, L, hT, hL, HON.out, H9.out⟩
                      case measure => simp [intOf]; omega
          · go_wp2_with fail
            refine (vawake_any S _).mono ?_
            rintro e w8 ⟨rfl, hb8⟩
            have HB8 := Lib.hid hb8
            clear hb8
            go_wp2_with fail
            go_ret
            exact ⟨rfl, H3.out.below.trans (HB8.out.mono H3.out.size)⟩
        · have hfin : PlaysAt S w wr pa br n 40 := by
            obtain ⟨T, L, h1, h2, r⟩ := hat
            exact ⟨T, L, by omega, by omega, r⟩
          have HFIN := Lib.hid hfin
          clear hfin hat
          have hge : k = np ∨ (k < np ∧ k = 40) := by omega
          clear hgo
          rcases hge with rfl | ⟨hlt, rfl⟩
          all_goals
            go_wp2_with fail
            go_meet
            exact HFIN.out
    case rest =>
      obtain ⟨T, L, _, _, _, hst⟩ := hcut
      obtain ⟨w3, rfl⟩ : ∃ w3 : World, w3 = wc := ⟨_, rfl⟩
      have HB := Lib.hid hst.below
      have hsz := hst.size
      have HSZ := Lib.hid hsz
      clear hst hsz HS
      go_wp2_with fail
      refine (vawake_any S _).mono ?_
      rintro e w8 ⟨rfl, hb8⟩
      have HB8 := Lib.hid hb8
      clear hb8
      go_wp2_with fail
      go_ret
      exact ⟨rfl, HB.out.trans (HB8.out.mono HSZ.out)⟩
end Go.Proofs.Ytdhnpbfoeohhmaa
