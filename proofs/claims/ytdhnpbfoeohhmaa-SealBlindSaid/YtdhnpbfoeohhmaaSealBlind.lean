/- SealBlind answers true, and makes only new memory. Conditions: seal's calls are as their contracts say; the rows lie in memory, no text in them is longer than a process's memory. -/
import Derived.Test.YtdhnpbfoeohhmaaSealAwake
import Derived.Test.YtdhnpbfoeohhmaaSteps
import Derived.Deep.CutBlock
import Derived.Deep.DeepCutAuto
namespace Go.Proofs.Ytdhnpbfoeohhmaa
open Go.RowKit Go.WideShapes

/-- Two rows of ciphers that are alike but for their texts. -/
def SameLab (T1 T2 : Texts) : Prop := T1.map (·.1) = T2.map (·.1)
theorem SameLab.len {T1 T2 : Texts} (h : SameLab T1 T2) : T1.length = T2.length := by have := congrArg List.length h; simpa using this
theorem SameLab.isC {T1 T2 : Texts} (h : SameLab T1 T2) (c : Int) : isC T1 c = isC T2 c := by unfold Proofs.Ytdhnpbfoeohhmaa.isC; rw [h.len]
theorem SameLab.lab {T1 T2 : Texts} (h : SameLab T1 T2) (j : Nat) : (T1.getD j (0, [])).1 = (T2.getD j (0, [])).1 := by
  have e := congrArg (fun l : List Int => l[j]?) h
  simp only [List.getElem?_map] at e
  rw [List.getD_eq_getElem?_getD, List.getD_eq_getElem?_getD]
  cases h1 : T1[j]? <;> cases h2 : T2[j]? <;> rw [h1, h2] at e <;> simp at e ⊢
  exact e
theorem SameLab.openOk {T1 T2 : Texts} (h : SameLab T1 T2) (n : Int) (L : List (Int × Int)) (label c : Int) : openOk n T1 L label c = openOk n T2 L label c := by
  unfold Proofs.Ytdhnpbfoeohhmaa.openOk; rw [h.isC, h.lab]
theorem SameLab.snoc {T1 T2 : Texts} (h : SameLab T1 T2) (x : Int) (s t : List UInt8) : SameLab (T1 ++ [(x, s)]) (T2 ++ [(x, t)]) := by
  unfold SameLab at h ⊢; rw [List.map_append, List.map_append, h]; rfl
theorem SameLab.share {T1 T2 : Texts} (h : SameLab T1 T2) (L : List (Int × Int)) (who c : Int) : shareAdd T1 L who c = shareAdd T2 L who c := by
  unfold shareAdd; rw [h.isC]
theorem SameLab.only {T1 T2 : Texts} (h : SameLab T1 T2) {L : List (Int × Int)} (ho : OnlyC T1 L) : OnlyC T2 L := fun p hp => by rw [← h.isC]; exact ho p hp
theorem and7b (n : Int) : bits .and .i64 n 7 = n % 8 := and_mask n 3 7 (by decide) (by decide)
theorem and3b (n : Int) : bits .and .i64 n 3 = n % 4 := and_mask n 2 3 (by decide) (by decide)

/-- Where the loop stands. -/
def BlindAt (S : SealApi) (w0 w : World) (pa pb : Addr) (i : Nat) : Prop :=
  ∃ T1 T2 L, T1.length ≤ i ∧ SameLab T1 T2 ∧ L.length ≤ i ∧ OnlyC T1 L ∧ St w0 w (star (S.IsV (.pointer (some pa)) 2 T1 L) (star (S.IsV (.pointer (some pb)) 2 T2 L) nothing))

set_option maxRecDepth 100000 in
set_option maxHeartbeats 16000000 in
theorem blind_some (S : SealApi) (hlim : 140737488351232 ≤ S.lim) (A A2 : Option Addr) (cap cap2 : Nat) (ps : List StepV) (rs : List RowV) (w : World) (hlp : ps.length ≤ 9223372036854775807) (hp : StepsAt w A ps) (hr : RowsAt w A2 rs) (hps : ∀ p ∈ ps, p.t.length ≤ 140737488351232) (hrs : ∀ p ∈ rs, p.t.length ≤ 140737488351232) :
    Calls Try.prog 7 #[.slice A ps.length cap, .slice A2 rs.length cap2] w fun e w' => e = .returned (.bool true) ∧ Below w.heap.size w w' := by
  obtain ⟨np, hnp⟩ : ∃ k, ps.length = k := ⟨_, rfl⟩
  obtain ⟨nr, hnr⟩ : ∃ k, rs.length = k := ⟨_, rfl⟩
  rw [hnp] at hlp ⊢
  rw [hnr]
  have k7 := and7b; have k3 := and3b
  have HNP := Lib.hid hnp; have HNR := Lib.hid hnr; have HP := Lib.hid hp; have HR := Lib.hid hr; have HLIM := Lib.hid hlim; have HPS := Lib.hid hps; have HRS := Lib.hid hrs
  clear hnp hnr hp hr hlim hps hrs
  go_enter Try.func7, Try.ntmps7
  go_wp2_with fail
  refine (st_vault S (St.start w w (Below.refl _ _)) 2 (by decide)).mono ?_
  rintro e w1 ⟨pa, rfl, h1⟩
  have K := Lib.hid (st_vault S h1 2 (by decide))
  clear h1
  go_wp2_with fail
  refine K.out.mono ?_
  rintro e w2 ⟨pb, rfl, h2⟩
  have hstart : BlindAt S w w2 pa pb 0 := ⟨[], [], [], by simp, rfl, by simp, onlyC_nil _, h2.swap⟩
  have HS := Lib.hid hstart
  clear hstart h2 K
  go_upto_block 0 with fail
  go_cut [7] (fun _ wx => BlindAt S w wx pa pb 40)
  case first =>
    go_wp2_with fail
    go_loopw [7] (fun i wr => ∃ k : Nat, k ≤ np ∧ k ≤ 40 ∧ i = .int .i64 k ∧ BlindAt S w wr pa pb k) (fun i _ => 40 - (intOf i).toNat)
    case atStart => exact ⟨0, by omega, by omega, rfl, HS.out⟩
    case round =>
      obtain ⟨k, hkp, hk40, rfl, hat⟩ := hrel
      clear HS
      by_cases hgo : k < np ∧ k < 40
      · obtain ⟨hg1, hg2⟩ := hgo
        obtain ⟨T1, T2, L, hT1, hsl, hLk, hon, hst⟩ := hat
        obtain ⟨b, off, rfl, hb, c0, c1, c2, c3, hok⟩ := HP.out.at (i := k) (by rw [HNP.out]; exact hg1)
        have hpl : (ps[k]'(by rw [HNP.out]; exact hg1)).t.length ≤ 140737488351232 := HPS.out _ (List.getElem_mem _)
        generalize ps[k]'(by rw [HNP.out]; exact hg1) = pv at c0 c1 c2 c3 hok hpl
        obtain ⟨kd, pa_, pb_, pA, pcap, pt⟩ := pv
        obtain ⟨_, _, _, q4, q5, q6, q7⟩ := hok
        simp only at c0 c1 c2 c3 q4 q5 q6 q7 hpl
        have HPL := Lib.hid hpl
        clear hpl
        have HST := Lib.hid hst; have HSL := Lib.hid hsl; have HON := Lib.hid hon
        have HC0 := Lib.hid c0; have HC3 := Lib.hid c3; have HQ6 := Lib.hid q6; have HQ7 := Lib.hid q7
        have d1 := (hst.below.cell (p := ⟨b, off + k * 4 + 1, none⟩) hb).trans c1
        have d2 := (hst.below.cell (p := ⟨b, off + k * 4 + 2, none⟩) hb).trans c2
        obtain ⟨x, hx⟩ : ∃ m : Int, pa_ % 4 = m := ⟨_, rfl⟩
        obtain ⟨y, hy⟩ : ∃ m : Int, pb_ % 8 = m := ⟨_, rfl⟩
        have hxr : I64 x := ⟨by omega, by omega⟩
        have hyr : I64 y := ⟨by omega, by omega⟩
        have e3 := k3 pa_
        have e7 := k7 pb_
        rw [hx] at e3; rw [hy] at e7
        have HXR := Lib.hid hxr; have HYR := Lib.hid hyr; have HK3 := Lib.hid k3
        clear hst hsl hon c0 c1 c2 c3 q6 q7 hx hy hxr hyr k3 k7
        go_wp2_with fail
        go_quiet (fail)
        clear d1 d2 e3 e7
        have h3 := HST.out.more (below_drewN (Below.refl _ _) nq)
        obtain ⟨w3, hw3⟩ : ∃ w3, wr.drewN nq = w3 := ⟨_, rfl⟩
        rw [hw3] at h3 ⊢
        have H3 := Lib.hid h3
        clear h3 hw3 HST
        have ht : ∃ (tA : Option Addr) (lt tcap : Nat) (t : List UInt8), t.length = lt ∧ lt ≤ tcap ∧ lt ≤ 140737488351232 ∧ (tA = none → tcap = 0) ∧ Lie8 w (fun _ => False) tA t ∧ ((k < nr ∧ ∃ b2 off2 : Nat, A2 = some ⟨b2, off2, none⟩ ∧ w3.cell? ⟨b2, off2 + k, none⟩ = some (.slice tA lt tcap)) ∨ (¬ k < nr ∧ tA = none ∧ lt = 0 ∧ tcap = 0)) := by
          by_cases hkr : k < nr
          · have hkr' : k < rs.length := by rw [HNR.out]; exact hkr
            obtain ⟨b2, off2, hA2, hb2, hcs⟩ : ∃ b off : Nat, A2 = some ⟨b, off, none⟩ ∧ b < w.heap.size ∧ ∀ i (h : i < rs.length), w.cell? ⟨b, off + i, none⟩ = some (.slice rs[i].A rs[i].t.length rs[i].cap) ∧ rs[i].ok w := by
              rcases HR.out with h | h
              · rw [h] at hkr'; simp at hkr'
              · exact h
            obtain ⟨hc, r1, r2, r3, r4⟩ := hcs k hkr'
            exact ⟨_, _, _, _, rfl, r1, HRS.out _ (List.getElem_mem _), r3, r4, Or.inl ⟨hkr, b2, off2, hA2, (H3.out.below.cell (p := ⟨b2, off2 + k, none⟩) hb2).trans hc⟩⟩
          · exact ⟨none, 0, 0, [], rfl, by omega, by omega, fun _ => rfl, Or.inl rfl, Or.inr ⟨hkr, rfl, rfl, rfl⟩⟩
        obtain ⟨tA, lt, tcap, t, t1, t2, t3, t4, t5, ht⟩ := ht
        have HT1 := Lib.hid t1; have HT4 := Lib.hid t4; have HT5 := Lib.hid t5
        clear t1 t4 t5
        go_upto_if 48 with fail
        go_cut [10] (fun s10 wx => s10 = .slice tA lt tcap ∧ wx = w3)
        case first =>
          rcases ht with ⟨hkr, b2, off2, rfl, hcd⟩ | ⟨hkr, rfl, rfl, rfl⟩
          · go_wp2_with fail
            go_meet
            exact ⟨rfl, rfl⟩
          · go_wp2_with fail
            go_meet
            exact ⟨rfl, rfl⟩
        case rest =>
          obtain ⟨rfl, rfl⟩ := hcut
          obtain ⟨w3, rfl⟩ : ∃ w3 : World, w3 = wc := ⟨_, rfl⟩
          clear ht
          have d3 := (H3.out.below.cell (p := ⟨b, off + k * 4 + 3, none⟩) hb).trans HC3.out
          have d0 := (H3.out.below.cell (p := ⟨b, off + k * 4, none⟩) hb).trans HC0.out
          obtain ⟨lp, hlp'⟩ : ∃ m, pt.length = m := ⟨_, rfl⟩
          rw [hlp'] at d3 q4
          have HLP := Lib.hid hlp'
          clear hlp'
          obtain ⟨sm, hsm⟩ : ∃ s : Int, IntKind.i64.wrap ((lt : Int) + (lp : Int)) = s := ⟨_, rfl⟩
          obtain ⟨big, hbig⟩ : ∃ q, decide (300 < sm) = q := ⟨_, rfl⟩
          rcases big with _ | _
          · have e0 := HK3.out kd
            obtain ⟨m, hm⟩ : ∃ m : Int, kd % 4 = m := ⟨_, rfl⟩
            rw [hm] at e0
            have HTL : Hid (T2.length = T1.length) := Lib.hid HSL.out.len.symm
            clear hm
            go_upto_region 13 with fail
            clear hbig hsm
            go_cut [105] (fun s105 wx => s105 = .bool false ∧ BlindAt S w wx pa pb (k + 1))
            case first =>
              by_cases hm0 : m = 0
              · subst hm0
                have HK := Lib.hid (H3.out.vseal x pA lp pcap pt (by omega) HXR.out HLP.out (by have := HLIM.out; have := HPL.out; have := HLP.out; omega) q4 HQ6.out (HQ7.out.below H3.out.below))
                go_wp2_with fail
                refine HK.out.mono ?_
                rintro e w4 ⟨rfl, h4⟩
                have K := h4.swap.vseal x tA lt tcap t (by rw [HTL.out]; omega) HXR.out HT1.out (by have := HLIM.out; omega) t2 HT4.out (HT5.out.below h4.below)
                rw [HTL.out] at K
                have HK2 := Lib.hid K
                have d5 := (h4.below.cell (p := ⟨b, off + k * 4, none⟩) hb).trans HC0.out
                clear h4 HK d0 d3 K
                go_wp2_with fail
                refine HK2.out.mono ?_
                rintro e w5 ⟨rfl, h5⟩
                have d6 := (h5.below.cell (p := ⟨b, off + k * 4, none⟩) hb).trans HC0.out
                have H5 := Lib.hid h5.swap
                clear h5 HK2 d5
                go_wp2_with fail
                go_meet
                exact ⟨rfl, _, _, L, by simp; omega, HSL.out.snoc x pt t, by omega, HON.out.more _, H5.out⟩
              · have b0 : (m == 0) = false := by rw [beq_eq_false_iff_ne]; exact hm0
                have b1 : (m != 0) = true := by rw [bne_iff_ne]; exact hm0
                have HK := Lib.hid (H3.out.vshare x y (by omega) (by omega) HON.out HXR.out HYR.out)
                obtain ⟨q, hq⟩ : ∃ q, isC T1 y = q := ⟨_, rfl⟩
                have HQ2 : Hid (isC T2 y = q) := Lib.hid (by rw [← HSL.out.isC, hq])
                rw [hq] at HK
                clear hm0 hq
                go_wp2_with fail
                refine HK.out.mono ?_
                rintro e w4 ⟨rfl, h4⟩
                have K := h4.swap.vshare x y (by rw [HTL.out]; omega) (by omega) (HSL.out.only HON.out) HXR.out HYR.out
                rw [HQ2.out, ← HSL.out.share] at K
                have HK2 := Lib.hid K
                clear h4 HK K
                go_wp2_with fail
                refine HK2.out.mono ?_
                rintro e w5 ⟨rfl, h5⟩
                have H5 := Lib.hid h5.swap
                have hsl := shareAdd_length T1 L x y
                clear h5 HK2
                rcases q with _ | _
                all_goals
                  go_wp2_with fail
                  go_meet
                  exact ⟨rfl, T1, T2, _, by omega, HSL.out, by omega, HON.out.share x y, H5.out⟩
            case rest =>
              obtain ⟨rfl, T1, T2, L, hT1, hsl, hLk, hon, hst⟩ := hcut
              obtain ⟨w4, rfl⟩ : ∃ w4 : World, w4 = wc := ⟨_, rfl⟩
              have HSL := Lib.hid hsl; have HON := Lib.hid hon
              have HTL : Hid (T2.length = T1.length) := Lib.hid hsl.len.symm
              have K := hst.vopen x y (by omega) (by omega) hon HXR.out HYR.out
              obtain ⟨q, hq⟩ : ∃ q, openOk 2 T1 L x y = q := ⟨_, rfl⟩
              have HQ2 : Hid (openOk 2 T2 L x y = q) := Lib.hid (by rw [← hsl.openOk, hq])
              rw [hq] at K
              have HK := Lib.hid K
              clear hst hsl hon K hq d0 d3 H3
              go_wp2_with fail
              refine HK.out.mono ?_
              rintro e w5 ⟨x5, rfl, h5⟩
              have K := h5.snd.swap.vopen x y (by rw [HTL.out]; omega) (by omega) (HSL.out.only HON.out) HXR.out HYR.out
              rw [HQ2.out] at K
              have HK2 := Lib.hid K
              clear h5 HK K
              go_wp2_with fail
              refine HK2.out.mono ?_
              rintro e w6 ⟨x6, rfl, h6⟩
              have H6 := Lib.hid h6.snd.swap
              clear h6 HK2
              go_upto_region 17 with fail
              go_cut [139] (fun s139 wx => s139 = .bool false ∧ St w wx (star (S.IsV (.pointer (some pa)) 2 T1 L) (star (S.IsV (.pointer (some pb)) 2 T2 L) nothing)))
              case first =>
                have HK := Lib.hid (H6.out.vlen (by omega))
                have hal := allOf_le L y
                have hal2 : (allOf L y).length ≤ 1000000 := by omega
                have HAL := Lib.hid hal2
                clear hal hal2
                rcases q with _ | _
                all_goals
                  go_wp2_with fail
                  refine HK.out.mono ?_
                  rintro e w7 ⟨rfl, h7, _⟩
                  have K := h7.swap.vlen (by rw [HTL.out]; omega)
                  rw [HTL.out] at K
                  have HK2 := Lib.hid K
                  clear h7 K HK
                  go_wp2_with fail
                  refine HK2.out.mono ?_
                  rintro e w8 ⟨rfl, h8, _⟩
                  have HK3 := Lib.hid (h8.swap.vshares y (by omega) (by omega) HON.out HYR.out)
                  clear h8 HK2
                  go_wp2_with fail
                  refine HK3.out.mono ?_
                  rintro e w9 ⟨x9, rfl, h9⟩
                  have HK4 := Lib.hid (h9.third.vshares y (by rw [HTL.out]; omega) (by omega) (HSL.out.only HON.out) HYR.out)
                  have hx9 := h9.ints
                  obtain ⟨A9, cap9, rfl, _⟩ := hx9
                  clear h9 HK3
                  go_wp2_with fail
                  refine HK4.out.mono ?_
                  rintro e w10 ⟨x10, rfl, h10⟩
                  obtain ⟨A10, cap10, rfl, hi10⟩ := h10.ints
                  obtain ⟨A9', cap9', e9, hi9⟩ := h10.third.ints
                  injection e9 with e9 _ e9'
                  subst e9; subst e9'
                  have HK5 := Lib.hid (same_any (cap := cap9) (capb := cap10) hi9 hi10 HAL.out HAL.out)
                  rw [decide_eq_true rfl] at HK5
                  have H10 := Lib.hid h10.snd.swap.snd.swap
                  clear h10 hi10 hi9 HK4
                  go_wp2_with fail
                  refine HK5.out.mono ?_
                  rintro e w11 ⟨rfl, q5, rfl⟩
                  have H11 := Lib.hid (H10.out.more (below_drewN (Below.refl _ _) q5))
                  clear HK5 H10
                  go_wp2_with fail
                  go_meet
                  exact ⟨rfl, H11.out⟩
              case rest =>
                obtain ⟨rfl, hst7⟩ := hcut
                have H7 := Lib.hid hst7
                clear hst7 H6
                go_wp2_with fail
                go_roundw
                case rel => exact ⟨k + 1, by omega, by omega, by go_num, T1, T2, L, by omega, HSL.out, by omega, HON.out, H7.out⟩
                case measure => simp [intOf]; omega
          · clear d0
            go_wp2_with fail
            refine (vawake_any S _).mono ?_
            rintro e w8 ⟨rfl, hb8⟩
            have HB8 := Lib.hid hb8
            clear hb8
            go_wp2_with fail
            go_ret
            exact ⟨rfl, H3.out.below.trans (HB8.out.mono H3.out.size)⟩
      · have hfin : BlindAt S w wr pa pb 40 := by
          obtain ⟨T1, T2, L, h1, h2, h3, r⟩ := hat
          exact ⟨T1, T2, L, by omega, h2, by omega, r⟩
        have HFIN := Lib.hid hfin
        clear hfin hat
        have hge : k = np ∨ (k < np ∧ k = 40) := by omega
        clear hgo
        rcases hge with rfl | ⟨hlt, rfl⟩
        all_goals
          go_wp2_with fail
          go_meet
          exact HFIN.out
  case rest =>
    obtain ⟨T1, T2, L, _, _, _, _, hst⟩ := hcut
    obtain ⟨w3, rfl⟩ : ∃ w3 : World, w3 = wc := ⟨_, rfl⟩
    have HB := Lib.hid hst.below
    have hsz := hst.size
    have HSZ := Lib.hid hsz
    clear hst hsz HS
    go_wp2_with fail
    refine (vawake_any S _).mono ?_
    rintro e w8 ⟨rfl, hb8⟩
    have HB8 := Lib.hid hb8
    clear hb8
    go_wp2_with fail
    go_ret
    exact ⟨rfl, HB.out.trans (HB8.out.mono HSZ.out)⟩
end Go.Proofs.Ytdhnpbfoeohhmaa
