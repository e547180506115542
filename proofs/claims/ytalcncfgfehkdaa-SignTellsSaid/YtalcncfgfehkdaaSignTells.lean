/- SignTells answers true, and makes only new memory. Conditions: sign's calls are as their contracts say; the rows of numbers lie in memory. -/
import Derived.Test.YtalcncfgfehkdaaSignAwake
import Derived.Test.YtalcncfgfehkdaaPairsPut
import Derived.Test.YtalcncfgfehkdaaB8
import Derived.Deep.CutBlock
import Derived.Deep.DeepCutAuto
import Derived.Deep.RegionHeld3
namespace Go.Proofs.Ytalcncfgfehkdaa
open Go.RowKit Go.WideShapes

theorem and7 (n : Int) : bits .and .i64 n 7 = n % 8 := and_mask n 3 7 (by decide) (by decide)
theorem and3 (n : Int) : bits .and .i64 n 3 = n % 4 := and_mask n 2 3 (by decide) (by decide)
theorem and15 (n : Int) : bits .and .i64 n 15 = n % 16 := and_mask n 4 15 (by decide) (by decide)

set_option maxRecDepth 100000 in
set_option maxHeartbeats 16000000 in
theorem stells_some (T : SignApi) (A B : Option Addr) (cap capb : Nat) (xs ys : List Int) (few : Bool) (w : World) (hlx : xs.length ≤ 9223372036854775807) (hly : ys.length ≤ 9223372036854775807)
    (hx : IntsIn w A xs) (hy : IntsIn w B ys) (wfx : ∀ x ∈ xs, I64 x) (wfy : ∀ x ∈ ys, I64 x) :
    Calls Try.prog 5 #[.slice A xs.length cap, .slice B ys.length capb, .bool few] w fun e w' => e = .returned (.bool true) ∧ Below w.heap.size w w' := by
  obtain ⟨nx, hnx⟩ : ∃ k, xs.length = k := ⟨_, rfl⟩
  obtain ⟨ny, hny⟩ : ∃ k, ys.length = k := ⟨_, rfl⟩
  rw [hnx] at hlx ⊢
  rw [hny] at hly ⊢
  have HNX := Lib.hid hnx; have HNY := Lib.hid hny; have HX := Lib.hid hx; have HY := Lib.hid hy; have WX := Lib.hid wfx; have WY := Lib.hid wfy
  have k7 := and7; have k3 := and3
  clear hnx hny hx hy wfx wfy
  go_enter Try.func5, Try.ntmps5
  go_wp2_with fail
  refine (st_book T (St.start w w (Below.refl _ _))).mono ?_
  rintro e w1 ⟨pa, rfl, h1⟩
  have h2 : St w (w1.alloc (.cells #[.slice none 0 0] 35)) (star (IsPairs (.pointer (some ⟨w1.heap.size, 0, none⟩)) []) (star (T.IsB (.pointer (some pa)) []) nothing)) :=
    h1.add ((Below.refl _ _).alloc (Nat.le_refl _) _) (IsPairs.made w1) (fun k hk => by rw [hk]; exact Nat.le_refl _)
  have H2 := Lib.hid h2.swap
  clear h1 h2
  go_upto_block 0 with fail
  generalize w1.alloc (.cells #[.slice none 0 0] 35) = w2 at H2 ⊢
  generalize w1.heap.size = br at H2 ⊢
  go_wp2_with fail
  go_loopw [9] (fun i wr => ∃ (k : Nat) (L : List (Int × Int)), k ≤ nx ∧ k ≤ ny ∧ k ≤ 40 ∧ i = .int .i64 k ∧ L.length ≤ k ∧ St w wr (star (T.IsB (.pointer (some pa)) L) (star (IsPairs (.pointer (some ⟨br, 0, none⟩)) L) nothing))) (fun i _ => 40 - (intOf i).toNat)
  case atStart => exact ⟨0, [], by omega, by omega, by omega, rfl, by simp, H2.out⟩
  case round =>
    obtain ⟨k, L, hkx, hky, hk40, rfl, hLk, hst⟩ := hrel
    have HST := Lib.hid hst
    clear hst
    by_cases hgo : k < nx ∧ k < ny ∧ k < 40
    · obtain ⟨hg1, hg2, hg3⟩ := hgo
      obtain ⟨b, off, rfl, hb, hc⟩ := HX.out.at (i := k) (by rw [HNX.out]; exact hg1)
      obtain ⟨b2, off2, rfl, hb2, hc2⟩ := HY.out.at (i := k) (by rw [HNY.out]; exact hg2)
      have wx := WX.out _ (List.getElem_mem (show k < xs.length by rw [HNX.out]; exact hg1))
      have wy := WY.out _ (List.getElem_mem (show k < ys.length by rw [HNY.out]; exact hg2))
      generalize xs[k]'(by rw [HNX.out]; exact hg1) = x at hc wx
      generalize ys[k]'(by rw [HNY.out]; exact hg2) = y at hc2 wy
      have hcw := (HST.out.below.cell (p := ⟨b, off + k, none⟩) hb).trans hc
      have hcw2 := (HST.out.below.cell (p := ⟨b2, off2 + k, none⟩) hb2).trans hc2
      have WXX := Lib.hid wx; have WYY := Lib.hid wy
      clear hc hc2 wx wy
      go_wp2_with fail
      go_quiet (fail)
      have h3 := HST.out.more (below_drewN (Below.refl _ _) nq)
      obtain ⟨w3, hw3⟩ : ∃ w3, wr.drewN nq = w3 := ⟨_, rfl⟩
      rw [hw3] at h3 ⊢
      have H3 := Lib.hid h3
      clear h3 hw3 HST hcw hcw2
      have hab : ∃ x' y' : Int, I64 x' ∧ I64 y' ∧ x' = (if few then x % 8 else x) ∧ y' = (if few then y % 4 else y) := by
        rcases few with _ | _
        · exact ⟨x, y, WXX.out, WYY.out, rfl, rfl⟩
        · exact ⟨x % 8, y % 4, ⟨by omega, by omega⟩, ⟨by omega, by omega⟩, rfl, rfl⟩
      obtain ⟨a, c, wa, wc', ha, hc⟩ := hab
      have HA := Lib.hid ha; have HC := Lib.hid hc; have WA := Lib.hid wa; have WC := Lib.hid wc'
      clear ha hc wa wc'
      go_upto_if 41 with fail
      go_cut [10, 11] (fun s10 s11 wx => s10 = .int .i64 a ∧ s11 = .int .i64 c ∧ wx = w3)
      case first =>
        rcases few with _ | _
        · obtain rfl : a = x := HA.out
          obtain rfl : c = y := HC.out
          go_wp2_with fail
          go_meet
          exact ⟨rfl, rfl, rfl⟩
        · obtain rfl : a = x % 8 := HA.out
          obtain rfl : c = y % 4 := HC.out
          go_wp2_with fail
          go_meet
          exact ⟨rfl, rfl, rfl⟩
      case rest =>
        obtain ⟨rfl, rfl, rfl⟩ := hcut
        obtain ⟨w3, rfl⟩ : ∃ w3 : World, w3 = wc := ⟨_, rfl⟩
        clear HA HC WXX WYY
        go_upto_region 11 with fail
        go_cut [54] (fun s54 wx => s54 = .bool false ∧ St w wx (star (T.IsB (.pointer (some pa)) L) (star (IsPairs (.pointer (some ⟨br, 0, none⟩)) L) nothing)))
        case first =>
          go_wp2_with fail
          refine (H3.out.has a c (by omega) WA.out WC.out).mono ?_
          rintro e w4 ⟨rfl, h4, _⟩
          have H4 := Lib.hid h4.swap
          clear h4 H3
          obtain ⟨p1, hp1⟩ : ∃ p, decide ((a, c) ∈ L) = p := ⟨_, rfl⟩
          have K := H4.out.rhas a c (by omega)
          rw [hp1] at K ⊢
          have HK := Lib.hid K
          clear K hp1
          go_wp2_with fail
          refine HK.out.mono ?_
          rintro e w5 ⟨rfl, rfl⟩
          clear HK
          rcases p1 with _ | _
          all_goals
            go_wp2_with fail
            go_meet
            exact ⟨rfl, H4.out.swap⟩
        case rest =>
          obtain ⟨rfl, hst4⟩ := hcut
          obtain ⟨w4, rfl⟩ : ∃ w4 : World, w4 = wc := ⟨_, rfl⟩
          clear H3
          have K := hst4.sign a c (by omega) WA.out WC.out
          have hL2 : (signAdd L (a, c)).length ≤ k + 1 := by have := signAdd_length L (a, c); omega
          have HK := Lib.hid K
          clear K hst4
          go_wp2_with fail
          refine HK.out.mono ?_
          rintro e w5 ⟨rfl, h5⟩
          have K := h5.swap.rput a c (by omega)
          have HK2 := Lib.hid K
          clear K HK h5
          go_wp2_with fail
          refine HK2.out.mono ?_
          rintro e w6 ⟨rfl, h6⟩
          have hin : (a, c) ∈ signAdd L (a, c) := mem_signAdd.2 (Or.inl rfl)
          obtain ⟨L2, hL2e⟩ : ∃ L2, signAdd L (a, c) = L2 := ⟨_, rfl⟩
          rw [hL2e] at hL2 hin h6
          have H6 := Lib.hid h6.swap
          clear h6 HK2 hL2e hLk
          go_upto_region 15 with fail
          go_cut [98] (fun s98 wx => s98 = .bool false ∧ St w wx (star (T.IsB (.pointer (some pa)) L2) (star (IsPairs (.pointer (some ⟨br, 0, none⟩)) L2) nothing)))
          case first =>
            have K := H6.out.has a c (by omega) WA.out WC.out
            rw [decide_eq_true hin] at K
            have HK := Lib.hid K
            clear K hin
            go_wp2_with fail
            refine HK.out.mono ?_
            rintro e w7 ⟨rfl, h7, _⟩
            have HK2 := Lib.hid (h7.has c a (by omega) WC.out WA.out)
            clear HK h7 H6
            obtain ⟨p1, hp1⟩ : ∃ p, decide ((c, a) ∈ L2) = p := ⟨_, rfl⟩
            rw [hp1] at HK2
            go_wp2_with fail
            refine HK2.out.mono ?_
            rintro e w8 ⟨rfl, h8, _⟩
            have HK3 := Lib.hid (h8.swap.rhas c a (by omega))
            rw [hp1] at HK3
            have H8 := Lib.hid h8
            clear hp1 h8 HK2
            go_wp2_with fail
            refine HK3.out.mono ?_
            rintro e w9 ⟨rfl, rfl⟩
            clear HK3
            have HA1 := Lib.hid (H8.out.all c (by omega) WC.out)
            have hal := allOf_le L2 c
            have hal' := allOf_le L2 a
            have hal2 : (allOf L2 c).length ≤ 1000000 := by omega
            have hal3 : (allOf L2 a).length ≤ 1000000 := by omega
            have HAL := Lib.hid hal2; have HAL' := Lib.hid hal3
            clear hal hal' hal2 hal3
            rcases p1 with _ | _
            all_goals
              go_wp2_with fail
              refine HA1.out.mono ?_
              rintro e w10 ⟨x1, rfl, h10⟩
              obtain ⟨A1, cap1, rfl, hin1⟩ := h10.ints
              have HI1 := Lib.hid hin1
              have HR1 := Lib.hid (h10.snd.swap.rall c (by omega))
              have HS10 := Lib.hid h10.snd
              clear h10 hin1 HA1
              go_wp2_with fail
              refine HR1.out.mono ?_
              rintro e w11 ⟨y1, rfl, hy1, hb1⟩
              obtain ⟨B1, capb1, rfl, _, hiy1⟩ := ints_own hy1
              have HK := Lib.hid (same_any (cap := cap1) (capb := capb1) (HI1.out.below hb1) hiy1 HAL.out HAL.out)
              rw [decide_eq_true rfl] at HK
              have HS11 := Lib.hid (HS10.out.more hb1)
              clear hy1 hb1 hiy1 HS10 HR1 HI1
              go_wp2_with fail
              refine HK.out.mono ?_
              rintro e w12 ⟨rfl, q1, rfl⟩
              have hs12 := HS11.out.more (below_drewN (Below.refl _ _) q1)
              have HS12 := Lib.hid hs12
              generalize w11.drewN q1 = w12 at HS12 ⊢
              have HA2 := Lib.hid (HS12.out.all a (by omega) WA.out)
              clear HK HS11 hs12
              go_wp2_with fail
              refine HA2.out.mono ?_
              rintro e w13 ⟨x2, rfl, h13⟩
              obtain ⟨A2, cap2, rfl, hin2⟩ := h13.ints
              have HI2 := Lib.hid hin2
              have HR2 := Lib.hid (h13.snd.swap.rall a (by omega))
              have HS13 := Lib.hid h13.snd
              clear h13 hin2 HA2 HS12
              go_wp2_with fail
              refine HR2.out.mono ?_
              rintro e w14 ⟨y2, rfl, hy2, hb2⟩
              obtain ⟨B2, capb2, rfl, _, hiy2⟩ := ints_own hy2
              have HK := Lib.hid (same_any (cap := cap2) (capb := capb2) (HI2.out.below hb2) hiy2 HAL'.out HAL'.out)
              rw [decide_eq_true rfl] at HK
              have HS14 := Lib.hid (HS13.out.more hb2)
              clear hy2 hb2 hiy2 HS13 HR2 HI2
              go_wp2_with fail
              refine HK.out.mono ?_
              rintro e w15 ⟨rfl, q2, rfl⟩
              have HS15 := Lib.hid (HS14.out.more (below_drewN (Below.refl _ _) q2))
              clear HK HS14
              go_wp2_with fail
              go_meet
              exact ⟨rfl, HS15.out⟩
          case rest =>
            obtain ⟨rfl, hst7⟩ := hcut
            have HS7 := Lib.hid hst7
            clear hst7 H6
            go_wp2_with fail
            go_roundw
            case rel => exact ⟨k + 1, L2, by omega, by omega, by omega, by go_num, hL2, HS7.out⟩
            case measure => simp [intOf]; omega
    · have hfin : Hid (Below w.heap.size w wr) := Lib.hid HST.out.below
      have hsz := HST.out.size
      have HSZ := Lib.hid hsz
      clear HST hsz hLk
      have hcase : k = nx ∨ (k < nx ∧ k = ny) ∨ (k < nx ∧ k < ny ∧ k = 40) := by omega
      clear hgo
      rcases hcase with rfl | ⟨h1, rfl⟩ | ⟨h1, h2, rfl⟩
      all_goals
        go_wp2_with fail
        refine (sawake_any T _).mono ?_
        rintro e w8 ⟨rfl, hb8⟩
        have HB8 := Lib.hid hb8
        clear hb8
        go_wp2_with fail
        go_ret
        exact ⟨rfl, hfin.out.trans (HB8.out.mono HSZ.out)⟩
end Go.Proofs.Ytalcncfgfehkdaa
