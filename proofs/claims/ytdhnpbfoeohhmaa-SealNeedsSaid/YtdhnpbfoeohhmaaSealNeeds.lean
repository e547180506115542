/- SealNeeds answers true, and makes only new memory. Conditions: seal's calls are as their contracts say; the bytes and the row of numbers lie in memory. -/
import Derived.Test.YtdhnpbfoeohhmaaSealAwake
import Derived.Test.YtdhnpbfoeohhmaaSame
import Derived.Test.YtdhnpbfoeohhmaaSeenBy
import Derived.Deep.CutBlock
import Derived.Deep.DeepCutAuto
namespace Go.Proofs.Ytdhnpbfoeohhmaa
open Go.RowKit Go.WideShapes

theorem nd_is {label : Int} {t : List UInt8} : isC [(label, t)] 1 = true := by simp [isC]
theorem nd_open {n label : Int} {t : List UInt8} {L : List (Int × Int)} : openOk n [(label, t)] L label 1 = decide (max n 1 ≤ ((allOf L 1).length : Int)) := by rw [openOk, nd_is]; simp
theorem nd_row {n label : Int} {t : List UInt8} {L : List (Int × Int)} : openRow n [(label, t)] L label 1 = if openOk n [(label, t)] L label 1 then t else [] := by rw [openRow]; simp
theorem nd_other {n label l2 : Int} {t : List UInt8} {L : List (Int × Int)} (h : l2 ≠ label) : openOk n [(label, t)] L l2 1 = false := by
  have h2 : ¬ label = l2 := fun e => h e.symm
  rw [openOk, nd_is]; simp [h2]
theorem and7v (n : Int) : bits .and .i64 n 7 = n % 8 := and_mask n 3 7 (by decide) (by decide)
theorem and15v (n : Int) : bits .and .i64 n 15 = n % 16 := and_mask n 4 15 (by decide) (by decide)

/-- Where the loop stands. -/
def NeedsAt (S : SealApi) (w0 w : World) (p : Addr) (B : Nat) (n label : Int) (t : List UInt8) (i : Nat) : Prop :=
  ∃ L f, L.length ≤ i ∧ OnlyC [(label, t)] L ∧ SeenBy 1 L f ∧ St w0 w (star (MI 3 B f (allOf L 1).length) (star (S.IsV (.pointer (some p)) n [(label, t)] L) nothing))

theorem needs_long (S : SealApi) (n label : Int) (A2 A : Option Addr) (nx cap nt capt : Nat) (hn : 200 < nt) (hn2 : nt ≤ 9223372036854775807) (w : World) :
    Calls Try.prog 3 #[.int .i64 n, .slice A2 nx cap, .slice A nt capt, .int .i64 label] w fun e w' => e = .returned (.bool true) ∧ Below w.heap.size w w' := by
  go_enter Try.func3, Try.ntmps3
  go_wp2_with fail
  refine (vawake_any S _).mono ?_
  rintro e w2 ⟨rfl, hb2⟩
  have HB := Lib.hid hb2
  clear hb2
  go_wp2_with fail
  go_ret
  exact ⟨rfl, HB.out⟩

set_option maxRecDepth 100000 in
set_option maxHeartbeats 16000000 in
theorem needs_some (S : SealApi) (need label : Int) (A2 A : Option Addr) (cap capt : Nat) (xs : List Int) (t : List UInt8) (w : World) (hlx : xs.length ≤ 9223372036854775807) (hx : IntsIn w A2 xs) (hlab : I64 label)
    (hl : t.length ≤ 200) (hnc : t.length ≤ capt) (hA : A = none → capt = 0) (hlie : Lie8 w (fun _ => False) A t) :
    Calls Try.prog 3 #[.int .i64 need, .slice A2 xs.length cap, .slice A t.length capt, .int .i64 label] w fun e w' => e = .returned (.bool true) ∧ Below w.heap.size w w' := by
  have hm := and7v need
  obtain ⟨n, hn⟩ : ∃ m : Int, need % 8 = m := ⟨_, rfl⟩
  have hn0 : 0 ≤ n ∧ n < 8 := by omega
  rw [hn] at hm
  obtain ⟨mx, hmx⟩ : ∃ m : Int, max n 1 = m := ⟨_, rfl⟩
  have hmm : (if n < 1 then (1 : Int) else n) = mx := by rw [← hmx]; split <;> omega
  obtain ⟨nt, hnt⟩ : ∃ k, t.length = k := ⟨_, rfl⟩
  obtain ⟨nx, hnx⟩ : ∃ k, xs.length = k := ⟨_, rfl⟩
  rw [hnt] at hl hnc ⊢
  rw [hnx] at hlx ⊢
  have k15 := fun x : Int => and15v x
  have hrm := @run_makeMap Try.prog
  have HN0 := Lib.hid hn0; have HMX := Lib.hid hmx; have HNT := Lib.hid hnt; have HNX := Lib.hid hnx; have HX := Lib.hid hx; have HLB := Lib.hid hlab; have HA := Lib.hid hA; have HL := Lib.hid hlie
  clear hn hn0 hmx hnt hnx hx hlab hA hlie
  go_enter Try.func3, Try.ntmps3
  go_wp2_with fail
  refine (st_vault S (St.start w w (Below.refl _ _)) n ⟨by have := HN0.out; omega, by have := HN0.out; omega⟩).mono ?_
  rintro e w1 ⟨p, rfl, h1⟩
  have K := Lib.hid (h1.vseal label A nt capt t (by simp) HLB.out HNT.out (by have := S.lim_ge; omega) hnc HA.out (HL.out.below h1.below))
  clear h1
  go_wp2_with fail
  refine K.out.mono ?_
  clear K
  rintro e w2 ⟨rfl, h2⟩
  change St w w2 (star (S.IsV (.pointer (some p)) n [(label, t)] []) nothing) at h2
  have hstart : NeedsAt S w (w2.alloc (.map #[] 0)) p w2.heap.size n label t 0 :=
    ⟨[], fun _ => none, by simp, onlyC_nil _, seenBy_nil 1, h2.add ((Below.refl _ _).alloc (Nat.le_refl _) _) (MI.made w2 3) (fun k hk => by rw [hk]; exact Nat.le_refl _)⟩
  have HS := Lib.hid hstart
  clear hstart h2
  go_upto_block 0 with fail
  generalize w2.alloc (.map #[] 0) = w3 at HS ⊢
  generalize w2.heap.size = B at HS ⊢
  go_cut [12] (fun _ wx => NeedsAt S w wx p B n label t 30)
  case first =>
    go_wp2_with fail
    go_loopw [12] (fun i wr => ∃ k : Nat, k ≤ nx ∧ k ≤ 30 ∧ i = .int .i64 k ∧ NeedsAt S w wr p B n label t k) (fun i _ => 30 - (intOf i).toNat)
    case atStart => exact ⟨0, by omega, by omega, rfl, HS.out⟩
    case round =>
      obtain ⟨k, hkx, hk30, rfl, hat⟩ := hrel
      by_cases hgo : k < nx ∧ k < 30
      · obtain ⟨hg1, hg2⟩ := hgo
        obtain ⟨L, f, hLk, hon, hf, hst⟩ := hat
        have HON := Lib.hid hon; have HF := Lib.hid hf
        obtain ⟨b, off, rfl, hb, hc⟩ := HX.out.at (i := k) (by rw [HNX.out]; exact hg1)
        generalize xs[k]'(by rw [HNX.out]; exact hg1) = x at hc
        have hkx' := k15 x
        obtain ⟨y, hy⟩ : ∃ m : Int, x % 16 = m := ⟨_, rfl⟩
        have hy0 : 0 ≤ y ∧ y < 16 := by omega
        rw [hy] at hkx'
        have HC := Lib.hid hc; have HY0 := Lib.hid hy0
        have hcnt := allOf_le L 1
        obtain ⟨cnt, hcn⟩ : ∃ c, (allOf L 1).length = c := ⟨_, rfl⟩
        have K := hst.swap.vopen label 1 (by simp) (by omega) hon HLB.out (by decide)
        rw [nd_row, nd_open, hcn, HMX.out] at K
        obtain ⟨q, hq⟩ : ∃ q, decide (mx ≤ (cnt : Int)) = q := ⟨_, rfl⟩
        rw [hq] at K
        rw [hcn] at hcnt
        have HK := Lib.hid K; have HCN := Lib.hid hcn
        clear hst hon hf hy hy0 hc K HS k15 hrm
        go_wp2_with fail
        refine HK.out.mono ?_
        clear HK
        rintro e w4 ⟨x4, rfl, h4⟩
        have H4 := Lib.hid h4.snd
        have hlie4 : Hid (∃ A4 cap4, x4 = .slice A4 (if q then nt else 0) cap4 ∧ (A4 = none → (if q then nt else 0) = 0) ∧ Lie8 w4 (fun _ => False) A4 (if q then t else [])) := Lib.hid <| by
          obtain ⟨A4, cap4, e, hc4, hn4, hl4⟩ := h4.lieR
          have e5 : (if q then t else []).length = if q then nt else 0 := by cases q <;> simp [HNT.out]
          rw [e5] at e hc4
          exact ⟨A4, cap4, e, fun h => by have := hn4 h; omega, hl4⟩
        obtain ⟨A4, cap4, rfl, hn4, hl4⟩ := hlie4.out
        obtain ⟨m4, hm4⟩ : ∃ m, (if q then nt else 0) = m := ⟨_, rfl⟩
        rw [hm4] at hn4 ⊢
        have HM4 := Lib.hid hm4
        have HN4 := Lib.hid hn4; have HL4 := Lib.hid hl4
        clear h4 hlie4 hn4 hl4 hm4
        obtain ⟨D, hown, hD⟩ := H4.out.swap.mi
        have hml := hown.len Try.underlying28 3
        rw [hD.2.1] at hml
        clear hown hD
        go_upto_region 13 with fail
        go_cut [73] (fun s73 wx => s73 = .bool false ∧ St w wx (star (S.IsV (.pointer (some p)) n [(label, t)] L) (star (MI 3 B f cnt) nothing)))
        case first =>
          have K := H4.out.vshares 1 (by simp) (by omega) HON.out (by decide)
          have HK := Lib.hid K
          clear K
          rcases q with _ | _
          case' false => go_wp2_with fail
          case' true =>
            obtain rfl : nt = m4 := HM4.out
            have K2 := bsame_any (cap := cap4) (capb := capt) (l := t) HL4.out (HL.out.below H4.out.below) HNT.out HNT.out HN4.out (fun h => by have := HA.out h; omega)
            rw [decide_eq_true rfl] at K2
            have HK2 := Lib.hid K2
            clear K2
            go_wp2_with fail
            refine HK2.out.mono ?_
            rintro e w5 ⟨rfl, rfl⟩
            go_wp2_with fail
          all_goals
            refine HK.out.mono ?_
            rintro e w5 ⟨x5, rfl, h5⟩
            have hln := h5.rv
            obtain ⟨A5, cap5, rfl, _, _, _⟩ := hln
            rw [HCN.out]
            have H5 := Lib.hid h5.snd
            clear hml h5 HK
            obtain ⟨D, hown, hD⟩ := H5.out.swap.mi
            have hml := hown.len Try.underlying28 3
            rw [hD.2.1] at hml
            clear hown hD
            go_wp2_with fail
            go_meet
            exact ⟨rfl, H5.out⟩
        case rest =>
          obtain ⟨rfl, hst5⟩ := hcut
          obtain ⟨w5, rfl⟩ : ∃ w5 : World, w5 = wc := ⟨_, rfl⟩
          have hcw := (hst5.below.cell (p := ⟨b, off + k, none⟩) hb).trans HC.out
          have K := hst5.vshare y 1 (by simp) (by omega) HON.out ⟨by have := HY0.out; omega, by have := HY0.out; omega⟩ (by decide)
          rw [nd_is, shareAdd, if_pos nd_is] at K
          have HK := Lib.hid K
          clear hml K hst5 hq H4 HN4 HL4 HM4
          go_wp2_with fail
          refine HK.out.mono ?_
          clear HK
          rintro e w6 ⟨rfl, h6⟩
          have hcw6 := (h6.below.cell (p := ⟨b, off + k, none⟩) hb).trans HC.out
          obtain ⟨hp1, hp2⟩ := seenBy_put (x := y) HF.out
          rw [HCN.out] at hp2
          have hon2 : OnlyC [(label, t)] (signAdd L (y, 1)) := by
            have := HON.out.share y 1
            rw [shareAdd, if_pos nd_is] at this
            exact this
          have hL2 : (signAdd L (y, 1)).length ≤ k + 1 := by have := signAdd_length L (y, 1); omega
          have HP1 := Lib.hid hp1; have HP2 := Lib.hid hp2; have H6 := Lib.hid h6.swap; have HON2 := Lib.hid hon2
          clear hp1 hp2 h6 hon2 hcw
          obtain ⟨D, hown, hD⟩ := H6.out.mi
          have hkey := Maps.keyOf_int_mk Try.underlying3 (WalkArith.wf_i64 (n := y) (by have := HY0.out; omega))
          have hwf := plainElem_int (H := Unit) Try.underlying3 (WalkArith.wf_i64 (n := (1 : Int)) (by omega))
          have hsm : cnt + 1 ≤ maxLen := by unfold maxLen; omega
          go_wp2_with (at_mapUpdate; refine wpList_mapUpdate_own _ rfl (.tmp 83) (.tmp 88) (.const (.int .i64 1)) 28 rfl 3 3 (Maps.int_keyed Try.underlying3) Try.underlying28 _ B _ D rfl hown hsm _ _ _ rfl rfl hkey _ [] hwf ?_; intro w7 hown7 hg7; have h7 := H6.out.mi_put (k := .int .i64 y) hD True.intro hown7 hg7; rw [HP2.out] at h7; have H7 := Lib.hid h7; clear hown hown7 hg7 h7 hD)
          go_roundw
          case rel => exact ⟨k + 1, by omega, by omega, by go_num, _, _, hL2, HON2.out, HP1.out, H7.out⟩
          case measure => simp [intOf]; omega
      · have hfin : NeedsAt S w wr p B n label t 30 := by
          obtain ⟨L, f, hLk, r⟩ := hat
          exact ⟨L, f, by omega, r⟩
        have HFIN := Lib.hid hfin
        clear hfin hat
        have hge : k = nx ∨ (k < nx ∧ k = 30) := by omega
        clear hgo
        rcases hge with rfl | ⟨hlt, rfl⟩
        all_goals
          go_wp2_with fail
          go_meet
          exact HFIN.out
  case rest =>
    obtain ⟨L, f, hL30, hon, hf, hst⟩ := hcut
    obtain ⟨w4, rfl⟩ : ∃ w4 : World, w4 = wc := ⟨_, rfl⟩
    have K := Lib.hid (hst.swap.vopen (wrap64 (label + 1)) 1 (by simp) (by omega) hon (next_ne label).2 (by decide))
    rw [nd_other (next_ne label).1] at K
    clear HS hst hon hf hrm k15
    go_wp2_with fail
    refine K.out.mono ?_
    clear K
    rintro e w5 ⟨x5, rfl, h5⟩
    have HB := Lib.hid h5.below
    have hsz := h5.size
    have HSZ := Lib.hid hsz
    clear h5 hsz
    go_wp2_with fail
    refine (vawake_any S _).mono ?_
    rintro e w8 ⟨rfl, hb8⟩
    have HB8 := Lib.hid hb8
    clear hb8
    go_wp2_with fail
    go_ret
    exact ⟨rfl, HB.out.trans (HB8.out.mono HSZ.out)⟩
end Go.Proofs.Ytdhnpbfoeohhmaa
