/- SignApart answers true, and makes only new memory. Conditions: sign's calls are as their contracts say; the row of numbers lies in memory. -/
import Derived.Test.YtalcncfgfehkdaaSignAwake
import Derived.Test.YtalcncfgfehkdaaMapI
import Derived.Deep.CutBlock
import Derived.Deep.DeepCutAuto
namespace Go.Proofs.Ytalcncfgfehkdaa
open Go.RowKit Go.WideShapes

/-- The law's own map: who was seen. -/
def ApartIs (what : Int) (L : List (Int × Int)) (f : Lit → Option Int) : Prop := (∀ p ∈ L, p.2 = what) ∧ ∀ x : Int, f (.int .i64 x) = if x ∈ allOf L what then some 1 else none
theorem apart_put {what x : Int} {L : List (Int × Int)} {f : Lit → Option Int} (h : ApartIs what L f) : ApartIs what (signAdd L (x, what)) (upM f (.int .i64 x) 1) ∧
    (if (f (.int .i64 x)).isSome then (allOf L what).length else (allOf L what).length + 1) = (allOf (signAdd L (x, what)) what).length := by
  refine ⟨⟨fun p hp => ?_, fun y => ?_⟩, ?_⟩
  · rcases mem_signAdd.1 hp with rfl | hp
    · rfl
    · exact h.1 p hp
  · have hmem : y ∈ allOf (signAdd L (x, what)) what ↔ y = x ∨ y ∈ allOf L what := by
      rw [mem_allOf, mem_signAdd, mem_allOf]
      simp
    by_cases e : y = x
    · subst e
      rw [upM_same f (show WideAt.IsKeyLit (.int .i64 y) from True.intro), if_pos (hmem.2 (Or.inl rfl))]
    · have hne : (Lit.int .i64 y) ≠ .int .i64 x := by
        intro h2
        injection h2 with _ h2
        exact e h2
      rw [upM_other f _ hne, h.2 y]
      by_cases hm : y ∈ allOf L what
      · rw [if_pos hm, if_pos (hmem.2 (Or.inr hm))]
      · rw [if_neg hm, if_neg (fun h => (hmem.1 h).elim e hm)]
  · rw [h.2 x]
    by_cases hm : x ∈ allOf L what
    · rw [if_pos hm, signAdd_old (mem_allOf.1 hm)]
      rfl
    · rw [if_neg hm, signAdd_new (fun hp => hm (mem_allOf.2 hp)), allOf_snoc, if_pos rfl, rising_new hm]
      rfl
theorem apart_none {what o : Int} {L : List (Int × Int)} (h : ∀ p ∈ L, p.2 = what) (ho : o ≠ what) : allOf L o = [] :=
  allOf_is List.Pairwise.nil fun x => ⟨fun hx => (by cases hx), fun hx => absurd (h _ hx) ho⟩
theorem wrap_next (n : Int) : wrap64 (n + 1) ≠ n ∧ I64 (wrap64 (n + 1)) := by
  unfold wrap64 I64 at *
  omega

/-- Where the first loop stands. -/
def ApartAt (T : SignApi) (w0 w : World) (p : Addr) (B : Nat) (what : Int) (i : Nat) : Prop :=
  ∃ L f, L.length ≤ i ∧ ApartIs what L f ∧ (∀ y ∈ allOf L what, (Lit.int .i64 y).wf = true) ∧ St w0 w (star (MI 3 B f (allOf L what).length) (star (T.IsB (.pointer (some p)) L) nothing))

set_option maxRecDepth 100000 in
set_option maxHeartbeats 16000000 in
theorem sapart_some (T : SignApi) (A : Option Addr) (cap : Nat) (xs : List Int) (what other : Int) (w : World) (hlx : xs.length ≤ 9223372036854775807)
    (hx : IntsIn w A xs) (wfx : ∀ x ∈ xs, I64 x) (hwhat : I64 what) (hother : I64 other) :
    Calls Try.prog 3 #[.slice A xs.length cap, .int .i64 what, .int .i64 other] w fun e w' => e = .returned (.bool true) ∧ Below w.heap.size w w' := by
  obtain ⟨nx, hnx⟩ : ∃ k, xs.length = k := ⟨_, rfl⟩
  rw [hnx] at hlx ⊢
  have HNX := Lib.hid hnx; have HX := Lib.hid hx; have WX := Lib.hid wfx; have WW := Lib.hid hwhat; have WO := Lib.hid hother
  have hmm := @run_makeMap Try.prog
  clear hnx hx wfx hwhat hother
  obtain ⟨o, ho⟩ : ∃ o, o = (if other = what then wrap64 (other + 1) else other) := ⟨_, rfl⟩
  have wo : I64 o ∧ o ≠ what := by
    by_cases e : other = what
    · rw [if_pos e] at ho
      subst ho; subst e
      exact ⟨(wrap_next other).2, (wrap_next other).1⟩
    · rw [if_neg e] at ho
      subst ho
      exact ⟨WO.out, e⟩
  have HO := Lib.hid ho; have WO2 := Lib.hid wo.1; have HNE := Lib.hid wo.2
  clear ho wo
  go_enter Try.func3, Try.ntmps3
  go_wp2_with fail
  refine (st_book T (St.start w w (Below.refl _ _))).mono ?_
  rintro e w1 ⟨p, rfl, h1⟩
  have H1 := Lib.hid h1
  clear h1
  go_upto_if 17 with fail
  go_cut [2] (fun s2 wx => s2 = .int .i64 o ∧ wx = w1)
  case first =>
    by_cases e : other = what
    · obtain rfl : o = wrap64 (other + 1) := by rw [HO.out, if_pos e]
      have e2 : (other == what) = true := by simpa using e
      clear e
      go_wp2_with fail
      go_meet
      exact ⟨rfl, rfl⟩
    · obtain rfl : o = other := by rw [HO.out, if_neg e]
      have e2 : (o == what) = false := by simpa using e
      clear e
      go_wp2_with fail
      go_meet
      exact ⟨rfl, rfl⟩
  case rest =>
    obtain ⟨rfl, rfl⟩ := hcut
    obtain ⟨w1, rfl⟩ : ∃ w1 : World, w1 = wc := ⟨_, rfl⟩
    have hstart : ApartAt T w (w1.alloc (.map #[] 0)) p w1.heap.size what 0 :=
      ⟨[], fun _ => none, by simp, ⟨by simp, fun x => by simp [allOf]⟩, by simp [allOf], H1.out.add ((Below.refl _ _).alloc (Nat.le_refl _) _) (MI.made w1 3) (fun k hk => by rw [hk]; exact Nat.le_refl _)⟩
    have HS := Lib.hid hstart
    clear hstart H1 HO
    go_upto_block 0 with fail
    generalize w1.alloc (.map #[] 0) = w2 at HS ⊢
    generalize w1.heap.size = B at HS ⊢
    go_cut [9] (fun _ wx => ApartAt T w wx p B what 40)
    case first =>
      go_wp2_with fail
      go_loopw [9] (fun i wr => ∃ k : Nat, k ≤ nx ∧ k ≤ 40 ∧ i = .int .i64 k ∧ ApartAt T w wr p B what k) (fun i _ => 40 - (intOf i).toNat)
      case atStart => exact ⟨0, by omega, by omega, rfl, HS.out⟩
      case round =>
        obtain ⟨k, hkx, hk40, rfl, hat⟩ := hrel
        by_cases hgo : k < nx ∧ k < 40
        · obtain ⟨hg1, hg2⟩ := hgo
          obtain ⟨L, f, hLk, hf, hwl, hst⟩ := hat
          obtain ⟨b, off, rfl, hb, hc⟩ := HX.out.at (i := k) (by rw [HNX.out]; exact hg1)
          have wx := WX.out _ (List.getElem_mem (show k < xs.length by rw [HNX.out]; exact hg1))
          generalize xs[k]'(by rw [HNX.out]; exact hg1) = x at hc wx
          have hcw := (hst.below.cell (p := ⟨b, off + k, none⟩) hb).trans hc
          have WXX := Lib.hid wx; have HF := Lib.hid hf; have HC := Lib.hid hc
          have HK := Lib.hid (hst.swap.sign x what (by omega) WXX.out WW.out)
          clear hst hc wx hf HS
          go_wp2_with fail
          refine HK.out.mono ?_
          rintro e w3 ⟨rfl, h3⟩
          have hcw3 := (h3.below.cell (p := ⟨b, off + k, none⟩) hb).trans HC.out
          obtain ⟨hp1, hp2⟩ := apart_put (x := x) HF.out
          have hL2 : (signAdd L (x, what)).length ≤ k + 1 := by have := signAdd_length L (x, what); omega
          have hin : (x, what) ∈ signAdd L (x, what) := mem_signAdd.2 (Or.inl rfl)
          have hwl2 : ∀ y ∈ allOf (signAdd L (x, what)) what, (Lit.int .i64 y).wf = true := fun y hy => by
            rcases mem_signAdd.1 (mem_allOf.1 hy) with e | e
            · injection e with e _
              subst e
              exact WalkArith.wf_i64 (by have := WXX.out; unfold I64 at this; omega)
            · exact hwl y (mem_allOf.2 e)
          have HWL2 := Lib.hid hwl2
          clear hwl2 hwl
          have HP1 := Lib.hid hp1; have HP2 := Lib.hid hp2; have H3 := Lib.hid h3.swap; have HIN := Lib.hid hin
          have hcnt := allOf_le L what
          have hcnt2 : (allOf L what).length ≤ 1000000 := by omega
          clear hp1 hp2 h3 hin hcnt HK hcw
          obtain ⟨D, hown, hD⟩ := H3.out.mi
          have hkey := Maps.keyOf_int_mk Try.underlying3 (WalkArith.wf_i64 (n := x) (by have := WXX.out; unfold I64 at this; omega))
          have hwf := plainElem_int (H := Unit) Try.underlying3 (WalkArith.wf_i64 (n := (1 : Int)) (by omega))
          go_wp2_with (at_mapUpdate; refine wpList_mapUpdate_own _ rfl (.tmp 38) (.tmp 42) (.const (.int .i64 1)) 25 rfl 3 3 (Maps.int_keyed Try.underlying3) Try.underlying25 _ B _ D rfl hown (by unfold maxLen; omega) _ _ _ rfl rfl hkey _ [] hwf ?_; intro w4 hown4 hg4; have h4 := H3.out.mi_put (k := .int .i64 x) hD True.intro hown4 hg4; rw [HP2.out] at h4; have hcw4 := (h4.below.cell (p := ⟨b, off + k, none⟩) hb).trans HC.out; have H4 := Lib.hid h4; clear hown hown4 hg4 h4 hD)
          have K := H4.out.swap.has x o (by omega) WXX.out WO2.out
          have hno : ¬ (x, o) ∈ signAdd L (x, what) := fun h => HNE.out (HP1.out.1 _ h)
          rw [decide_eq_false hno] at K
          have HK := Lib.hid K
          clear K hno hcw3
          go_wp2_with fail
          refine HK.out.mono ?_
          rintro e w5 ⟨rfl, h5, _⟩
          have hcw5 := (h5.below.cell (p := ⟨b, off + k, none⟩) hb).trans HC.out
          have K := h5.has x what (by omega) WXX.out WW.out
          rw [decide_eq_true HIN.out] at K
          have HK2 := Lib.hid K
          clear K HK h5 hcw4
          go_wp2_with fail
          refine HK2.out.mono ?_
          rintro e w6 ⟨rfl, h6, _⟩
          have H6 := Lib.hid h6.swap
          clear h6 HK2
          go_wp2_with fail
          go_roundw
          case rel => exact ⟨k + 1, by omega, by omega, by go_num, _, _, hL2, HP1.out, HWL2.out, H6.out⟩
          case measure => simp [intOf]; omega
        · have hfin : ApartAt T w wr p B what 40 := by
            obtain ⟨L, f, hLk, r⟩ := hat
            exact ⟨L, f, by omega, r⟩
          have HFIN := Lib.hid hfin
          clear hfin hat
          have hge : k = nx ∨ (k < nx ∧ k = 40) := by omega
          clear hgo
          rcases hge with rfl | ⟨hlt, rfl⟩
          all_goals
            go_wp2_with fail
            go_meet
            exact HFIN.out
    case rest =>
      obtain ⟨L, f, hL40, hf, hwl, hst⟩ := hcut
      have HWF := Lib.hid hwl
      clear hwl
      obtain ⟨w3, rfl⟩ : ∃ w3 : World, w3 = wc := ⟨_, rfl⟩
      have HF := Lib.hid hf
      have HK := Lib.hid (hst.swap.all what (by omega) WW.out)
      clear HS hf hst hmm
      go_wp2_with fail
      refine HK.out.mono ?_
      rintro e w4 ⟨x, rfl, h4⟩
      obtain ⟨A4, cap4, rfl, hin4⟩ := h4.ints
      have HIN := Lib.hid hin4
      have hsort := sorted_allOf L what
      have hcnt := allOf_le L what
      have HSORT := Lib.hid hsort
      have hmem : ∀ j (h : j < (allOf L what).length), f (.int .i64 (allOf L what)[j]) = some 1 := fun j h => by rw [HF.out.2, if_pos (List.getElem_mem h)]
      have hwfl : ∀ y ∈ allOf L what, (Lit.int .i64 y).wf = true := HWF.out
      have HMEM := Lib.hid hmem; have HWL := Lib.hid hwfl
      have H4 := Lib.hid h4
      clear hin4 hsort hmem hwfl h4 HK
      have K := H4.out.swap.all o (by omega) WO2.out
      rw [apart_none HF.out.1 HNE.out] at K
      have HK := Lib.hid K
      clear K
      obtain ⟨D, hown, hD⟩ := H4.out.third.mi
      have hml := hown.len Try.underlying25 3
      rw [hD.2.1] at hml
      clear hown hD HF HWF
      obtain ⟨l, hl⟩ : ∃ l, allOf L what = l := ⟨_, rfl⟩
      rw [hl] at H4 HK HIN HSORT HMEM HWL hcnt hml ⊢
      clear hl
      obtain ⟨nl, hnl⟩ : ∃ n, l.length = n := ⟨_, rfl⟩
      have HNL := Lib.hid hnl
      rw [hnl] at hcnt hml ⊢
      clear hnl
      go_wp2_with fail
      refine HK.out.mono ?_
      rintro e w5 ⟨y, rfl, h5⟩
      obtain ⟨A5, cap5, rfl, _⟩ := h5.ints
      have hin5 := h5.snd.snd.ints
      have H5 := Lib.hid h5.snd.snd
      clear h5 HK H4 hml HIN
      obtain ⟨A5', cap5', e5, hin5⟩ := hin5
      injection e5 with e5 _ e6
      subst e5; subst e6
      have HIN := Lib.hid hin5
      clear hin5
      go_wp2_with fail
      go_loopw [77] (fun i wr => ∃ j q : Nat, j ≤ nl ∧ i = .int .i64 j ∧ wr = w5.drewN q) (fun i _ => nl - (intOf i).toNat)
      case atStart => exact ⟨0, 0, by omega, rfl, rfl⟩
      case round =>
        obtain ⟨j, q, hj, rfl, rfl⟩ := hrel
        by_cases hjn : j < nl
        · have hjl : j < l.length := by rw [HNL.out]; exact hjn
          obtain ⟨b, off, rfl, hb, hc⟩ := HIN.out.at hjl
          have hf1 := HMEM.out j hjl
          have hwf := HWL.out _ (List.getElem_mem hjl)
          have hlk := fun m => ((H5.out.more (below_drewN (Below.refl _ _) (q + m))).snd).mi_look (tm := 25) (key := .int .i64 l[j]) (kl := .int .i64 l[j]) (Maps.int_keyed Try.underlying3) Try.underlying25 (Maps.keyOf_int_mk Try.underlying3 hwf) True.intro
          simp only [hf1, Option.getD_some] at hlk
          by_cases hz : j = 0
          · generalize l[j] = x at hc hlk hf1 hwf
            have hb1 : decide ((0 : Int) < (j : Int)) = false := by simp; omega
            have hb0 : decide (0 < j) = false := by simp; omega
            clear hf1 hwf hj hz
            go_wp2_with fail
            go_quiet (fail)
            go_wp2_with fail
            go_roundw
            case rel => exact ⟨j + 1, q + nq, hjn, by go_num, by first | rfl | exact World.drewN_drewN _ _ _⟩
            case measure => simp [intOf]; omega
          · obtain ⟨j, rfl⟩ : ∃ i, j = i + 1 := ⟨j - 1, by omega⟩
            obtain ⟨b2, off2, e2, hb2, hc2⟩ := HIN.out.at (i := j) (by omega)
            injection e2 with e2
            injection e2 with e3 e4 _
            subst e3; subst e4
            have hlt := List.pairwise_iff_getElem.1 HSORT.out j (j + 1) (by omega) hjl (by omega)
            generalize l[j + 1] = x at hc hlk hlt
            generalize l[j] = x2 at hc2 hlt
            have hb1 : decide ((0 : Int) < ((j + 1 : Nat) : Int)) = true := decide_eq_true (by omega)
            have hb2 : decide (x ≤ x2) = false := by simp; omega
            have hw1 : IntKind.i64.wrap (((j + 1 : Nat) : Int) - 1) = (j : Int) := by rw [show ((j + 1 : Nat) : Int) - 1 = (j : Int) by omega]; exact IntWalk.i64_in _ (by omega)
            clear hf1 hwf hlt hj hz
            go_wp2_with fail
            go_quiet (fail)
            go_wp2_with fail
            go_roundw
            case rel => exact ⟨j + 2, q + nq, hjn, by go_num, by first | rfl | exact World.drewN_drewN _ _ _⟩
            case measure => simp [intOf]; omega
        · obtain rfl : j = nl := by omega
          have HB := Lib.hid (H5.out.below)
          have hsz := H5.out.size
          have HSZ := Lib.hid hsz
          clear hjn hj hsz H5
          go_wp2_with fail
          refine (sawake_any T _).mono ?_
          rintro e w8 ⟨rfl, hb8⟩
          have HB8 := Lib.hid hb8
          clear hb8
          go_wp2_with fail
          go_ret
          exact ⟨rfl, (below_drewN HB.out q).trans (HB8.out.mono HSZ.out)⟩
end Go.Proofs.Ytalcncfgfehkdaa
