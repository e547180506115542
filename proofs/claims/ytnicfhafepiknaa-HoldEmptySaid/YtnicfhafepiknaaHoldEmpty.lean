/- HoldEmpty answers true, and makes only new memory. Conditions: acct's and hold's calls are as their contracts say. -/
import Derived.Test.YtnicfhafepiknaaHoldAwake
import Derived.Test.YtnicfhafepiknaaHoldFacts
import Derived.LoopTactic
import Derived.RegionTactic
import Derived.Deep.CutBlock
import Derived.Deep.DeepCutAuto
namespace Go.Proofs.Ytnicfhafepiknaa
open Go.RowKit Go.WideShapes

theorem he_zero (c : Int) : freeA (newA 2) c 1 = 0 := by
  have e : newA 2 = [(0, 0), (0, 0)] := by decide +kernel
  rw [e]
  unfold freeA
  split
  · next h =>
    obtain ⟨h1, _⟩ := okE_zero.1 h
    simp only [List.length_cons, List.length_nil] at h1
    have : c = 0 ∨ c = 1 := by omega
    rcases this with rfl | rfl <;> rfl
  · rfl
theorem he_put {v : Int} (hv : U64 v) : (putX (newA 2) 1 1 v).length = 2 ∧ GoodA (putX (newA 2) 1 1 v) ∧ (∀ c, freeA (putX (newA 2) 1 1 v) c 1 = if c = 1 then v else 0) ∧ total (putX (newA 2) 1 1 v) 1 = v := by
  have ho : okE (newA 2) 1 1 = 0 := by decide +kernel
  have ha : amt (newA 2) 1 1 = 0 := by decide +kernel
  have hp : putE (newA 2) 1 1 v = 0 := putE_zero.2 ⟨ho, by omega⟩
  have ht : total (newA 2) 1 = 0 := by decide +kernel
  refine ⟨by rw [putX_length]; rfl, (goodA_new 2).put 1 1 hv, fun c => ?_, ?_⟩
  · rw [putX, if_pos hp, freeA_set ho, he_zero, ha, Int.zero_add]
  · rw [putX, if_pos hp, total_set (okE_zero.1 ho).1, ht, ha]
    omega

set_option maxRecDepth 100000 in
set_option maxHeartbeats 16000000 in
theorem hempty_some {T : AcctApi} (U : HoldApi T) (who fee have0 : Int) (w : World) (hw : I64 who) (hfee : U64 fee) (hh : U64 have0) :
    Calls Try.prog 8 #[.int .i64 who, .int .u64 fee, .int .u64 have0] w fun e w' => e = .returned (.bool true) ∧ Below w.heap.size w w' := by
  obtain ⟨p1, p2, p3, p4⟩ := he_put hh
  have hgf : GoodF (putX (newA 2) 1 1 have0) (List.replicate 2 0) 0 := by have := goodF_new p2 (by omega); rwa [p1] at this
  have htt : htot (putX (newA 2) 1 1 have0) (List.replicate 2 0) 0 = have0 := by show total _ 1 + (0 + (0 + 0)) + 0 = have0; omega
  have ht64 : htot (putX (newA 2) 1 1 have0) (List.replicate 2 0) 0 < 18446744073709551616 := by rw [htt]; exact hh.2
  have hz : ∀ c, hOf (List.replicate 2 0) c = 0 := fun c => by
    unfold hOf
    split
    · next h =>
      simp only [List.length_replicate] at h
      have : c = 0 ∨ c = 1 := by omega
      rcases this with rfl | rfl <;> rfl
    · rfl
  have K1 := fun w1 p (h1 : St w w1 (star (T.IsA (.pointer (some p)) (newA 2)) nothing)) => h1.aput 1 1 have0 (by decide) (by decide) hh
  obtain ⟨X, hX⟩ : ∃ X, putX (newA 2) 1 1 have0 = X := ⟨_, rfl⟩
  simp only [hX] at K1
  rw [hX] at p1 p2 p3 p4 hgf htt ht64
  obtain ⟨f1, f2, f3, f4⟩ := hold_facts hgf ht64 (c := who) hfee
  have g2 := hgf.hold (c := who) hfee
  have ho := fun (d : Int) (hd : d ≠ who) => hold_other (fee := fee) hgf hfee hd
  have K3 := fun w3 p q (h3 : St w w3 (star (U.IsF (.pointer (some q)) (.pointer (some p)) (List.replicate 2 0) 0) (star (T.IsA (.pointer (some p)) X) nothing))) => h3.fhold who fee hgf hw hfee
  obtain ⟨hn, hhn⟩ : ∃ x, holdN X (List.replicate 2 0) who fee = x := ⟨_, rfl⟩
  obtain ⟨X1, hX1⟩ : ∃ x, holdX X (List.replicate 2 0) who fee = x := ⟨_, rfl⟩
  obtain ⟨H1, hH1⟩ : ∃ x, holdH X (List.replicate 2 0) who fee = x := ⟨_, rfl⟩
  simp only [hhn, hX1, hH1] at K3 f1 f2 f3 f4 g2 ho
  rw [hz, Int.zero_add] at f2
  have ht1 : htot X1 H1 0 < 18446744073709551616 := by rw [f4]; exact ht64
  have z64 : U64 0 := by decide
  obtain ⟨s1, s2, s3, s4⟩ := settle_facts g2 ht1 (c := who) z64
  have sfree := settle_free g2 ht1 (c := who) z64
  have s5 := (setlN_le g2 (c := who) z64).1
  have sother := fun (d : Int) (hd : d ≠ who) => settle_other (X := X1) (H := H1) (g := 0) (fee := 0) hd
  have hs0 : setlN H1 0 who 0 = 0 := by omega
  have g3 := g2.settle (c := who) z64
  have K5 := fun w3 p q (h3 : St w w3 (star (U.IsF (.pointer (some q)) (.pointer (some p)) H1 0) (star (T.IsA (.pointer (some p)) X1) nothing))) => h3.fsettle who 0 g2 hw z64
  obtain ⟨X2, hX2⟩ : ∃ x, setlX X1 H1 0 who 0 = x := ⟨_, rfl⟩
  obtain ⟨H2, hH2⟩ : ∃ x, setlH X1 H1 0 who 0 = x := ⟨_, rfl⟩
  simp only [hs0, hX2, hH2, Int.add_zero] at K5 s3 s4 sfree sother g3
  have ht2 : htot X2 H2 0 < 18446744073709551616 := by rw [s4]; exact ht1
  obtain ⟨r1, r2, r3⟩ := forf_facts g3 ht2 (c := who)
  have g4 := g3.forfeit (c := who)
  have K6 := fun w3 p q (h3 : St w w3 (star (U.IsF (.pointer (some q)) (.pointer (some p)) H2 0) (star (T.IsA (.pointer (some p)) X2) nothing))) => h3.fforfeit who g3 hw
  rw [s3] at r1
  obtain ⟨H3, hH3⟩ : ∃ x, forfH H2 0 who = x := ⟨_, rfl⟩
  simp only [r1, hH3, Int.add_zero] at K6 r2 r3 g4
  have hend : freeA X2 1 1 = have0 := by
    by_cases e : who = 1
    · subst e
      rw [sfree, f3, f2, p3, if_pos rfl]
      omega
    · rw [sother 1 (fun h => e h.symm), ho 1 (fun h => e h.symm), p3, if_pos rfl]
  have hmin1 : who = 1 → (if have0 < fee then have0 else fee) = hn := fun e => by
    subst e
    rw [f1, p3, if_pos rfl]
    split <;> omega
  have hmin2 : who ≠ 1 → hn = 0 := fun e => by
    rw [f1, p3, if_neg e]
    omega
  have k1 := Lib.hid K1; have k3 := Lib.hid K3; have k5 := Lib.hid K5; have k6 := Lib.hid K6; have P1 := Lib.hid p1; have P2 := Lib.hid p2; have HE := Lib.hid hend; have HM1 := Lib.hid hmin1; have HM2 := Lib.hid hmin2; have F2 := Lib.hid f2; have R2 := Lib.hid r2; have HW := Lib.hid hw
  clear K1 K3 K5 K6 p1 p2 p3 p4 hgf htt ht64 hz hX f1 f2 f3 f4 g2 ho hhn hX1 hH1 ht1 z64 s1 s2 s3 s4 sfree s5 sother hs0 g3 hX2 hH2 ht2 r1 r2 r3 g4 hH3 hend hmin1 hmin2 hw hfee hh
  go_enter Try.func8, Try.ntmps8
  go_wp2_with fail
  refine (st_acct T (St.start w w (Below.refl _ _)) 2 (by decide)).mono ?_
  rintro e w1 ⟨p, rfl, h1⟩
  have k := Lib.hid (k1.out _ _ h1)
  clear h1 k1
  go_wp2_with fail
  refine k.out.mono ?_
  rintro e w2 ⟨rfl, h2⟩
  have k2 := Lib.hid (st_fees U h2 P2.out (by have := P1.out; omega))
  rw [P1.out] at k2
  clear h2 k
  go_wp2_with fail
  refine k2.out.mono ?_
  rintro e w3 ⟨q, rfl, h3⟩
  have k := Lib.hid (k3.out _ _ _ h3)
  clear h3 k2 k3
  go_wp2_with fail
  refine k.out.mono ?_
  rintro e w4 ⟨rfl, h4⟩
  have H4 := Lib.hid h4
  clear h4 k
  go_upto_if 28 with fail
  go_cut [10] (fun s10 wx => s10 = .int .u64 hn ∧ wx = w4)
  case first =>
    by_cases e : who = 1
    · have hm := HM1.out e
      subst e
      go_wp2_with fail
      go_meet
      exact ⟨rfl, rfl⟩
    · have hm := HM2.out e
      have b1 : (who == 1) = false := beq_eq_false_iff_ne.2 e
      clear e
      go_wp2_with fail
      go_meet
      exact ⟨by rw [hm], rfl⟩
  case rest =>
    obtain ⟨rfl, hwc⟩ := hcut
    subst hwc
    have K := H4.out.fheld who HW.out
    rw [F2.out] at K
    have k := Lib.hid K
    clear K H4
    go_wp2_with fail
    refine k.out.mono ?_
    rintro e w5 ⟨rfl, h5, _⟩
    have k2 := Lib.hid (k5.out _ _ _ h5)
    clear h5 k k5
    go_wp2_with fail
    refine k2.out.mono ?_
    rintro e w6 ⟨rfl, h6⟩
    have k := Lib.hid (k6.out _ _ _ h6)
    clear h6 k2 k6
    go_wp2_with fail
    refine k.out.mono ?_
    rintro e w7 ⟨rfl, h7⟩
    have K := h7.fheld who HW.out
    rw [R2.out] at K
    have k2 := Lib.hid K
    clear K h7 k
    go_wp2_with fail
    refine k2.out.mono ?_
    rintro e w8 ⟨rfl, h8, _⟩
    have k := Lib.hid h8.fgot
    clear h8 k2
    go_wp2_with fail
    refine k.out.mono ?_
    rintro e w9 ⟨rfl, h9, _⟩
    have K := h9.swap.afree 1 1 (by decide) (by decide)
    rw [HE.out] at K
    have k2 := Lib.hid K
    clear K h9 k
    go_wp2_with fail
    refine k2.out.mono ?_
    rintro e w10 ⟨rfl, h10, _⟩
    have HB := Lib.hid h10.below
    have HSZ := Lib.hid h10.size
    clear h10 k2
    go_wp2_with fail
    refine (hawake_any U _).mono ?_
    rintro e w11 ⟨rfl, hb⟩
    have HB2 := Lib.hid hb
    clear hb
    go_wp2_with fail
    go_ret
    exact ⟨rfl, HB.out.trans (HB2.out.mono HSZ.out)⟩
end Go.Proofs.Ytnicfhafepiknaa
