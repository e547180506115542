/- The document's own fees: Settle. Conditions: they lie in memory; good numbers. -/
import Derived.Test.YtnicfhafepiknaaHoldRef3
namespace Go.Proofs.Ytnicfhafepiknaa
open Go.RowKit Go.WideShapes

set_option maxRecDepth 100000 in
set_option maxHeartbeats 8000000 in
theorem rsettle_any {F0 : Nat → Prop} {w0 w : World} {b ab : Nat} {sh s : Value} {X : Accts} {H : List Int} {g : Int} {R : HP} [hR : Stable R] (c fee : Int) (h : Turns F0 w0 w (star (FeeAt b ab sh H g) (star (AccAt ab s X) R))) (hg : GoodF X H g) (hf : U64 fee) :
    Calls Try.prog 30 #[.pointer (some ⟨b, 0, none⟩), .int .i64 c, .int .u64 fee] w fun e w' => e = .returned (.int .u64 (setlN H g c fee)) ∧ Turns F0 w0 w' (star (FeeAt b ab sh (setlH X H g c fee) (g + setlN H g c fee)) (star (AccAt ab s (setlX X H g c fee)) R)) := by
  obtain ⟨c0, c1, c2, z2, hs⟩ := h.fee
  have KO := h.rof c
  have hhd := hOf_u64 hg.gh c
  have hsl := setlN_le hg (c := c) hf
  have hgg := hg.gg
  by_cases hm0 : hOf H c = 0
  · have hN0 : setlN H g c fee = 0 := by omega
    unfold setlX setlH
    simp only [hm0, hN0, if_true, Int.add_zero]
    rw [hm0] at KO
    have HKO := Lib.hid KO; have HH := Lib.hid h
    clear KO h hg hhd hsl hN0 hs hm0 hf hgg
    go_enter Try.func30, Try.ntmps30
    go_wp2_with fail
    refine HKO.out.mono ?_
    rintro e w2 ⟨rfl, rfl⟩
    go_wp2_with fail
    go_ret
    exact ⟨rfl, HH.out⟩
  · have e2 := hOf_in hm0
    unfold setlX setlH
    simp only [if_neg hm0]
    obtain ⟨j, rfl⟩ : ∃ j : Nat, c = j := ⟨c.toNat, by omega⟩
    rw [hSet_nat]
    have hj : j < H.length := by omega
    obtain ⟨hd, ehd⟩ : ∃ x, hOf H j = x := ⟨_, rfl⟩
    obtain ⟨sn, esn⟩ : ∃ x, setlN H g j fee = x := ⟨_, rfl⟩
    have hN : sn = if 18446744073709551616 ≤ g + min hd fee then 0 else min hd fee := by rw [← esn]; unfold setlN; rw [ehd]
    rw [ehd] at KO hhd hm0 hsl
    rw [esn] at hsl
    rw [esn, ehd]
    obtain ⟨m, em⟩ : ∃ x, min hd fee = x := ⟨_, rfl⟩
    rw [em] at hN
    have hm1 : (if fee < hd then fee else hd) = m := by rw [← em]; split <;> omega
    have KA := radd6_any (w := w) (a := g) (b := m) hgg ⟨by omega, by omega⟩
    obtain ⟨gb, cap, rfl, _, hfz⟩ := fee_cells hs hj
    have b1 : (hd == 0) = false := beq_eq_false_iff_ne.2 hm0
    obtain ⟨n, hn⟩ : ∃ n, H.length = n := ⟨_, rfl⟩
    have hwr : IntKind.u64.wrap (hd - sn) = hd - sn := IntWalk.u64_in _ (by omega)
    rw [hn] at c1 hj
    have h' : Turns F0 w0 w (star (FeeAt b ab (.slice (some ⟨gb, 0, none⟩) n cap) H g) (star (AccAt ab s X) R)) := by rw [hn] at h; exact h
    have HH := Lib.hid h'; have HN := Lib.hid hn; have HG := Lib.hid hg
    have HKO := Lib.hid KO; have HSN := Lib.hid hN
    have hsub : Hid (U64 (hd - sn)) := Lib.hid ⟨by omega, by omega⟩
    obtain ⟨pe, hpe⟩ : ∃ x, putE X j 1 (hd - sn) = x := ⟨_, rfl⟩
    have HPE := Lib.hid hpe
    rw [hn, hpe]
    obtain ⟨ok, hok⟩ : ∃ o, decide (g + m < 18446744073709551616) = o := ⟨_, rfl⟩
    obtain ⟨xx, hxx⟩ : ∃ o, (if g + m < 18446744073709551616 then g + m else 0) = o := ⟨_, rfl⟩
    have HOK := Lib.hid hok; have HXX := Lib.hid hxx; have HGG := Lib.hid hgg
    rw [hok, hxx] at KA
    have HKA := Lib.hid KA
    clear KO KA h h' hg hhd hsl hN hs hm0 e2 em ehd esn hfz hgg hf hpe hok hxx hn
    go_enter Try.func30, Try.ntmps30
    go_wp2_with fail
    refine HKO.out.mono ?_
    rintro e w2 ⟨rfl, rfl⟩
    go_wp2_with fail
    refine HKA.out.mono ?_
    rintro e w3 ⟨rfl, rfl⟩
    go_upto_if 29 with fail
    go_cut [8, 9, 10, 19, 25, 27, 28, 29] (fun x y _ _ _ _ _ _ wx => x = .int .u64 sn ∧ y = .int .u64 (g + sn) ∧ Turns F0 w0 wx (star (FeeAt b ab (.slice (some ⟨gb, 0, none⟩) n cap) H g) (star (AccAt ab s X) R)))
    case first =>
      rcases ok with _ | _
      · have hs0 : sn = 0 := by rw [HSN.out, if_pos (by have := of_decide_eq_false HOK.out; omega)]
        have HS0 := Lib.hid hs0
        clear hs0
        go_wp2_with fail
        go_quiet (fail)
        go_wp2_with fail
        go_meet
        exact ⟨by rw [HS0.out], by rw [HS0.out, Int.add_zero], HH.out.more (below_drewN (Below.refl _ _) _)⟩
      · have hlt := of_decide_eq_true HOK.out
        have hs0 : sn = m := by rw [HSN.out, if_neg (by omega)]
        have hx0 : xx = g + m := by rw [← HXX.out, if_pos hlt]
        have HS0 := Lib.hid hs0; have HX0 := Lib.hid hx0
        clear hs0 hx0 hlt
        go_wp2_with fail
        go_meet
        exact ⟨by rw [HS0.out], by rw [HS0.out, HX0.out], HH.out⟩
    case rest =>
      obtain ⟨rfl, rfl, h'⟩ := hcut
      obtain ⟨w4, rfl⟩ : ∃ w4 : World, w4 = wc := ⟨_, rfl⟩
      obtain ⟨d0, d1, d2, z2, hs⟩ := h'.fee
      have h2 := h'.fee_got (g + sn)
      obtain ⟨p0, p1, _, _, p4⟩ := h2.fee
      obtain ⟨gb2, cap2, e, r0, r1⟩ := fee_cells (j := j) (by rw [← HN.out] at p4; exact p4) (by rw [HN.out]; omega)
      injection e with e _ e3
      injection e with e
      injection e with e
      subst e; subst e3
      have z1 := r1 j
      have h3 := h2.fee_held HN.out j (hd - sn)
      obtain ⟨t0, t1, _, _, t4⟩ := h3.fee
      have hn3 : (H.set j (hd - sn)).length = n := by rw [List.length_set]; exact HN.out
      have KP := h3.swap.rput j 1 (hd - sn) HG.out.ga hsub.out
      rw [HPE.out] at KP
      have HKP := Lib.hid KP
      have hEnd : Hid (∀ w4 : World, Turns F0 w0 w4 (star (AccAt ab s (putX X j 1 (hd - sn))) (star (FeeAt b ab (.slice (some ⟨gb, 0, none⟩) n cap) (H.set j (hd - sn)) (g + sn)) R)) →
          w4.cell? ⟨b, 1, none⟩ = some (.slice (some ⟨gb, 0, none⟩) n cap) ∧ (∃ u, w4.cell? ⟨gb, j, none⟩ = some u) ∧ w4.frozen? ⟨gb, j, none⟩ = false ∧ Turns F0 w0 (w4.setCell ⟨gb, j, none⟩ (.int .u64 0)) (star (FeeAt b ab (.slice (some ⟨gb, 0, none⟩) n cap) (H.set j 0) (g + sn)) (star (AccAt ab s (putX X j 1 (hd - sn))) R))) := Lib.hid fun w4 h4 => by
        have h5 := h4.swap
        obtain ⟨_, a1, _, _, a4⟩ := h5.fee
        obtain ⟨g3, cap3, e, y0, y1⟩ := fee_cells (j := j) (by rw [← hn3] at a4; exact a4) (by rw [hn3]; omega)
        injection e with e _ _
        injection e with e
        injection e with e
        subst e
        have h6 := h5.fee_held hn3 j 0
        rw [List.set_set] at h6
        exact ⟨a1, ⟨_, y0⟩, y1 j, h6⟩
      clear KP h' h2 h3 hs p4 t4 r1 hn3 HH HKO HKA t1 p0
      go_wp2_with fail
      refine HKP.out.mono ?_
      rintro e w5 ⟨rfl, h5⟩
      obtain ⟨a1, ⟨u, a2⟩, a3, a4⟩ := hEnd.out w5 h5
      have H5 := Lib.hid h5; have H6 := Lib.hid a4
      clear h5 a4 HKP hEnd d0 d1 d2 z2 p1 r0 z1 t0
      by_cases hp0 : pe = 0
      · subst hp0
        go_wp2_with fail
        go_ret
        exact ⟨rfl, H6.out⟩
      · have b2 : (pe == 0) = false := beq_eq_false_iff_ne.2 hp0
        go_wp2_with fail
        go_ret
        exact ⟨rfl, H5.out.swap⟩
end Go.Proofs.Ytnicfhafepiknaa
