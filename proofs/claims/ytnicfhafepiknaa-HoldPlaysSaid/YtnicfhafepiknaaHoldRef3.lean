/- The document's own fees: Forfeit and Settle. Conditions: they lie in memory; good numbers. -/
import Derived.Test.YtnicfhafepiknaaHoldRef2
namespace Go.Proofs.Ytnicfhafepiknaa
open Go.RowKit Go.WideShapes

set_option maxRecDepth 100000 in
set_option maxHeartbeats 8000000 in
theorem rforf_any {F0 : Nat → Prop} {w0 w : World} {b ab : Nat} {sh : Value} {X : Accts} {H : List Int} {g : Int} {R : HP} [hR : Stable R] (c : Int) (h : Turns F0 w0 w (star (FeeAt b ab sh H g) R)) (hg : GoodF X H g) :
    Calls Try.prog 31 #[.pointer (some ⟨b, 0, none⟩), .int .i64 c] w fun e w' => e = .returned (.int .u64 (forfN H g c)) ∧ Turns F0 w0 w' (star (FeeAt b ab sh (forfH H g c) (g + forfN H g c)) R) := by
  obtain ⟨_, c1, c2, z2, hs⟩ := h.fee
  have KO := h.rof c
  have hhd := hOf_u64 hg.gh c
  obtain ⟨hd, ehd⟩ : ∃ x, hOf H c = x := ⟨_, rfl⟩
  rw [ehd] at KO hhd
  have KA := radd6_any (w := w) (a := g) (b := hd) hg.gg hhd
  have hN : forfN H g c = if 18446744073709551616 ≤ g + hd then 0 else hd := by unfold forfN; rw [ehd]
  have HKO := Lib.hid KO; have HH := Lib.hid h
  by_cases hov : g + hd < 18446744073709551616
  · rw [if_pos hov, decide_eq_true hov] at KA
    rw [if_neg (by omega)] at hN
    have HKA := Lib.hid KA
    by_cases hm0 : hd = 0
    · have hN0 : forfN H g c = 0 := by rw [hN, hm0]
      unfold forfH
      simp only [hN0, if_pos, Int.add_zero]
      clear KO KA h hg hhd ehd hN hN0 hov hs
      subst hm0
      go_enter Try.func31, Try.ntmps31
      go_wp2_with fail
      refine HKO.out.mono ?_
      rintro e w2 ⟨rfl, rfl⟩
      go_wp2_with fail
      refine HKA.out.mono ?_
      rintro e w2 ⟨rfl, rfl⟩
      go_wp2_with fail
      go_ret
      exact ⟨rfl, HH.out⟩
    · have hNn : forfN H g c ≠ 0 := by rw [hN]; exact hm0
      have e2 := hOf_in (H := H) (c := c) (by rw [ehd]; exact hm0)
      unfold forfH
      simp only [if_neg hNn]
      rw [hN]
      obtain ⟨j, rfl⟩ : ∃ j : Nat, c = j := ⟨c.toNat, by omega⟩
      rw [hSet_nat]
      have hj : j < H.length := by omega
      obtain ⟨gb, cap, rfl, d0, hfz⟩ := fee_cells hs hj
      have z0 := hfz j
      have b1 : (hd == 0) = false := beq_eq_false_iff_ne.2 hm0
      obtain ⟨n, hn⟩ : ∃ n, H.length = n := ⟨_, rfl⟩
      rw [hn] at c1 hj hs
      have h2 := Turns.fee_got (h := by rw [hn] at h; exact h) (g + hd)
      obtain ⟨q0, q1, q2, q3, q4⟩ := h2.fee
      obtain ⟨gb2, cap2, e, r0, r1⟩ := fee_cells (j := j) (by rw [← hn] at q4; exact q4) (by omega)
      injection e with e _ _
      injection e with e
      injection e with e
      subst e
      have z1 := r1 j
      have HE := Lib.hid (h2.fee_held hn j 0)
      rw [hn] at HH ⊢
      clear KO KA h hg hhd ehd hN hNn hov hs hm0 e2 HH hn h2 q0 q2 q3 q4 d0 hfz r1
      go_enter Try.func31, Try.ntmps31
      go_wp2_with fail
      refine HKO.out.mono ?_
      rintro e w2 ⟨rfl, rfl⟩
      go_wp2_with fail
      refine HKA.out.mono ?_
      rintro e w2 ⟨rfl, rfl⟩
      go_wp2_with fail
      go_ret
      exact ⟨rfl, HE.out⟩
  · rw [if_neg hov, decide_eq_false hov] at KA
    rw [if_pos (by omega)] at hN
    have HKA := Lib.hid KA
    unfold forfH
    simp only [hN, if_pos, Int.add_zero]
    have b0 : Hid ((hd == 0) = false) := Lib.hid (by have := hg.gg; exact beq_eq_false_iff_ne.2 (by omega))
    clear KO KA h hg hhd ehd hN hov hs
    have b1 := b0.out
    go_enter Try.func31, Try.ntmps31
    go_wp2_with fail
    refine HKO.out.mono ?_
    rintro e w2 ⟨rfl, rfl⟩
    go_wp2_with fail
    refine HKA.out.mono ?_
    rintro e w2 ⟨rfl, rfl⟩
    go_wp2_with fail
    go_ret
    exact ⟨rfl, HH.out⟩
end Go.Proofs.Ytnicfhafepiknaa
