/- slices.insertionSortCmpFunc over a row of orders, by prio's comparison. Conditions: the row lies in a block of its own, apart from the queue; at most a million orders. -/
import Derived.Test.YtkbebllkjmccoaaRankCmp
import Derived.Test.YtkbebllkjmccoaaHeapCalls
namespace Go.Proofs.Ytkbebllkjmccoaa
open Go.RowKit Go.WideShapes

theorem two_cells {F0 : Nat → Prop} {w0 w' : World} {g n cap : Nat} {E : Ords} {R : HP} {j k : Nat} {x y : OrdV} (hj : j < E.length) (hk : k < E.length) (hx : E[j] = x) (hy : E[k] = y)
    (h : Turns F0 w0 w' (star (RowN 28 5 (.slice (some ⟨g, 0, none⟩) n cap) n (cellsO E)) R)) :
    w'.cell? ⟨g, j * 5, none⟩ = some (.int .i64 x.id) ∧ w'.cell? ⟨g, j * 5 + 1, none⟩ = some (.int .i64 x.cl) ∧ w'.cell? ⟨g, j * 5 + 2, none⟩ = some (.bool x.buy) ∧ w'.cell? ⟨g, j * 5 + 3, none⟩ = some (.int .u64 x.price) ∧ w'.cell? ⟨g, j * 5 + 4, none⟩ = some (.int .u64 x.qty) ∧ w'.cell? ⟨g, k * 5, none⟩ = some (.int .i64 y.id) ∧ w'.cell? ⟨g, k * 5 + 1, none⟩ = some (.int .i64 y.cl) ∧ w'.cell? ⟨g, k * 5 + 2, none⟩ = some (.bool y.buy) ∧ w'.cell? ⟨g, k * 5 + 3, none⟩ = some (.int .u64 y.price) ∧ w'.cell? ⟨g, k * 5 + 4, none⟩ = some (.int .u64 y.qty) := by
  obtain ⟨g1, e1, _, d0, d1, d2, d3, d4⟩ := row_ord h.rowN hj
  injection e1 with e1
  injection e1 with e1 _ _
  subst e1
  obtain ⟨g1, e1, _, f0, f1, f2, f3, f4⟩ := row_ord h.rowN hk
  injection e1 with e1
  injection e1 with e1 _ _
  subst e1
  rw [hx] at d0 d1 d2 d3 d4
  rw [hy] at f0 f1 f2 f3 f4
  exact ⟨d0, d1, d2, d3, d4, f0, f1, f2, f3, f4⟩
theorem compare_turns {F0 : Nat → Prop} {w0 w : World} {g n cap : Nat} {E : Ords} {R : HP} [hR : Stable R] {qb : Nat} {C : Array Value} {ts : TypeId} {up : Bool} (x y : OrdV) (hC : C[0]? = some (.bool up)) (h : Turns F0 w0 w (star (RowN 28 5 (.slice (some ⟨g, 0, none⟩) n cap) n (cellsO E)) (star (Blk qb C ts) R))) :
    Calls Try.prog 28 #[.pointer (some ⟨qb, 0, none⟩), x.val, y.val] w fun e w' => ∃ c : Int, e = .returned (.int .i64 c) ∧ decide (c < 0) = aheadO up x y ∧ Turns F0 w0 w' (star (RowN 28 5 (.slice (some ⟨g, 0, none⟩) n cap) n (cellsO E)) (star (Blk qb C ts) R)) := by
  obtain ⟨_, hb, qc, _⟩ := h.swap.blk
  exact (compare_any x y hb (qc 0 _ hC)).mono fun e w' ⟨c, he, hc, hw⟩ => ⟨c, he, hc, h.more hw⟩

set_option maxRecDepth 100000 in
set_option maxHeartbeats 4000000 in
theorem insertion_any {F0 : Nat → Prop} {w0 w : World} {g n cap : Nat} {D : Ords} {R : HP} [hR : Stable R] {qb : Nat} {C : Array Value} {ts : TypeId} {up : Bool} (a b : Nat) (hC : C[0]? = some (.bool up)) (h : Turns F0 w0 w (star (RowN 28 5 (.slice (some ⟨g, 0, none⟩) n cap) n (cellsO D)) (star (Blk qb C ts) R))) (hD : D.length = n) (hn : n ≤ 1000000) (hab : a ≤ b) (hb : b ≤ n) :
    Calls Try.prog 40 #[.slice (some ⟨g, 0, none⟩) n cap, .int .i64 a, .int .i64 b, (.func (.func 28) #[.pointer (some ⟨qb, 0, none⟩)] #[])] w fun e w' => e = .returned (.tuple #[]) ∧ ∃ E, SubR D E a b ∧ SegS (aheadO up) E a b ∧ Turns F0 w0 w' (star (RowN 28 5 (.slice (some ⟨g, 0, none⟩) n cap) n (cellsO E)) (star (Blk qb C ts) R)) := by
  have H := Lib.hid h
  have HD := Lib.hid hD
  have HB := Lib.hid hb
  have HC := Lib.hid hC
  have ca : IntKind.i64.wrap ((a : Int) + 1) = (a : Int) + 1 := IntWalk.i64_in _ (by omega)
  clear h hD hC
  go_enter Try.func40, Try.ntmps40
  go_wp2_with fail
  go_loopw [8] (fun iv wr => ∃ (i : Nat) (E : Ords), iv = .int .i64 i ∧ a < i ∧ (i ≤ b ∨ i = a + 1) ∧ SubR D E a b ∧ SegS (aheadO up) E a i ∧ Turns F0 w0 wr (star (RowN 28 5 (.slice (some ⟨g, 0, none⟩) n cap) n (cellsO E)) (star (Blk qb C ts) R))) (fun iv _ => b + 1 - (intOf iv).toNat)
  case atStart => exact ⟨a + 1, D, by first | rfl | simp, by omega, Or.inr rfl, SubR.refl _ _ _, SegS.one (Nat.le_refl _), H.out⟩
  case round =>
    obtain ⟨i, E, rfl, hai, hib, hsub, hseg, ht⟩ := hrel
    clear H
    by_cases hlt : i < b
    · have hlt' : (i : Int) < (b : Int) := by omega
      have ci : IntKind.i64.wrap ((i : Int) + 1) = (i : Int) + 1 := IntWalk.i64_in _ (by omega)
      have HT := Lib.hid ht; have HSUB := Lib.hid hsub; have HSEG := Lib.hid hseg
      clear ht hsub hseg ca
      go_wp2_with fail
      go_loopw [9] (fun jv wr => ∃ (j : Nat) (G : Ords), jv = .int .i64 j ∧ a ≤ j ∧ j ≤ i ∧ SubR D G a b ∧ InsAt (aheadO up) G a i j ∧ Turns F0 w0 wr (star (RowN 28 5 (.slice (some ⟨g, 0, none⟩) n cap) n (cellsO G)) (star (Blk qb C ts) R))) (fun jv _ => (intOf jv).toNat)
      case atStart => exact ⟨i, E, rfl, by omega, Nat.le_refl _, HSUB.out, InsAt.start HSEG.out, HT.out⟩
      case round =>
        obtain ⟨j, G, rfl, haj, hji, hsub, hins, ht⟩ := hrel
        clear HT HSUB HSEG
        have hG : G.length = n := by rw [hsub.length, HD.out]
        have hjl : j < G.length := by omega
        by_cases hgt : a < j
        · obtain ⟨k, hk⟩ : ∃ k, j = k + 1 := ⟨j - 1, by omega⟩
          have hkl : k < G.length := by omega
          have c1 : ((j : Int) - 1) = (k : Int) := by omega
          have c2 : IntKind.i64.wrap (k : Int) = (k : Int) := IntWalk.i64_in _ (by omega)
          have hj' : (j : Int) < (n : Int) := by omega
          have hk' : (k : Int) < (n : Int) := by omega
          have b1 : (a : Int) < (j : Int) := by omega
          obtain ⟨⟨x1, x2, x3, x4, x5⟩, hx⟩ : ∃ x, G[j] = x := ⟨_, rfl⟩
          obtain ⟨⟨y1, y2, y3, y4, y5⟩, hy⟩ : ∃ y, G[k] = y := ⟨_, rfl⟩
          have HF := Lib.hid (fun (w' : World) (h : Turns F0 w0 w' (star (RowN 28 5 (.slice (some ⟨g, 0, none⟩) n cap) n (cellsO G)) (star (Blk qb C ts) R))) => two_cells hjl hkl hx hy h)
          simp only at HF
          have HT := Lib.hid ht
          have K := compare_turns ⟨x1, x2, x3, x4, x5⟩ ⟨y1, y2, y3, y4, y5⟩ HC.out ht.drew
          obtain ⟨av, hav⟩ : ∃ v, aheadO up ⟨x1, x2, x3, x4, x5⟩ ⟨y1, y2, y3, y4, y5⟩ = v := ⟨_, rfl⟩
          rw [hav] at K
          unfold OrdV.val at K
          have HK := Lib.hid K
          have e0 := HF.out _ ht.drew
          have hav2 : aheadO up (atL G j) (atL G (j - 1)) = av := by rw [atL_eq hjl, show j - 1 = k by omega, atL_eq hkl, hx, hy, hav]
          have HAV := Lib.hid hav2; have HSUB := Lib.hid hsub; have HINS := Lib.hid hins; have HKJ := Lib.hid hk
          have HGL := Lib.hid hG
          clear ht hx hy K hav hav2 hsub hins hk hG hjl hkl ci
          go_upto_region 4 with fail
          go_region_held3 (fun w' : World => (w'.cell? ⟨g, j * 5, none⟩ = some (.int .i64 x1) ∧ w'.cell? ⟨g, j * 5 + 1, none⟩ = some (.int .i64 x2) ∧ w'.cell? ⟨g, j * 5 + 2, none⟩ = some (.bool x3) ∧ w'.cell? ⟨g, j * 5 + 3, none⟩ = some (.int .u64 x4) ∧ w'.cell? ⟨g, j * 5 + 4, none⟩ = some (.int .u64 x5) ∧ w'.cell? ⟨g, k * 5, none⟩ = some (.int .i64 y1) ∧ w'.cell? ⟨g, k * 5 + 1, none⟩ = some (.int .i64 y2) ∧ w'.cell? ⟨g, k * 5 + 2, none⟩ = some (.bool y3) ∧ w'.cell? ⟨g, k * 5 + 3, none⟩ = some (.int .u64 y4) ∧ w'.cell? ⟨g, k * 5 + 4, none⟩ = some (.int .u64 y5))) (first | exact e1 | exact e0) (first
            | (go_at_call 28; refine HK.out.mono ?_; rintro e w10 ⟨c, rfl, hc, ht10⟩; have e1 := HF.out _ ht10; have H10 := Lib.hid ht10; clear ht10))
          all_goals
            rcases av with _ | _
            · go_wp2_with fail
              go_roundw
              case rel => exact ⟨i + 1, G, by first | rfl | simp, by omega, Or.inl (by omega), HSUB.out, HINS.out.done (ahead_ord up) haj hji (Or.inr HAV.out), H10.out⟩
              case measure => simp [intOf]; omega
            · have h10 := H10.out
              have hjl : j < G.length := by rw [HGL.out]; omega
              have hkl : k < G.length := by rw [HGL.out]; have := HKJ.out; omega
              have hjk : j ≠ k := by have := HKJ.out; omega
              have HSTEP := Lib.hid (HINS.out.step (ahead_ord up) hgt hji (by rw [HGL.out]; omega) HAV.out)
              have HSUB2 := Lib.hid (HSUB.out.trans (SubR.swap G (a := a) (b := b) (i := j) (j := k) (by omega) (by omega) (by have := HKJ.out; omega) (by omega) (by rw [HGL.out]; exact HB.out)))
              have e10 : j - 1 = k := by have := HKJ.out; omega
              rw [e10] at HSTEP
              clear e1 e0 b1
              have htd := h10.drew
              obtain ⟨g1, e1, _, d0, d1, d2, d3, d4⟩ := row_ord htd.rowN hjl
              injection e1 with e1
              injection e1 with e1 _ _
              subst e1
              obtain ⟨g1, e1, _, f0, f1, f2, f3, f4⟩ := row_ord htd.rowN hkl
              injection e1 with e1
              injection e1 with e1 _ _
              subst e1
              obtain ⟨⟨x1, x2, x3, x4, x5⟩, hx⟩ : ∃ x, G[j] = x := ⟨_, rfl⟩
              obtain ⟨⟨y1, y2, y3, y4, y5⟩, hy⟩ : ∃ y, G[k] = y := ⟨_, rfl⟩
              rw [hx] at d0 d1 d2 d3 d4
              rw [hy] at f0 f1 f2 f3 f4
              have hsw : (G.set j ⟨y1, y2, y3, y4, y5⟩).set k ⟨x1, x2, x3, x4, x5⟩ = swapL G j k := by unfold swapL; rw [atL_eq hjl, atL_eq hkl, hx, hy]
              have hsw2 : (G.set k ⟨x1, x2, x3, x4, x5⟩).set j ⟨y1, y2, y3, y4, y5⟩ = swapL G j k := by rw [← hsw]; exact List.set_comm _ _ (fun h => hjk h.symm)
              obtain ⟨⟨_, ⟨p0, q0⟩, ⟨p1, q1⟩, ⟨p2, q2⟩, ⟨p3, q3⟩, ⟨p4, q4⟩⟩, T1⟩ := h10.put5 hjl ⟨y1, y2, y3, y4, y5⟩
              obtain ⟨⟨_, ⟨r0, s0⟩, ⟨r1, s1⟩, ⟨r2, s2⟩, ⟨r3, s3⟩, ⟨r4, s4⟩⟩, T2⟩ := T1.put5 (i := k) (by rw [List.length_set]; exact hkl) ⟨x1, x2, x3, x4, x5⟩
              obtain ⟨⟨_, ⟨t0, u0⟩, ⟨t1, u1⟩, ⟨t2, u2⟩, ⟨t3, u3⟩, ⟨t4, u4⟩⟩, T3⟩ := h10.put5 hkl ⟨x1, x2, x3, x4, x5⟩
              obtain ⟨⟨_, ⟨v0, z0⟩, ⟨v1, z1⟩, ⟨v2, z2⟩, ⟨v3, z3⟩, ⟨v4, z4⟩⟩, T4⟩ := T3.put5 (i := j) (by rw [List.length_set]; exact hjl) ⟨y1, y2, y3, y4, y5⟩
              rw [hsw] at T2
              rw [hsw2] at T4
              have HT2 := Lib.hid T2; have HT4 := Lib.hid T4
              clear T1 T2 T3 T4 htd hx hy hsw hsw2
              clear h10 hjl hkl hjk HF HK e10
              go_wp2_with fail
              go_region_law (fail)
              all_goals
                go_wp2_with fail
                go_roundw
                case rel => exact ⟨k, _, rfl, by have := HKJ.out; omega, by have := HKJ.out; omega, HSUB2.out, HSTEP.out, by first | exact HT2.out.drew | exact HT4.out.drew⟩
                case measure => have := HKJ.out; simp [intOf]; omega
        · have hja : j = a := by omega
          have b1 : ¬ (a : Int) < (j : Int) := by omega
          have HSUB := Lib.hid hsub; have HINS := Lib.hid hins; have HT := Lib.hid ht
          clear ht hsub hins hgt
          go_upto_region 4 with fail
          go_quiet (fail)
          go_wp2_with fail
          go_roundw
          case rel => exact ⟨i + 1, G, by first | rfl | simp, by omega, Or.inl (by omega), HSUB.out, HINS.out.done (ahead_ord up) haj hji (Or.inl hja), HT.out.more (below_drewN (Below.refl _ _) _)⟩
          case measure => simp [intOf]; omega
    · have hlt' : ¬ (i : Int) < (b : Int) := by omega
      have HT := Lib.hid ht; have HSUB := Lib.hid hsub; have HSEG := Lib.hid (hseg.sub (Nat.le_refl a) (show b ≤ i by omega))
      clear ht hsub hseg ca
      go_wp2_with fail
      go_end0
      exact ⟨rfl, E, HSUB.out, HSEG.out, HT.out⟩
end Go.Proofs.Ytkbebllkjmccoaa
