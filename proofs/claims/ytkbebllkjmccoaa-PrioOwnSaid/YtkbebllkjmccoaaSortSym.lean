/- slices.symMergeCmpFunc over a row of orders, where one of the parts is one order. Conditions: the row lies in a block of its own, apart from the queue; at most a million orders. -/
import Derived.Test.YtkbebllkjmccoaaSortIns
import Derived.Test.YtkbebllkjmccoaaSortRot
namespace Go.Proofs.Ytkbebllkjmccoaa
open Go.RowKit Go.WideShapes

set_option maxRecDepth 100000 in
set_option maxHeartbeats 4000000 in
theorem sym_left {F0 : Nat → Prop} {w0 w : World} {g n cap : Nat} {D : Ords} {R : HP} [hR : Stable R] {qb : Nat} {C : Array Value} {ts : TypeId} {up : Bool} (a m b : Nat) (hC : C[0]? = some (.bool up)) (h : Turns F0 w0 w (star (RowN 28 5 (.slice (some ⟨g, 0, none⟩) n cap) n (cellsO D)) (star (Blk qb C ts) R))) (hD : D.length = n) (hn : n ≤ 1000000) (hb : b ≤ n) (hma : m = a + 1) (hmb : m ≤ b) (hs : SegS (aheadO up) D m b) :
    Calls Try.prog 41 #[.slice (some ⟨g, 0, none⟩) n cap, .int .i64 a, .int .i64 m, .int .i64 b, (.func (.func 28) #[.pointer (some ⟨qb, 0, none⟩)] #[])] w fun e w' => e = .returned (.tuple #[]) ∧ ∃ E, SubR D E a b ∧ SegS (aheadO up) E a b ∧ Turns F0 w0 w' (star (RowN 28 5 (.slice (some ⟨g, 0, none⟩) n cap) n (cellsO E)) (star (Blk qb C ts) R)) := by
  have H := Lib.hid h
  have HD := Lib.hid hD
  have HB := Lib.hid hb
  have HC := Lib.hid hC
  have HS := Lib.hid hs
  have HMA := Lib.hid hma
  have ca : ((m : Int) - (a : Int)) = 1 := by omega
  have cw : IntKind.i64.wrap 1 = 1 := by decide
  clear h hD hC hs hma
  go_enter Try.func41, Try.ntmps41
  go_upto_block 0 with fail
  go_cut [10] (fun iv wx => ∃ i : Nat, iv = .int .i64 i ∧ m ≤ i ∧ i ≤ b ∧ (i = m ∨ aheadO up (atL D (i - 1)) (atL D a) = true) ∧ (i = b ∨ aheadO up (atL D i) (atL D a) = false) ∧ Turns F0 w0 wx (star (RowN 28 5 (.slice (some ⟨g, 0, none⟩) n cap) n (cellsO D)) (star (Blk qb C ts) R)))
  case first =>
    go_wp2_with fail
    go_loopw [10, 11] (fun iv jv wr => ∃ i j : Nat, iv = .int .i64 i ∧ jv = .int .i64 j ∧ m ≤ i ∧ i ≤ j ∧ j ≤ b ∧ (i = m ∨ aheadO up (atL D (i - 1)) (atL D a) = true) ∧ (j = b ∨ aheadO up (atL D j) (atL D a) = false) ∧ Turns F0 w0 wr (star (RowN 28 5 (.slice (some ⟨g, 0, none⟩) n cap) n (cellsO D)) (star (Blk qb C ts) R))) (fun iv jv _ => (intOf jv).toNat - (intOf iv).toNat)
    case atStart => exact ⟨m, b, rfl, rfl, Nat.le_refl _, hmb, Nat.le_refl _, Or.inl rfl, Or.inl rfl, H.out⟩
    case round =>
      obtain ⟨i, j, rfl, rfl, hmi, hij, hjb, h1, h2, ht⟩ := hrel
      clear H ca cw
      by_cases hlt : i < j
      · have b1 : (i : Int) < (j : Int) := by omega
        have c1 : IntKind.i64.wrap ((i : Int) + (j : Int)) = (i : Int) + (j : Int) := IntWalk.i64_in _ (by omega)
        obtain ⟨h, hh⟩ : ∃ h, (i + j) / 2 = h := ⟨_, rfl⟩
        have c2 : ((i : Int) + (j : Int)) / 2 = (h : Int) := by omega
        have c3 : IntKind.i64.wrap ((h : Int) + 1) = (h : Int) + 1 := IntWalk.i64_in _ (by omega)
        have hih : i ≤ h := by omega
        have hhj : h < j := by omega
        have HIH := Lib.hid hih; have HHJ := Lib.hid hhj
        have i1 : (h : Int) < (n : Int) := by omega
        have i2 : (a : Int) < (n : Int) := by have := HMA.out; omega
        have HMA2 := HMA.out
        have HI := Lib.hid h1; have HJ := Lib.hid h2
        clear h1 h2 hh
        have hfl : h < D.length := by rw [HD.out]; omega
        have hsl : a < D.length := by rw [HD.out]; omega
        obtain ⟨⟨x1, x2, x3, x4, x5⟩, hx⟩ : ∃ x, D[h] = x := ⟨_, rfl⟩
        obtain ⟨⟨y1, y2, y3, y4, y5⟩, hy⟩ : ∃ y, D[a] = y := ⟨_, rfl⟩
        have HF := Lib.hid (fun (w' : World) (h : Turns F0 w0 w' (star (RowN 28 5 (.slice (some ⟨g, 0, none⟩) n cap) n (cellsO D)) (star (Blk qb C ts) R))) => two_cells hfl hsl hx hy h)
        simp only at HF
        have K := compare_turns ⟨x1, x2, x3, x4, x5⟩ ⟨y1, y2, y3, y4, y5⟩ HC.out ht.drew
        obtain ⟨av, hav⟩ : ∃ v, aheadO up ⟨x1, x2, x3, x4, x5⟩ ⟨y1, y2, y3, y4, y5⟩ = v := ⟨_, rfl⟩
        rw [hav] at K
        unfold OrdV.val at K
        have HK := Lib.hid K
        have e0 := HF.out _ ht.drew
        have hav2 : aheadO up (atL D h) (atL D a) = av := by rw [atL_eq hfl, atL_eq hsl, hx, hy, hav]
        have HAV := Lib.hid hav2; have HT := Lib.hid ht
        clear HMA2 ht hx hy K hav hav2 hfl hsl
        go_upto_region 5 with fail
        go_region_held3 (fun w' : World => (w'.cell? ⟨g, h * 5, none⟩ = some (.int .i64 x1) ∧ w'.cell? ⟨g, h * 5 + 1, none⟩ = some (.int .i64 x2) ∧ w'.cell? ⟨g, h * 5 + 2, none⟩ = some (.bool x3) ∧ w'.cell? ⟨g, h * 5 + 3, none⟩ = some (.int .u64 x4) ∧ w'.cell? ⟨g, h * 5 + 4, none⟩ = some (.int .u64 x5) ∧ w'.cell? ⟨g, a * 5, none⟩ = some (.int .i64 y1) ∧ w'.cell? ⟨g, a * 5 + 1, none⟩ = some (.int .i64 y2) ∧ w'.cell? ⟨g, a * 5 + 2, none⟩ = some (.bool y3) ∧ w'.cell? ⟨g, a * 5 + 3, none⟩ = some (.int .u64 y4) ∧ w'.cell? ⟨g, a * 5 + 4, none⟩ = some (.int .u64 y5))) (first | exact e1 | exact e0) (first
          | (go_at_call 28; refine HK.out.mono ?_; rintro e w10 ⟨c, rfl, hc, ht10⟩; have e1 := HF.out _ ht10; have H10 := Lib.hid ht10; clear ht10))
        all_goals
          rcases av with _ | _
          · go_wp2_with fail
            go_roundw
            case rel => exact ⟨i, h, rfl, rfl, hmi, HIH.out, by have := HHJ.out; omega, HI.out, Or.inr HAV.out, H10.out⟩
            case measure => have := HHJ.out; have := HIH.out; simp [intOf]; omega
          · go_wp2_with fail
            go_roundw
            case rel => exact ⟨h + 1, j, by first | rfl | simp, rfl, by have := HIH.out; omega, HHJ.out, hjb, Or.inr HAV.out, HJ.out, H10.out⟩
            case measure => have := HHJ.out; have := HIH.out; simp [intOf]; omega
      · have b1 : ¬ (i : Int) < (j : Int) := by omega
        obtain rfl : i = j := by omega
        have HT := Lib.hid ht; have HI := Lib.hid h1; have HJ := Lib.hid h2
        clear ht h1 h2
        go_wp2_with fail
        go_meet
        exact ⟨i, rfl, hmi, hjb, HI.out, HJ.out, HT.out⟩
  case rest =>
    obtain ⟨i, rfl, hmi, hib, h1, h2, ht⟩ := hcut
    have HI := Lib.hid h1; have HJ := Lib.hid h2; have HT := Lib.hid ht
    have c0 : IntKind.i64.wrap ((i : Int) - 1) = (i : Int) - 1 := IntWalk.i64_in _ (by omega)
    clear h1 h2 ht H ca cw
    go_wp2_with fail
    go_loopw [13] (fun kv wr => ∃ (k : Nat) (E : Ords), kv = .int .i64 k ∧ a ≤ k ∧ k + 1 ≤ i ∧ SubR D E a b ∧ ShL D E a k ∧ Turns F0 w0 wr (star (RowN 28 5 (.slice (some ⟨g, 0, none⟩) n cap) n (cellsO E)) (star (Blk qb C ts) R))) (fun kv _ => i - (intOf kv).toNat)
    case atStart => exact ⟨a, D, rfl, Nat.le_refl _, by have := HMA.out; omega, SubR.refl _ _ _, ShL.start D a, HT.out⟩
    case round =>
      obtain ⟨k, E, rfl, hak, hki, hsub, hsh, ht⟩ := hrel
      clear HT
      have hE : E.length = n := by rw [hsub.length, HD.out]
      by_cases hlt : k + 1 < i
      · obtain ⟨j, hj⟩ : ∃ j, k + 1 = j := ⟨_, rfl⟩
        have b1 : (k : Int) < (i : Int) - 1 := by omega
        have c1 : ((k : Int) + 1) = (j : Int) := by omega
        have c2 : IntKind.i64.wrap (j : Int) = (j : Int) := IntWalk.i64_in _ (by omega)
        have hkl : k < E.length := by omega
        have hjl : j < E.length := by omega
        have hkj : k ≠ j := by omega
        have i1 : (k : Int) < (n : Int) := by omega
        have i2 : (j : Int) < (n : Int) := by omega
        have hst := hsh.step hak (by rw [hE]; omega)
        rw [hj] at hst
        have HSTEP := Lib.hid hst
        have HSUB := Lib.hid (hsub.trans (SubR.swap E (a := a) (b := b) (i := k) (j := j) hak (by omega) (by omega) (by omega) (by rw [hE]; exact HB.out)))
        have HJK := Lib.hid hj
        clear hst hsub hsh hj
        have htd := ht.drew
        obtain ⟨g1, e1, _, d0, d1, d2, d3, d4⟩ := row_ord htd.rowN hkl
        injection e1 with e1
        injection e1 with e1 _ _
        subst e1
        obtain ⟨g1, e1, _, f0, f1, f2, f3, f4⟩ := row_ord htd.rowN hjl
        injection e1 with e1
        injection e1 with e1 _ _
        subst e1
        obtain ⟨⟨x1, x2, x3, x4, x5⟩, hx⟩ : ∃ x, E[k] = x := ⟨_, rfl⟩
        obtain ⟨⟨y1, y2, y3, y4, y5⟩, hy⟩ : ∃ y, E[j] = y := ⟨_, rfl⟩
        rw [hx] at d0 d1 d2 d3 d4
        rw [hy] at f0 f1 f2 f3 f4
        have hsw : (E.set k ⟨y1, y2, y3, y4, y5⟩).set j ⟨x1, x2, x3, x4, x5⟩ = swapL E k j := by unfold swapL; rw [atL_eq hkl, atL_eq hjl, hx, hy]
        have hsw2 : (E.set j ⟨x1, x2, x3, x4, x5⟩).set k ⟨y1, y2, y3, y4, y5⟩ = swapL E k j := by rw [← hsw]; exact List.set_comm _ _ (fun h => hkj h.symm)
        obtain ⟨⟨_, ⟨p0, q0⟩, ⟨p1, q1⟩, ⟨p2, q2⟩, ⟨p3, q3⟩, ⟨p4, q4⟩⟩, T1⟩ := ht.put5 hkl ⟨y1, y2, y3, y4, y5⟩
        obtain ⟨⟨_, ⟨r0, s0⟩, ⟨r1, s1⟩, ⟨r2, s2⟩, ⟨r3, s3⟩, ⟨r4, s4⟩⟩, T2⟩ := T1.put5 (i := j) (by rw [List.length_set]; exact hjl) ⟨x1, x2, x3, x4, x5⟩
        obtain ⟨⟨_, ⟨t0, u0⟩, ⟨t1, u1⟩, ⟨t2, u2⟩, ⟨t3, u3⟩, ⟨t4, u4⟩⟩, T3⟩ := ht.put5 hjl ⟨x1, x2, x3, x4, x5⟩
        obtain ⟨⟨_, ⟨v0, z0⟩, ⟨v1, z1⟩, ⟨v2, z2⟩, ⟨v3, z3⟩, ⟨v4, z4⟩⟩, T4⟩ := T3.put5 (i := k) (by rw [List.length_set]; exact hkl) ⟨y1, y2, y3, y4, y5⟩
        rw [hsw] at T2
        rw [hsw2] at T4
        have HT2 := Lib.hid T2; have HT4 := Lib.hid T4
        clear T1 T2 T3 T4 htd hx hy hsw hsw2
        clear ht hkl hjl hkj hE
        go_wp2_with fail
        go_region_law (fail)
        all_goals
          go_wp2_with fail
          go_roundw
          case rel => exact ⟨j, _, rfl, by have := HJK.out; omega, by have := HJK.out; omega, HSUB.out, HSTEP.out, by first | exact HT2.out.drew | exact HT4.out.drew⟩
          case measure => have := HJK.out; simp [intOf]; omega
      · have b1 : ¬ (k : Int) < (i : Int) - 1 := by omega
        have hki2 : i = k + 1 := by omega
        have hi := HI.out; have hj := HJ.out; have hs := HS.out
        rw [HMA.out] at hs
        have hsg : SegS (aheadO up) E a b := hsh.done (ahead_ord up) hs hak (by omega) (by
          rcases hi with e | e
          · exact Or.inl (by have := HMA.out; omega)
          · exact Or.inr (by rw [hki2] at e; exact e)) (by
          rcases hj with e | e
          · exact Or.inl (by omega)
          · exact Or.inr (by rw [hki2] at e; exact e))
        have HSG := Lib.hid hsg; have HSUB := Lib.hid hsub; have HT := Lib.hid ht
        clear hsg hsub ht hsh hi hj hs hE
        go_wp2_with fail
        (try simp only [Exit.inBlock, Exit.then])
        refine bodyPost_ret (results_none rfl _ _ _) rfl ?_
        exact ⟨rfl, E, HSUB.out, HSG.out, HT.out⟩

set_option maxRecDepth 100000 in
set_option maxHeartbeats 4000000 in
theorem sym_right {F0 : Nat → Prop} {w0 w : World} {g n cap : Nat} {D : Ords} {R : HP} [hR : Stable R] {qb : Nat} {C : Array Value} {ts : TypeId} {up : Bool} (a m b : Nat) (hC : C[0]? = some (.bool up)) (h : Turns F0 w0 w (star (RowN 28 5 (.slice (some ⟨g, 0, none⟩) n cap) n (cellsO D)) (star (Blk qb C ts) R))) (hD : D.length = n) (hn : n ≤ 1000000) (hb : b ≤ n) (hma : a + 1 < m) (hmb : b = m + 1) (hs : SegS (aheadO up) D a m) :
    Calls Try.prog 41 #[.slice (some ⟨g, 0, none⟩) n cap, .int .i64 a, .int .i64 m, .int .i64 b, (.func (.func 28) #[.pointer (some ⟨qb, 0, none⟩)] #[])] w fun e w' => e = .returned (.tuple #[]) ∧ ∃ E, SubR D E a b ∧ SegS (aheadO up) E a b ∧ Turns F0 w0 w' (star (RowN 28 5 (.slice (some ⟨g, 0, none⟩) n cap) n (cellsO E)) (star (Blk qb C ts) R)) := by
  have H := Lib.hid h
  have HD := Lib.hid hD
  have HB := Lib.hid hb
  have HC := Lib.hid hC
  have HS := Lib.hid hs
  have HMB := Lib.hid hmb
  have HMA := Lib.hid hma
  have ca : (((m : Int) - (a : Int)) == 1) = false := by simp; omega
  have cb : ((b : Int) - (m : Int)) = 1 := by omega
  have cw : IntKind.i64.wrap 1 = 1 := by decide
  have cv : IntKind.i64.wrap ((m : Int) - (a : Int)) = (m : Int) - (a : Int) := IntWalk.i64_in _ (by omega)
  have hmn : m < n := by omega
  clear h hD hC hs hmb
  go_enter Try.func41, Try.ntmps41
  go_upto_block 4 with fail
  go_cut [14] (fun iv wx => ∃ i : Nat, iv = .int .i64 i ∧ a ≤ i ∧ i ≤ m ∧ (i = a ∨ aheadO up (atL D m) (atL D (i - 1)) = false) ∧ (i = m ∨ aheadO up (atL D m) (atL D i) = true) ∧ Turns F0 w0 wx (star (RowN 28 5 (.slice (some ⟨g, 0, none⟩) n cap) n (cellsO D)) (star (Blk qb C ts) R)))
  case first =>
    go_wp2_with fail
    go_loopw [14, 15] (fun iv jv wr => ∃ i j : Nat, iv = .int .i64 i ∧ jv = .int .i64 j ∧ a ≤ i ∧ i ≤ j ∧ j ≤ m ∧ (i = a ∨ aheadO up (atL D m) (atL D (i - 1)) = false) ∧ (j = m ∨ aheadO up (atL D m) (atL D j) = true) ∧ Turns F0 w0 wr (star (RowN 28 5 (.slice (some ⟨g, 0, none⟩) n cap) n (cellsO D)) (star (Blk qb C ts) R))) (fun iv jv _ => (intOf jv).toNat - (intOf iv).toNat)
    case atStart => exact ⟨a, m, rfl, rfl, Nat.le_refl _, by omega, Nat.le_refl _, Or.inl rfl, Or.inl rfl, H.out⟩
    case round =>
      obtain ⟨i, j, rfl, rfl, hmi, hij, hjb, h1, h2, ht⟩ := hrel
      clear H ca cb cw cv
      by_cases hlt : i < j
      · have b1 : (i : Int) < (j : Int) := by omega
        have c1 : IntKind.i64.wrap ((i : Int) + (j : Int)) = (i : Int) + (j : Int) := IntWalk.i64_in _ (by omega)
        obtain ⟨h, hh⟩ : ∃ h, (i + j) / 2 = h := ⟨_, rfl⟩
        have c2 : ((i : Int) + (j : Int)) / 2 = (h : Int) := by omega
        have c3 : IntKind.i64.wrap ((h : Int) + 1) = (h : Int) + 1 := IntWalk.i64_in _ (by omega)
        have hih : i ≤ h := by omega
        have hhj : h < j := by omega
        have HIH := Lib.hid hih; have HHJ := Lib.hid hhj
        have i1 : (h : Int) < (n : Int) := by omega
        have i2 : (m : Int) < (n : Int) := by omega
        have HI := Lib.hid h1; have HJ := Lib.hid h2
        clear h1 h2 hh
        have hfl : m < D.length := by rw [HD.out]; omega
        have hsl : h < D.length := by rw [HD.out]; omega
        obtain ⟨⟨x1, x2, x3, x4, x5⟩, hx⟩ : ∃ x, D[m] = x := ⟨_, rfl⟩
        obtain ⟨⟨y1, y2, y3, y4, y5⟩, hy⟩ : ∃ y, D[h] = y := ⟨_, rfl⟩
        have HF := Lib.hid (fun (w' : World) (h : Turns F0 w0 w' (star (RowN 28 5 (.slice (some ⟨g, 0, none⟩) n cap) n (cellsO D)) (star (Blk qb C ts) R))) => two_cells hfl hsl hx hy h)
        simp only at HF
        have K := compare_turns ⟨x1, x2, x3, x4, x5⟩ ⟨y1, y2, y3, y4, y5⟩ HC.out ht.drew
        obtain ⟨av, hav⟩ : ∃ v, aheadO up ⟨x1, x2, x3, x4, x5⟩ ⟨y1, y2, y3, y4, y5⟩ = v := ⟨_, rfl⟩
        rw [hav] at K
        unfold OrdV.val at K
        have HK := Lib.hid K
        have e0 := HF.out _ ht.drew
        have hav2 : aheadO up (atL D m) (atL D h) = av := by rw [atL_eq hfl, atL_eq hsl, hx, hy, hav]
        have HAV := Lib.hid hav2; have HT := Lib.hid ht
        clear ht hx hy K hav hav2 hfl hsl
        go_upto_region 17 with fail
        go_region_held3 (fun w' : World => (w'.cell? ⟨g, m * 5, none⟩ = some (.int .i64 x1) ∧ w'.cell? ⟨g, m * 5 + 1, none⟩ = some (.int .i64 x2) ∧ w'.cell? ⟨g, m * 5 + 2, none⟩ = some (.bool x3) ∧ w'.cell? ⟨g, m * 5 + 3, none⟩ = some (.int .u64 x4) ∧ w'.cell? ⟨g, m * 5 + 4, none⟩ = some (.int .u64 x5) ∧ w'.cell? ⟨g, h * 5, none⟩ = some (.int .i64 y1) ∧ w'.cell? ⟨g, h * 5 + 1, none⟩ = some (.int .i64 y2) ∧ w'.cell? ⟨g, h * 5 + 2, none⟩ = some (.bool y3) ∧ w'.cell? ⟨g, h * 5 + 3, none⟩ = some (.int .u64 y4) ∧ w'.cell? ⟨g, h * 5 + 4, none⟩ = some (.int .u64 y5))) (first | exact e1 | exact e0) (first
          | (go_at_call 28; refine HK.out.mono ?_; rintro e w10 ⟨c, rfl, hc, ht10⟩; have e1 := HF.out _ ht10; have H10 := Lib.hid ht10; clear ht10))
        all_goals
          rcases av with _ | _
          · go_wp2_with fail
            go_roundw
            case rel => exact ⟨h + 1, j, by first | rfl | simp, rfl, by have := HIH.out; omega, HHJ.out, hjb, Or.inr HAV.out, HJ.out, H10.out⟩
            case measure => have := HHJ.out; have := HIH.out; simp [intOf]; omega
          · go_wp2_with fail
            go_roundw
            case rel => exact ⟨i, h, rfl, rfl, hmi, HIH.out, by have := HHJ.out; omega, HI.out, Or.inr HAV.out, H10.out⟩
            case measure => have := HHJ.out; have := HIH.out; simp [intOf]; omega
      · have b1 : ¬ (i : Int) < (j : Int) := by omega
        obtain rfl : i = j := by omega
        have HT := Lib.hid ht; have HI := Lib.hid h1; have HJ := Lib.hid h2
        clear ht h1 h2
        go_wp2_with fail
        go_meet
        exact ⟨i, rfl, hmi, hjb, HI.out, HJ.out, HT.out⟩
  case rest =>
    obtain ⟨i, rfl, hmi, hib, h1, h2, ht⟩ := hcut
    have HI := Lib.hid h1; have HJ := Lib.hid h2; have HT := Lib.hid ht
    clear h1 h2 ht H ca cb cw cv
    go_wp2_with fail
    go_loopw [17] (fun kv wr => ∃ (k : Nat) (E : Ords), kv = .int .i64 k ∧ i ≤ k ∧ k ≤ m ∧ SubR D E a b ∧ ShR D E m k ∧ Turns F0 w0 wr (star (RowN 28 5 (.slice (some ⟨g, 0, none⟩) n cap) n (cellsO E)) (star (Blk qb C ts) R))) (fun kv _ => (intOf kv).toNat)
    case atStart => exact ⟨m, D, rfl, hib, Nat.le_refl _, SubR.refl _ _ _, ShR.start D m, HT.out⟩
    case round =>
      obtain ⟨k, E, rfl, hak, hki, hsub, hsh, ht⟩ := hrel
      clear HT
      have hE : E.length = n := by rw [hsub.length, HD.out]
      by_cases hlt : i < k
      · obtain ⟨j, hj⟩ : ∃ j, k = j + 1 := ⟨k - 1, by omega⟩
        have b1 : (i : Int) < (k : Int) := by omega
        have c1 : ((k : Int) - 1) = (j : Int) := by omega
        have c2 : IntKind.i64.wrap (j : Int) = (j : Int) := IntWalk.i64_in _ (by omega)
        have hkl : k < E.length := by omega
        have hjl : j < E.length := by omega
        have hkj : k ≠ j := by omega
        have i1 : (k : Int) < (n : Int) := by omega
        have i2 : (j : Int) < (n : Int) := by omega
        have hst := hsh.step hki hkl (by omega)
        rw [show k - 1 = j by omega] at hst
        have HSTEP := Lib.hid hst
        have HSUB := Lib.hid (hsub.trans (SubR.swap E (a := a) (b := b) (i := k) (j := j) (by omega) (by have := HMB.out; omega) (by omega) (by have := HMB.out; omega) (by rw [hE]; exact HB.out)))
        have HJK := Lib.hid hj
        clear hst hsub hsh hj
        have htd := ht.drew
        obtain ⟨g1, e1, _, d0, d1, d2, d3, d4⟩ := row_ord htd.rowN hkl
        injection e1 with e1
        injection e1 with e1 _ _
        subst e1
        obtain ⟨g1, e1, _, f0, f1, f2, f3, f4⟩ := row_ord htd.rowN hjl
        injection e1 with e1
        injection e1 with e1 _ _
        subst e1
        obtain ⟨⟨x1, x2, x3, x4, x5⟩, hx⟩ : ∃ x, E[k] = x := ⟨_, rfl⟩
        obtain ⟨⟨y1, y2, y3, y4, y5⟩, hy⟩ : ∃ y, E[j] = y := ⟨_, rfl⟩
        rw [hx] at d0 d1 d2 d3 d4
        rw [hy] at f0 f1 f2 f3 f4
        have hsw : (E.set k ⟨y1, y2, y3, y4, y5⟩).set j ⟨x1, x2, x3, x4, x5⟩ = swapL E k j := by unfold swapL; rw [atL_eq hkl, atL_eq hjl, hx, hy]
        have hsw2 : (E.set j ⟨x1, x2, x3, x4, x5⟩).set k ⟨y1, y2, y3, y4, y5⟩ = swapL E k j := by rw [← hsw]; exact List.set_comm _ _ (fun h => hkj h.symm)
        obtain ⟨⟨_, ⟨p0, q0⟩, ⟨p1, q1⟩, ⟨p2, q2⟩, ⟨p3, q3⟩, ⟨p4, q4⟩⟩, T1⟩ := ht.put5 hkl ⟨y1, y2, y3, y4, y5⟩
        obtain ⟨⟨_, ⟨r0, s0⟩, ⟨r1, s1⟩, ⟨r2, s2⟩, ⟨r3, s3⟩, ⟨r4, s4⟩⟩, T2⟩ := T1.put5 (i := j) (by rw [List.length_set]; exact hjl) ⟨x1, x2, x3, x4, x5⟩
        obtain ⟨⟨_, ⟨t0, u0⟩, ⟨t1, u1⟩, ⟨t2, u2⟩, ⟨t3, u3⟩, ⟨t4, u4⟩⟩, T3⟩ := ht.put5 hjl ⟨x1, x2, x3, x4, x5⟩
        obtain ⟨⟨_, ⟨v0, z0⟩, ⟨v1, z1⟩, ⟨v2, z2⟩, ⟨v3, z3⟩, ⟨v4, z4⟩⟩, T4⟩ := T3.put5 (i := k) (by rw [List.length_set]; exact hkl) ⟨y1, y2, y3, y4, y5⟩
        rw [hsw] at T2
        rw [hsw2] at T4
        have HT2 := Lib.hid T2; have HT4 := Lib.hid T4
        clear T1 T2 T3 T4 htd hx hy hsw hsw2
        clear ht hkl hjl hkj hE
        go_wp2_with fail
        go_region_law (fail)
        all_goals
          go_wp2_with fail
          go_roundw
          case rel => exact ⟨j, _, rfl, by have := HJK.out; omega, by have := HJK.out; omega, HSUB.out, HSTEP.out, by first | exact HT2.out.drew | exact HT4.out.drew⟩
          case measure => have := HJK.out; simp [intOf]; omega
      · have b1 : ¬ (i : Int) < (k : Int) := by omega
        obtain rfl : i = k := by omega
        have hsg : SegS (aheadO up) E a b := by
          rw [HMB.out]
          exact hsh.done (ahead_ord up) HS.out hmi hki HI.out HJ.out
        have HSG := Lib.hid hsg; have HSUB := Lib.hid hsub; have HT := Lib.hid ht
        clear hsg hsub ht hsh hE
        go_wp2_with fail
        (try simp only [Exit.inBlock, Exit.then])
        refine bodyPost_ret (results_none rfl _ _ _) rfl ?_
        exact ⟨rfl, E, HSUB.out, HSG.out, HT.out⟩
end Go.Proofs.Ytkbebllkjmccoaa
