/- The document's own accounts: Free, Put and Take. Conditions: they lie in memory. -/
import Derived.Test.YtnicfhafepiknaaAcctRef
namespace Go.Proofs.Ytnicfhafepiknaa
open Go.RowKit Go.WideShapes

theorem acc_cells {w : World} {s : Value} {X : Accts} (hs : w.ownsRow 0 73 2 s X.length (cellsA X)) {j : Nat} (hj : j < X.length) : ∃ g cap, s = .slice (some ⟨g, 0, none⟩) X.length cap ∧ w.cell? ⟨g, j * 2, none⟩ = some (.int .u64 X[j].1) ∧ w.cell? ⟨g, j * 2 + 1, none⟩ = some (.int .u64 X[j].2) ∧ (∀ i, w.frozen? ⟨g, i, none⟩ = false) := by
  obtain ⟨g, cap, rfl⟩ := ownN_shape hs (by omega)
  obtain ⟨g1, cap1, e1, h1⟩ := rowN_cell hs (cellsA_at hj).1
  obtain ⟨g2, cap2, e2, h2⟩ := rowN_cell hs (cellsA_at hj).2
  injection e1 with e1 _ _
  injection e1 with e1
  injection e1 with e1
  injection e2 with e2 _ _
  injection e2 with e2
  injection e2 with e2
  subst e1; subst e2
  exact ⟨g, cap, rfl, h1, h2, fun i => hs.frozenAt i⟩
theorem amt_nat {X : Accts} {j : Nat} (hj : j < X.length) : amt X (j : Int) 0 = X[j].1 ∧ amt X (j : Int) 1 = X[j].2 := by
  have e : X.getD j (0, 0) = X[j] := by rw [List.getD_eq_getElem?_getD, List.getElem?_eq_getElem hj]; rfl
  unfold amt side
  rw [Int.toNat_natCast, e]
  exact ⟨rfl, rfl⟩
theorem setA_nat {X : Accts} {j : Nat} (hj : j < X.length) (v : Int) : setA X (j : Int) 0 v = X.set j (v, X[j].2) ∧ setA X (j : Int) 1 v = X.set j (X[j].1, v) := by
  have e : X.getD j (0, 0) = X[j] := by rw [List.getD_eq_getElem?_getD, List.getElem?_eq_getElem hj]; rfl
  unfold setA withSide
  rw [Int.toNat_natCast, e]
  exact ⟨rfl, rfl⟩
section
variable {w : World} {b : Nat} {s : Value} {X : Accts} {F : Nat → Prop}
set_option maxRecDepth 100000 in
set_option maxHeartbeats 4000000 in
theorem rfree6_any (c t : Int) (h : AccAt b s X w F) :
    Calls Try.prog 21 #[.pointer (some ⟨b, 0, none⟩), .int .i64 c, .int .i64 t] w fun e w' => e = .returned (.int .u64 (freeA X c t)) ∧ w' = w := by
  have K := ris_any c t h
  have h0 := Turns.begin h
  obtain ⟨_, _, hc, _⟩ := Turns.blk h0
  have hs := h0.comm.rowN
  have c0 := hc 0 _ rfl
  unfold freeA
  by_cases hz : okE X c t = 0
  · rw [if_pos hz]
    rw [hz] at K
    obtain ⟨⟨g1, g2⟩, g3⟩ := okE_zero.1 hz
    obtain ⟨j, rfl⟩ : ∃ j : Nat, c = j := ⟨c.toNat, by omega⟩
    have hj : j < X.length := by omega
    obtain ⟨g, cap, rfl, d0, d1, _⟩ := acc_cells hs hj
    obtain ⟨a0, a1⟩ := amt_nat hj
    obtain ⟨n, hn⟩ : ∃ n, X.length = n := ⟨_, rfl⟩
    rw [hn] at c0 g2 hj
    have HK := Lib.hid K
    generalize X[j].1 = x at d0 a0
    generalize X[j].2 = y at d1 a1
    clear h h0 hc hs K hz hn
    rcases g3 with rfl | rfl
    · rw [a0]
      clear a0 a1
      go_enter Try.func21, Try.ntmps21
      go_wp2_with fail
      refine HK.out.mono ?_
      rintro e w2 ⟨rfl, rfl⟩
      go_wp2_with fail
      go_ret
      exact ⟨rfl, rfl⟩
    · rw [a1]
      clear a0 a1
      go_enter Try.func21, Try.ntmps21
      go_wp2_with fail
      refine HK.out.mono ?_
      rintro e w2 ⟨rfl, rfl⟩
      go_wp2_with fail
      go_ret
      exact ⟨rfl, rfl⟩
  · rw [if_neg hz]
    obtain ⟨z, hzz⟩ : ∃ z, okE X c t = z := ⟨_, rfl⟩
    rw [hzz] at K hz
    have b0 : (z == 0) = false := by rw [beq_eq_false_iff_ne]; exact hz
    have HK := Lib.hid K
    clear h h0 hc hs K hz hzz c0
    go_enter Try.func21, Try.ntmps21
    go_wp2_with fail
    refine HK.out.mono ?_
    rintro e w2 ⟨rfl, rfl⟩
    go_wp2_with fail
    go_ret
    exact ⟨rfl, rfl⟩

set_option maxRecDepth 100000 in
set_option maxHeartbeats 4000000 in
theorem rput6_any (c t n : Int) (h : AccAt b s X w F) (hg : GoodA X) (hn : U64 n) :
    Calls Try.prog 18 #[.pointer (some ⟨b, 0, none⟩), .int .i64 c, .int .i64 t, .int .u64 n] w fun e w' => e = .returned (.int .i64 (putE X c t n)) ∧ Turns F w w' (AccAt b s (putX X c t n)) := by
  have K := ris_any c t h
  have h0 := Turns.begin h
  have H0 := Lib.hid h0
  obtain ⟨_, _, hc, _⟩ := Turns.blk h0
  have hs := h0.comm.rowN
  have c0 := hc 0 _ rfl
  unfold putX putE
  by_cases hz : okE X c t = 0
  · simp only [if_pos hz]
    rw [hz] at K
    obtain ⟨⟨g1, g2⟩, g3⟩ := okE_zero.1 hz
    have KA := Lib.hid (radd6_any (w := w) (hg.at c t) hn)
    obtain ⟨j, rfl⟩ : ∃ j : Nat, c = j := ⟨c.toNat, by omega⟩
    have hj : j < X.length := by omega
    obtain ⟨g, cap, rfl, d0, d1, hf⟩ := acc_cells hs hj
    have f0 := hf (j * 2)
    have f1 := hf (j * 2 + 1)
    obtain ⟨a0, a1⟩ := amt_nat hj
    have s0 := fun v => (setA_nat hj v).1
    have s1 := fun v => (setA_nat hj v).2
    have HJ := Lib.hid hj; have S0 := Lib.hid s0; have S1 := Lib.hid s1
    have HK := Lib.hid K
    have hnn : Hid (∀ m, X.length = m → AccAt b (.slice (some ⟨g, 0, none⟩) m cap) X w F) := Lib.hid fun m e => by subst e; exact h
    obtain ⟨nx, hnx⟩ : ∃ m, X.length = m := ⟨_, rfl⟩
    rw [hnx] at c0 g2 hj
    have HNX := Lib.hid hnx
    obtain ⟨x, hx⟩ : ∃ x, amt X (j : Int) t = x := ⟨_, rfl⟩
    rw [hx] at KA ⊢
    by_cases hlt : x + n < 18446744073709551616
    · rw [if_neg (show ¬ 18446744073709551616 ≤ x + n by omega)]
      rw [if_pos hlt, decide_eq_true hlt] at KA
      simp only [if_true]
      have KA' := Lib.hid KA.out
      rcases g3 with rfl | rfl
      · rw [a0] at hx
        rw [hx] at d0
        have SS := Lib.hid (s0 (x + n))
        clear h h0 hc hs K hz hnx hlt hf hg hn KA s0 s1 a0 a1 hx S0 S1
        go_enter Try.func18, Try.ntmps18
        go_wp2_with fail
        refine HK.out.mono ?_
        rintro e w2 ⟨rfl, rfl⟩
        go_wp2_with fail
        refine KA'.out.mono ?_
        rintro e w3 ⟨rfl, rfl⟩
        go_wp2_with fail
        go_ret
        refine ⟨rfl, ?_⟩
        rw [SS.out]
        have h2 := (Turns.comm H0.out).rowN_set (j * 2) (.int .u64 (x + n))
        rw [(cellsA_set HJ.out (x + n)).1] at h2
        have h3 := h2.comm
        unfold AccAt
        rw [List.length_set]
        exact h3
      · rw [a1] at hx
        rw [hx] at d1
        have SS := Lib.hid (s1 (x + n))
        clear h h0 hc hs K hz hnx hlt hf hg hn KA s0 s1 a0 a1 hx S0 S1
        go_enter Try.func18, Try.ntmps18
        go_wp2_with fail
        refine HK.out.mono ?_
        rintro e w2 ⟨rfl, rfl⟩
        go_wp2_with fail
        refine KA'.out.mono ?_
        rintro e w3 ⟨rfl, rfl⟩
        go_wp2_with fail
        go_ret
        refine ⟨rfl, ?_⟩
        rw [SS.out]
        have h2 := (Turns.comm H0.out).rowN_set (j * 2 + 1) (.int .u64 (x + n))
        rw [(cellsA_set HJ.out (x + n)).2] at h2
        have h3 := h2.comm
        unfold AccAt
        rw [List.length_set]
        exact h3
    · rw [if_pos (show 18446744073709551616 ≤ x + n by omega)]
      rw [if_neg hlt, decide_eq_false hlt] at KA
      rw [if_neg (by decide)]
      have KA' := Lib.hid KA.out
      rcases g3 with rfl | rfl
      · rw [a0] at hx
        rw [hx] at d0
        clear h h0 hc hs K hz hnx hlt hf hg hn KA s0 s1 a0 a1 hx S0 S1
        go_enter Try.func18, Try.ntmps18
        go_wp2_with fail
        refine HK.out.mono ?_
        rintro e w2 ⟨rfl, rfl⟩
        go_wp2_with fail
        refine KA'.out.mono ?_
        rintro e w3 ⟨rfl, rfl⟩
        go_wp2_with fail
        go_ret
        exact ⟨rfl, H0.out⟩
      · rw [a1] at hx
        rw [hx] at d1
        clear h h0 hc hs K hz hnx hlt hf hg hn KA s0 s1 a0 a1 hx S0 S1
        go_enter Try.func18, Try.ntmps18
        go_wp2_with fail
        refine HK.out.mono ?_
        rintro e w2 ⟨rfl, rfl⟩
        go_wp2_with fail
        refine KA'.out.mono ?_
        rintro e w3 ⟨rfl, rfl⟩
        go_wp2_with fail
        go_ret
        exact ⟨rfl, H0.out⟩
  · have hp : ¬ (if okE X c t = 0 then if 18446744073709551616 ≤ amt X c t + n then 5 else 0 else okE X c t) = 0 := by rw [if_neg hz]; exact hz
    rw [if_neg hp, if_neg hz]
    obtain ⟨z, hzz⟩ : ∃ z, okE X c t = z := ⟨_, rfl⟩
    rw [hzz] at K hz ⊢
    have b0 : (z == 0) = false := by rw [beq_eq_false_iff_ne]; exact hz
    have HK := Lib.hid K
    clear h h0 hc hs K hz hzz c0 hp
    go_enter Try.func18, Try.ntmps18
    go_wp2_with fail
    refine HK.out.mono ?_
    rintro e w2 ⟨rfl, rfl⟩
    go_wp2_with fail
    go_ret
    exact ⟨rfl, H0.out⟩

set_option maxRecDepth 100000 in
set_option maxHeartbeats 4000000 in
theorem rtake6_any (c t n : Int) (h : AccAt b s X w F) (hg : GoodA X) (hn : U64 n) :
    Calls Try.prog 19 #[.pointer (some ⟨b, 0, none⟩), .int .i64 c, .int .i64 t, .int .u64 n] w fun e w' => e = .returned (.int .i64 (takeE X c t n)) ∧ Turns F w w' (AccAt b s (takeX X c t n)) := by
  have K := ris_any c t h
  have h0 := Turns.begin h
  have H0 := Lib.hid h0
  obtain ⟨_, _, hc, _⟩ := Turns.blk h0
  have hs := h0.comm.rowN
  have c0 := hc 0 _ rfl
  unfold takeX takeE
  by_cases hz : okE X c t = 0
  · simp only [if_pos hz]
    rw [hz] at K
    obtain ⟨⟨g1, g2⟩, g3⟩ := okE_zero.1 hz
    have KA := Lib.hid (rsub6_any (w := w) (hg.at c t) hn)
    obtain ⟨j, rfl⟩ : ∃ j : Nat, c = j := ⟨c.toNat, by omega⟩
    have hj : j < X.length := by omega
    obtain ⟨g, cap, rfl, d0, d1, hf⟩ := acc_cells hs hj
    have f0 := hf (j * 2)
    have f1 := hf (j * 2 + 1)
    obtain ⟨a0, a1⟩ := amt_nat hj
    have s0 := fun v => (setA_nat hj v).1
    have s1 := fun v => (setA_nat hj v).2
    have HJ := Lib.hid hj; have S0 := Lib.hid s0; have S1 := Lib.hid s1
    have HK := Lib.hid K
    have hnn : Hid (∀ m, X.length = m → AccAt b (.slice (some ⟨g, 0, none⟩) m cap) X w F) := Lib.hid fun m e => by subst e; exact h
    obtain ⟨nx, hnx⟩ : ∃ m, X.length = m := ⟨_, rfl⟩
    rw [hnx] at c0 g2 hj
    have HNX := Lib.hid hnx
    obtain ⟨x, hx⟩ : ∃ x, amt X (j : Int) t = x := ⟨_, rfl⟩
    rw [hx] at KA ⊢
    by_cases hlt : n ≤ x
    · rw [if_neg (show ¬ x < n by omega)]
      rw [if_neg (show ¬ x < n by omega), decide_eq_true hlt] at KA
      simp only [if_true]
      have KA' := Lib.hid KA.out
      rcases g3 with rfl | rfl
      · rw [a0] at hx
        rw [hx] at d0
        have SS := Lib.hid (s0 (x - n))
        clear h h0 hc hs K hz hnx hlt hf hg hn KA s0 s1 a0 a1 hx S0 S1
        go_enter Try.func19, Try.ntmps19
        go_wp2_with fail
        refine HK.out.mono ?_
        rintro e w2 ⟨rfl, rfl⟩
        go_wp2_with fail
        refine KA'.out.mono ?_
        rintro e w3 ⟨rfl, rfl⟩
        go_wp2_with fail
        go_ret
        refine ⟨rfl, ?_⟩
        rw [SS.out]
        have h2 := (Turns.comm H0.out).rowN_set (j * 2) (.int .u64 (x - n))
        rw [(cellsA_set HJ.out (x - n)).1] at h2
        have h3 := h2.comm
        unfold AccAt
        rw [List.length_set]
        exact h3
      · rw [a1] at hx
        rw [hx] at d1
        have SS := Lib.hid (s1 (x - n))
        clear h h0 hc hs K hz hnx hlt hf hg hn KA s0 s1 a0 a1 hx S0 S1
        go_enter Try.func19, Try.ntmps19
        go_wp2_with fail
        refine HK.out.mono ?_
        rintro e w2 ⟨rfl, rfl⟩
        go_wp2_with fail
        refine KA'.out.mono ?_
        rintro e w3 ⟨rfl, rfl⟩
        go_wp2_with fail
        go_ret
        refine ⟨rfl, ?_⟩
        rw [SS.out]
        have h2 := (Turns.comm H0.out).rowN_set (j * 2 + 1) (.int .u64 (x - n))
        rw [(cellsA_set HJ.out (x - n)).2] at h2
        have h3 := h2.comm
        unfold AccAt
        rw [List.length_set]
        exact h3
    · rw [if_pos (show x < n by omega)]
      rw [if_pos (show x < n by omega), decide_eq_false hlt] at KA
      rw [if_neg (by decide)]
      have KA' := Lib.hid KA.out
      rcases g3 with rfl | rfl
      · rw [a0] at hx
        rw [hx] at d0
        clear h h0 hc hs K hz hnx hlt hf hg hn KA s0 s1 a0 a1 hx S0 S1
        go_enter Try.func19, Try.ntmps19
        go_wp2_with fail
        refine HK.out.mono ?_
        rintro e w2 ⟨rfl, rfl⟩
        go_wp2_with fail
        refine KA'.out.mono ?_
        rintro e w3 ⟨rfl, rfl⟩
        go_wp2_with fail
        go_ret
        exact ⟨rfl, H0.out⟩
      · rw [a1] at hx
        rw [hx] at d1
        clear h h0 hc hs K hz hnx hlt hf hg hn KA s0 s1 a0 a1 hx S0 S1
        go_enter Try.func19, Try.ntmps19
        go_wp2_with fail
        refine HK.out.mono ?_
        rintro e w2 ⟨rfl, rfl⟩
        go_wp2_with fail
        refine KA'.out.mono ?_
        rintro e w3 ⟨rfl, rfl⟩
        go_wp2_with fail
        go_ret
        exact ⟨rfl, H0.out⟩
  · have hp : ¬ (if okE X c t = 0 then if amt X c t < n then 4 else 0 else okE X c t) = 0 := by rw [if_neg hz]; exact hz
    rw [if_neg hp, if_neg hz]
    obtain ⟨z, hzz⟩ : ∃ z, okE X c t = z := ⟨_, rfl⟩
    rw [hzz] at K hz ⊢
    have b0 : (z == 0) = false := by rw [beq_eq_false_iff_ne]; exact hz
    have HK := Lib.hid K
    clear h h0 hc hs K hz hzz c0 hp
    go_enter Try.func19, Try.ntmps19
    go_wp2_with fail
    refine HK.out.mono ?_
    rintro e w2 ⟨rfl, rfl⟩
    go_wp2_with fail
    go_ret
    exact ⟨rfl, H0.out⟩
end
end Go.Proofs.Ytnicfhafepiknaa
