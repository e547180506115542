/- The document's own accounts: Sum. Conditions: they lie in memory. -/
import Derived.Test.YtnicfhafepiknaaAcctRef3
namespace Go.Proofs.Ytnicfhafepiknaa
open Go.RowKit Go.WideShapes

theorem u64_info : (Try.prog.info? 26).map (fun i => (i.zero, i.size, i.bytes)) = some (some (.int .u64 0), 1, 8) := by kernel_rfl
def cellsU (l : List Int) : List Value := l.map fun n => .int .u64 n
theorem cellsU_length (l : List Int) : (cellsU l).length = l.length := by simp [cellsU]
theorem cellsU_append (a b : List Int) : cellsU (a ++ b) = cellsU a ++ cellsU b := by simp [cellsU]
theorem cellsU_at {l : List Int} {j : Nat} (h : j < l.length) : (cellsU l)[j]'(by rw [cellsU_length]; exact h) = .int .u64 l[j] := by simp [cellsU]
theorem nums_own {w : World} {B n : Nat} {e : TypeId} {x : Value} {l : List Int} (h : w.ownsRow B e 1 x n (cellsU l)) (hu : ∀ y ∈ l, U64 y) : ∃ A cap, x = .slice A n cap ∧ l.length = n ∧ NumsIn w A l := by
  have hx : l.length = n := by have := h.1; rw [cellsU_length] at this; omega
  rcases h.2 with ⟨rfl, rfl⟩ | ⟨g, cap, cur, rfl, _⟩
  · exact ⟨none, 0, rfl, hx, Or.inl (List.eq_nil_of_length_eq_zero hx)⟩
  · refine ⟨_, cap, rfl, hx, Or.inr ⟨g, 0, rfl, (h.lt g rfl).2, fun i hi => ⟨?_, hu _ (List.getElem_mem hi)⟩⟩⟩
    rw [Nat.zero_add, h.cellAt i (by omega), List.getElem?_eq_getElem (by rw [cellsU_length]; exact hi), cellsU_at hi]
theorem wpList_pushU {w : World} {ops : Array Oper} {rest : List Oper} {o : Oper} {a : Act} {Q : Exit → Act → World → Prop} (hgd : o.guard = none) (s x : Operand)
    (ho : o.op = .call { callee := .builtin .append, args := #[s, x], argTypes := #[33, 33] }) (B : Nat) (v : Value) (l : List Int) (n : Int) (g : Nat) (hs : a.eval s = v) (hx : a.eval x = .slice (some ⟨g, 0, none⟩) 1 1) (hown : w.ownsRow B 26 1 v l.length (cellsU l))
    (hc : w.cell? ⟨g, 0, none⟩ = some (.int .u64 n)) (hl : l.length ≤ 10000000) (hB : B ≤ w.heap.size)
    (h : ∀ v' w', w'.ownsRow B 26 1 v' (l ++ [n]).length (cellsU (l ++ [n])) → Below B w w' → wpList Try.prog ops Q rest (a.put o.dst v') w') : wpList Try.prog ops Q (o :: rest) a w := by
  obtain ⟨i0, hi, hz0, hz1, hz2⟩ := info_parts u64_info
  refine wpList_append_here hgd s x 33 ho B 26 i0 (.int .u64 0) 1 8 Try.underlying33 hi hz0 hz1 hz2 rfl (by decide) v l.length (cellsU l) hs hown ⟨g, 0, none⟩ 1 1 [.int .u64 n] hx rfl (fun j u hj => ?_) (by intro u hu; simp at hu; subst hu; rfl) (by unfold maxLen; omega) (by omega) hB fun v' w' h1 h2 _ => ?_
  · match j, hj with
    | 0, hj => simp at hj; subst hj; simpa [Addr.add] using hc
  · refine h v' w' ?_ ((Below.refl B w).grown h2 hB fun k hk => (hown.lt k hk).1)
    rw [cellsU_append, List.length_append]
    exact h1
theorem new_cellU (w : World) (n : Int) (t : TypeId) : (w.alloc (.cells #[.int .u64 n] t)).cell? ⟨w.heap.size, 0, none⟩ = some (.int .u64 n) := by simp

section
variable {w : World} {b : Nat} {s : Value} {X : Accts} {F : Nat → Prop}
set_option maxRecDepth 100000 in
set_option maxHeartbeats 4000000 in
theorem rsum6_any (t : Int) (h : AccAt b s X w F) (hg : GoodA X) (hl : X.length ≤ 100000) :
    Calls Try.prog 20 #[.pointer (some ⟨b, 0, none⟩), .int .i64 t] w fun e w' => e = .returned (.tuple #[.int .u64 (sumV X t), .bool (sumOk X t)]) ∧ Below w.heap.size w w' := by
  have h0 := Turns.begin h
  obtain ⟨_, hb, hc, _⟩ := Turns.blk h0
  have hs := h0.comm.rowN
  have c0 := hc 0 _ rfl
  by_cases ht : t = 0 ∨ t = 1
  · obtain ⟨As, cs, rfl⟩ := rowN_form hs
    have hsv : sumOk X t = decide (total X t < 18446744073709551616) ∧ sumV X t = if total X t < 18446744073709551616 then total X t else 0 := by
      have e : sumOk X t = decide (total X t < 18446744073709551616) := by rw [sumOk, decide_eq_decide]; exact ⟨fun h => h.2, fun h => ⟨ht, h⟩⟩
      refine ⟨e, ?_⟩
      rw [sumV, e]
      by_cases h : total X t < 18446744073709551616
      · rw [if_pos h, if_pos (decide_eq_true h)]
      · rw [if_neg h, if_neg (by rw [decide_eq_false h]; decide)]
    rw [hsv.1, hsv.2]
    obtain ⟨rv, hrv⟩ : ∃ r, (if total X t < 18446744073709551616 then total X t else 0) = r := ⟨_, rfl⟩
    obtain ⟨bv, hbv⟩ : ∃ r, decide (total X t < 18446744073709551616) = r := ⟨_, rfl⟩
    rw [hrv, hbv]
    have HRV := Lib.hid hrv; have HBV := Lib.hid hbv
    obtain ⟨n, hn⟩ : ∃ n, X.length = n := ⟨_, rfl⟩
    rw [hn] at c0 hl
    have HS := Lib.hid hs; have HN := Lib.hid hn; have HG := Lib.hid hg
    have hu : ∀ y ∈ X.map (side t), U64 y := by
      intro y hy
      obtain ⟨p, hp, rfl⟩ := List.mem_map.1 hy
      have := hg p hp
      unfold side
      split
      · exact this.1
      · exact this.2
    have HU := Lib.hid hu
    have b1 : decide (t < 0) = false := decide_eq_false (by omega)
    have b2 : decide (1 < t) = false := decide_eq_false (by omega)
    clear h h0 hc hs hn hg hu hsv hrv hbv
    go_enter Try.func20, Try.ntmps20
    go_wp2_with fail
    go_loopw [6, 7] (fun v i wr => ∃ k : Nat, k ≤ n ∧ i = .int .i64 k ∧ wr.ownsRow w.heap.size 26 1 v ((X.take k).map (side t)).length (cellsU ((X.take k).map (side t))) ∧ Below w.heap.size w wr) (fun _ i _ => n - (intOf i).toNat)
    case atStart => exact ⟨0, by omega, rfl, World.ownsRow_nil _ _ _ _, Below.refl _ _⟩
    case round =>
      obtain ⟨k, hk, rfl, hown, hbl⟩ := hrel
      have HO := Lib.hid hown; have HB := Lib.hid hbl
      obtain ⟨Ao, co, rfl⟩ := row_form hown
      have cw := (hbl.cell (p := ⟨b, 0, none⟩) hb).trans c0
      have hln : ((X.take k).map (side t)).length = k := by rw [List.length_map, List.length_take, HN.out]; omega
      clear hown hbl
      by_cases hk' : k < n
      · have hkX : k < X.length := by rw [HN.out]; exact hk'
        obtain ⟨g, cap, e, h1, h2, _⟩ := acc_cells HS.out hkX
        injection e with e1 _ e2
        subst e1; subst e2
        have htk : (X.take (k + 1)).map (side t) = (X.take k).map (side t) ++ [side t X[k]] := by rw [List.take_succ_eq_append_getElem hkX, List.map_append]; rfl
        have g1 := (HB.out.cell (p := ⟨g, k * 2, none⟩) (World.block_lt_of_cell? w _ h1)).trans h1
        have g2 := (HB.out.cell (p := ⟨g, k * 2 + 1, none⟩) (World.block_lt_of_cell? w _ h2)).trans h2
        obtain ⟨y, hy⟩ : ∃ y, side t X[k] = y := ⟨_, rfl⟩
        rw [hy] at htk
        have HT := Lib.hid htk; have HLN := Lib.hid hln
        obtain ⟨out, hout⟩ : ∃ o, (X.take k).map (side t) = o := ⟨_, rfl⟩
        rw [hout] at HO HT HLN ⊢
        have hsz := HB.out.size
        clear h1 h2 htk hln hout
        rcases ht with rfl | rfl
        · have e0 : X[k].1 = y := hy
          rw [e0] at g1
          clear hy e0 g2
          go_wp2_with (at_builtin; refine wpList_pushU rfl (.tmp 23) (.tmp 33) rfl w.heap.size (.slice Ao out.length co) out y wr.heap.size rfl rfl (HO.out.alloc _) (new_cellU wr y _) (by have := HLN.out; omega) (by simp; omega) ?_; intro v1 w1 hown1 hbl1; have H1 := Lib.hid hown1; have HB1 := Lib.hid ((HB.out.alloc hsz (.cells #[.int .u64 y] 26)).trans hbl1); clear hown1 hbl1)
          go_roundw
          case rel => exact ⟨k + 1, hk', by go_num, by rw [HT.out]; exact H1.out, HB1.out⟩
          case measure => simp [intOf]; omega
        · have e0 : X[k].2 = y := hy
          rw [e0] at g2
          clear hy e0 g1
          go_wp2_with (at_builtin; refine wpList_pushU rfl (.tmp 23) (.tmp 33) rfl w.heap.size (.slice Ao out.length co) out y wr.heap.size rfl rfl (HO.out.alloc _) (new_cellU wr y _) (by have := HLN.out; omega) (by simp; omega) ?_; intro v1 w1 hown1 hbl1; have H1 := Lib.hid hown1; have HB1 := Lib.hid ((HB.out.alloc hsz (.cells #[.int .u64 y] 26)).trans hbl1); clear hown1 hbl1)
          go_roundw
          case rel => exact ⟨k + 1, hk', by go_num, by rw [HT.out]; exact H1.out, HB1.out⟩
          case measure => simp [intOf]; omega
      · obtain rfl : k = n := by omega
        have hT : X.take k = X := List.take_of_length_le (by rw [HN.out]; exact Nat.le_refl _)
        rw [hT] at HO ⊢
        obtain ⟨A9, cap9, e9, hl9, hi9⟩ := nums_own HO.out HU.out
        injection e9 with e9 _ e9'
        subst e9; subst e9'
        have K := rsum1_any (cap := co) hi9 HU.out (by rw [List.length_map, HN.out]; omega)
        have e : (X.map (side t)).sum = total X t := rfl
        rw [e] at K
        rw [HRV.out, HBV.out] at K
        obtain ⟨out, hout⟩ : ∃ o, X.map (side t) = o := ⟨_, rfl⟩
        rw [hout] at K HO ⊢
        obtain ⟨n1, hn1⟩ : ∃ n1, out.length = n1 := ⟨_, rfl⟩
        rw [hn1] at K ⊢
        have HK := Lib.hid K
        clear K hi9 hl9 e hk' hk hln hT hout hn1 HU HG HO HRV HBV
        go_wp2_with (refine HK.out.mono ?_; rintro e w2 ⟨rfl, rfl⟩)
        go_ret2
        exact ⟨rfl, HB.out⟩
  · have e1 : sumOk X t = false := decide_eq_false (fun h => ht h.1)
    have e2 : sumV X t = 0 := by rw [sumV, e1]; rfl
    rw [e1, e2]
    have hb' : decide (t < 0) = true ∨ (decide (t < 0) = false ∧ decide (1 < t) = true) := by
      rcases Int.lt_or_le t 0 with h | h
      · exact Or.inl (decide_eq_true h)
      · exact Or.inr ⟨decide_eq_false (by omega), decide_eq_true (by omega)⟩
    clear h h0 hc hs ht e1 e2
    rcases hb' with b1 | ⟨b1, b2⟩
    all_goals
      go_enter Try.func20, Try.ntmps20
      go_wp2_with fail
      go_ret2
      exact ⟨rfl, Below.refl _ _⟩
end
end Go.Proofs.Ytnicfhafepiknaa
