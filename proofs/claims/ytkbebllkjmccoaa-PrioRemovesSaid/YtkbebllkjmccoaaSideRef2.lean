/- The document's own SameOrders: whether two rows of orders are alike. Conditions: they lie in memory; good numbers. -/
import Derived.Test.YtkbebllkjmccoaaSideRef
namespace Go.Proofs.Ytkbebllkjmccoaa
open Go.RowKit Go.WideShapes

/-- A row of orders lies in memory. -/
def OrdsIn (w : World) (A : Option Addr) (L : Ords) : Prop := L = [] ∨ ∃ g off, A = some ⟨g, off, none⟩ ∧ g < w.heap.size ∧ ∀ i (h : i < L.length),
  w.cell? ⟨g, off + i * 5, none⟩ = some (.int .i64 L[i].id) ∧ w.cell? ⟨g, off + i * 5 + 1, none⟩ = some (.int .i64 L[i].cl) ∧ w.cell? ⟨g, off + i * 5 + 2, none⟩ = some (.bool L[i].buy) ∧
    w.cell? ⟨g, off + i * 5 + 3, none⟩ = some (.int .u64 L[i].price) ∧ w.cell? ⟨g, off + i * 5 + 4, none⟩ = some (.int .u64 L[i].qty)
theorem OrdsIn.below {w w' : World} {A : Option Addr} {L : Ords} (h : OrdsIn w A L) (hb : Below w.heap.size w w') : OrdsIn w' A L := by
  rcases h with h | ⟨g, off, hA, hlt, hc⟩
  · exact Or.inl h
  · exact Or.inr ⟨g, off, hA, Nat.lt_of_lt_of_le hlt hb.size, fun i hi => by
      obtain ⟨c0, c1, c2, c3, c4⟩ := hc i hi
      exact ⟨(hb.cell (p := ⟨g, off + i * 5, none⟩) hlt).trans c0, (hb.cell (p := ⟨g, off + i * 5 + 1, none⟩) hlt).trans c1, (hb.cell (p := ⟨g, off + i * 5 + 2, none⟩) hlt).trans c2, (hb.cell (p := ⟨g, off + i * 5 + 3, none⟩) hlt).trans c3, (hb.cell (p := ⟨g, off + i * 5 + 4, none⟩) hlt).trans c4⟩⟩
theorem OrdsIn.at {w : World} {A : Option Addr} {L : Ords} (h : OrdsIn w A L) {i : Nat} (hi : i < L.length) : ∃ g off, A = some ⟨g, off, none⟩ ∧ g < w.heap.size ∧
    w.cell? ⟨g, off + i * 5, none⟩ = some (.int .i64 L[i].id) ∧ w.cell? ⟨g, off + i * 5 + 1, none⟩ = some (.int .i64 L[i].cl) ∧ w.cell? ⟨g, off + i * 5 + 2, none⟩ = some (.bool L[i].buy) ∧
    w.cell? ⟨g, off + i * 5 + 3, none⟩ = some (.int .u64 L[i].price) ∧ w.cell? ⟨g, off + i * 5 + 4, none⟩ = some (.int .u64 L[i].qty) := by
  rcases h with rfl | ⟨g, off, hA, hlt, hc⟩
  · cases hi
  · exact ⟨g, off, hA, hlt, hc i hi⟩
theorem Turns.ords_in {F0 : Nat → Prop} {w0 w : World} {A : Option Addr} {n cap : Nat} {L : Ords} {R : HP} (h : Turns F0 w0 w (star (RV (.slice A n cap) n (cellsO L)) R)) : OrdsIn w A L := by
  rcases L with _ | ⟨x, t⟩
  · exact Or.inl rfl
  · obtain ⟨g, off, rfl, hg, _⟩ := h.rv_ord (i := 0) (by simp)
    refine Or.inr ⟨g, off, rfl, hg, fun i hi => ?_⟩
    obtain ⟨g', off', e, _, r⟩ := h.rv_ord hi
    injection e with e
    injection e with e1 e2 _
    subst e1; subst e2
    exact r
theorem row_ords {w : World} {A : Option Addr} {n cap : Nat} {L : Ords} (h : w.ownsRow 0 28 5 (.slice A n cap) n (cellsO L)) : OrdsIn w A L := by
  rcases L with _ | ⟨x, t⟩
  · exact Or.inl rfl
  · obtain ⟨g, rfl, hg, _⟩ := row_ord h (i := 0) (by simp)
    refine Or.inr ⟨g, 0, rfl, hg, fun i hi => ?_⟩
    obtain ⟨g', e, _, r⟩ := row_ord h hi
    injection e with e
    injection e with e1 _ _
    subst e1
    simp only [Nat.zero_add]
    exact r

set_option maxRecDepth 100000 in
set_option maxHeartbeats 8000000 in
theorem rsame_any {w : World} {A B : Option Addr} {n m ca cb : Nat} {L M : Ords} (hL : OrdsIn w A L) (hM : OrdsIn w B M) (hn : L.length = n) (hm : M.length = m) (hl : n ≤ 100000) (hlm : m ≤ 100000) (okL : ∀ o ∈ L, o.ok) (okM : ∀ o ∈ M, o.ok) :
    Calls Try.prog 21 #[.slice A n ca, .slice B m cb] w fun e w' => e = .returned (.bool (decide (L = M))) ∧ Below w.heap.size w w' := by
  have HN := Lib.hid hn; have HM := Lib.hid hm; have HA := Lib.hid hL; have HB := Lib.hid hM; have OL := Lib.hid okL; have OM := Lib.hid okM
  by_cases hnm : n = m
  · subst hnm
    clear hn hm hL hM okL okM
    go_enter Try.func21, Try.ntmps21
    go_wp2_with fail
    go_loopw [5] (fun i wr => ∃ k : Nat, k ≤ n ∧ i = .int .i64 k ∧ L.take k = M.take k ∧ Below w.heap.size w wr) (fun i _ => n - (intOf i).toNat)
    case atStart => exact ⟨0, by omega, rfl, rfl, Below.refl _ _⟩
    case round =>
      obtain ⟨k, hk, rfl, htk, hb⟩ := hrel
      have HBW := Lib.hid hb
      by_cases hgo : k < n
      · have hkl : k < L.length := by rw [HN.out]; exact hgo
        have hkm : k < M.length := by rw [HM.out]; exact hgo
        obtain ⟨g1, o1, rfl, _, a0, a1, a2, a3, a4⟩ := (HA.out.below hb).at hkl
        obtain ⟨g2, o2, rfl, _, b0, b1, b2, b3, b4⟩ := (HB.out.below hb).at hkm
        have hneq := fun w' => neq_ord (OL.out _ (List.getElem_mem hkl)) (OM.out _ (List.getElem_mem hkm)) w'
        have htL : L.take (k + 1) = L.take k ++ [L[k]] := by rw [List.take_succ_eq_append_getElem hkl]
        have htM : M.take (k + 1) = M.take k ++ [M[k]] := by rw [List.take_succ_eq_append_getElem hkm]
        have hkn : (k : Int) < (n : Int) := by omega
        have hk0 : (0 : Int) ≤ (k : Int) := by omega
        by_cases he : L[k] = M[k]
        · have ht2 : Hid (L.take (k + 1) = M.take (k + 1)) := Lib.hid (by rw [htL, htM, htk, he])
          rw [decide_eq_true he] at hneq
          rw [← he] at b0 b1 b2 b3 b4 hneq
          generalize L[k] = o at a0 a1 a2 a3 a4 b0 b1 b2 b3 b4 hneq
          obtain ⟨f1, f2, f3, f4, f5⟩ := o
          dsimp only at a0 a1 a2 a3 a4 b0 b1 b2 b3 b4
          unfold OrdV.val at hneq
          clear he htL htM htk hb
          go_wp2_with fail
          go_quiet (fail)
          go_wp2_with fail
          go_roundw
          case rel => exact ⟨k + 1, by omega, by go_num, ht2.out, below_drewN HBW.out _⟩
          case measure => simp [intOf]; omega
        · have hne : decide (L = M) = false := decide_eq_false fun h => he (by subst h; rfl)
          have HNE := Lib.hid hne
          rw [decide_eq_false he] at hneq
          generalize L[k] = o at a0 a1 a2 a3 a4 hneq
          generalize M[k] = q at b0 b1 b2 b3 b4 hneq
          obtain ⟨f1, f2, f3, f4, f5⟩ := o
          obtain ⟨h1, h2, h3, h4, h5⟩ := q
          dsimp only at a0 a1 a2 a3 a4 b0 b1 b2 b3 b4
          unfold OrdV.val at hneq
          clear he htL htM htk hb hne
          go_wp2_with fail
          go_quiet (fail)
          go_wp2_with fail
          go_ret
          exact ⟨by rw [HNE.out]; rfl, below_drewN HBW.out _⟩
      · obtain rfl : k = n := by omega
        have he : decide (L = M) = true := decide_eq_true (by
          rw [List.take_of_length_le (by rw [HN.out]; exact Nat.le_refl _), List.take_of_length_le (by rw [HM.out]; exact Nat.le_refl _)] at htk
          exact htk)
        have HE := Lib.hid he
        clear htk he hgo hb
        go_wp2_with fail
        go_ret
        exact ⟨by rw [HE.out]; rfl, HBW.out⟩
  · have hne : decide (L = M) = false := decide_eq_false fun h => hnm (by rw [← hn, ← hm, h])
    have b1 : ((n : Int) == (m : Int)) = false := beq_eq_false_iff_ne.2 (by omega)
    rw [hne]
    clear hn hm hL hM okL okM hne
    go_enter Try.func21, Try.ntmps21
    go_wp2_with fail
    go_ret
    exact ⟨rfl, Below.refl _ _⟩
end Go.Proofs.Ytkbebllkjmccoaa
