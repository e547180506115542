/- A row of orders in which two change their places; slices.swapRangeCmpFunc. Conditions: the row lies in a block of its own; at most a million orders. -/
import Derived.Test.YtkbebllkjmccoaaPrioRows
import Derived.Test.YtkbebllkjmccoaaSortRow
import Derived.Deep.RegionLaw
import Derived.Deep.RegionWith
import Derived.Deep.RegionHeld3
import Derived.Deep.CutBlock
import Derived.Deep.DeepCutAuto
import Derived.StillTailTactics
import Derived.WalkSmall
namespace Go.Proofs.Ytkbebllkjmccoaa
open Go.RowKit Go.WideShapes

/-- A row of orders in a block of its own. -/
abbrev ORow (A : Option Addr) (cap : Nat) (D : Ords) : HP := RowN 28 5 (.slice A D.length cap) D.length (cellsO D)

theorem cellsO_set {D : Ords} {i : Nat} (y : OrdV) (hi : i < D.length) :
    (((((cellsO D).set (i * 5) (.int .i64 y.id)).set (i * 5 + 1) (.int .i64 y.cl)).set (i * 5 + 2) (.bool y.buy)).set (i * 5 + 3) (.int .u64 y.price)).set (i * 5 + 4) (.int .u64 y.qty) = cellsO (D.set i y) := by
  induction D generalizing i with
  | nil => simp at hi
  | cons x D ih =>
    cases i with
    | zero => simp [cellsO, OrdV.cells]
    | succ i =>
      have hl : x.cells.length = 5 := rfl
      have e : ∀ (xs : List Value) (k : Nat) (u : Value), (x.cells ++ xs).set ((i + 1) * 5 + k) u = x.cells ++ xs.set (i * 5 + k) u := fun xs k u => by
        rw [List.set_append_right _ _ (by rw [hl]; omega), hl]
        congr 2
        omega
      have e0 : ∀ (xs : List Value) (u : Value), (x.cells ++ xs).set ((i + 1) * 5) u = x.cells ++ xs.set (i * 5) u := fun xs u => e xs 0 u
      have hc : ∀ L : Ords, cellsO (x :: L) = x.cells ++ cellsO L := fun L => by simp [cellsO]
      rw [List.set_cons_succ, hc, hc, e0, e, e, e, e, ih (by simpa using hi)]
section
variable {F0 : Nat → Prop} {w0 w : World} {g m cap : Nat} {D : Ords} {R : HP}
/-- Another order is put to place i. -/
theorem Turns.put5 (h : Turns F0 w0 w (star (RowN 28 5 (.slice (some ⟨g, 0, none⟩) m cap) m (cellsO D)) R)) [hR : Stable R] {i : Nat} (hi : i < D.length) (n : OrdV) :
    (∃ o : OrdV, (w.drew.cell? ⟨g, i * 5, none⟩ = some (.int .i64 o.id) ∧ w.drew.frozen? ⟨g, i * 5, none⟩ = false) ∧
    ((w.setCell ⟨g, i * 5, none⟩ (.int .i64 n.id)).drew.cell? ⟨g, i * 5 + 1, none⟩ = some (.int .i64 o.cl) ∧ (w.setCell ⟨g, i * 5, none⟩ (.int .i64 n.id)).drew.frozen? ⟨g, i * 5 + 1, none⟩ = false) ∧
    (((w.setCell ⟨g, i * 5, none⟩ (.int .i64 n.id)).setCell ⟨g, i * 5 + 1, none⟩ (.int .i64 n.cl)).drew.cell? ⟨g, i * 5 + 2, none⟩ = some (.bool o.buy) ∧ ((w.setCell ⟨g, i * 5, none⟩ (.int .i64 n.id)).setCell ⟨g, i * 5 + 1, none⟩ (.int .i64 n.cl)).drew.frozen? ⟨g, i * 5 + 2, none⟩ = false) ∧
    ((((w.setCell ⟨g, i * 5, none⟩ (.int .i64 n.id)).setCell ⟨g, i * 5 + 1, none⟩ (.int .i64 n.cl)).setCell ⟨g, i * 5 + 2, none⟩ (.bool n.buy)).drew.cell? ⟨g, i * 5 + 3, none⟩ = some (.int .u64 o.price) ∧ (((w.setCell ⟨g, i * 5, none⟩ (.int .i64 n.id)).setCell ⟨g, i * 5 + 1, none⟩ (.int .i64 n.cl)).setCell ⟨g, i * 5 + 2, none⟩ (.bool n.buy)).drew.frozen? ⟨g, i * 5 + 3, none⟩ = false) ∧
    (((((w.setCell ⟨g, i * 5, none⟩ (.int .i64 n.id)).setCell ⟨g, i * 5 + 1, none⟩ (.int .i64 n.cl)).setCell ⟨g, i * 5 + 2, none⟩ (.bool n.buy)).setCell ⟨g, i * 5 + 3, none⟩ (.int .u64 n.price)).drew.cell? ⟨g, i * 5 + 4, none⟩ = some (.int .u64 o.qty) ∧ ((((w.setCell ⟨g, i * 5, none⟩ (.int .i64 n.id)).setCell ⟨g, i * 5 + 1, none⟩ (.int .i64 n.cl)).setCell ⟨g, i * 5 + 2, none⟩ (.bool n.buy)).setCell ⟨g, i * 5 + 3, none⟩ (.int .u64 n.price)).drew.frozen? ⟨g, i * 5 + 4, none⟩ = false)) ∧
    Turns F0 w0 (((((w.setCell ⟨g, i * 5, none⟩ (.int .i64 n.id)).setCell ⟨g, i * 5 + 1, none⟩ (.int .i64 n.cl)).setCell ⟨g, i * 5 + 2, none⟩ (.bool n.buy)).setCell ⟨g, i * 5 + 3, none⟩ (.int .u64 n.price)).setCell ⟨g, i * 5 + 4, none⟩ (.int .u64 n.qty)) (star (RowN 28 5 (.slice (some ⟨g, 0, none⟩) m cap) m (cellsO (D.set i n))) R) := by
  have fz : ∀ (w' : World) (xs : List Value), Turns F0 w0 w' (star (RowN 28 5 (.slice (some ⟨g, 0, none⟩) m cap) m xs) R) → ∀ j, w'.drew.frozen? ⟨g, j, none⟩ = false := fun w' xs h j => by
    show w'.frozen? ⟨g, j, none⟩ = false
    rcases h.rowN.2 with ⟨e, _⟩ | ⟨g', cap', cur, e, _, hh, _⟩
    · cases e
    · injection e with e _ _
      injection e with e
      injection e with e _ _
      subst e
      simp [World.frozen?, hh]
  obtain ⟨k0, k1, k2, k3, k4⟩ := cellsO_cells hi
  have get : ∀ (w' : World) (xs : List Value) (j : Nat) (u : Value), Turns F0 w0 w' (star (RowN 28 5 (.slice (some ⟨g, 0, none⟩) m cap) m xs) R) → xs[j]? = some u → w'.drew.cell? ⟨g, j, none⟩ = some u := fun w' xs j u h hj => by
    obtain ⟨g', cap', e, hc⟩ := rowN_cell h.rowN hj
    injection e with e _ _
    injection e with e
    injection e with e _ _
    subst e
    exact hc
  have h1 := h.rowN_set (i * 5) (.int .i64 n.id)
  have h2 := h1.rowN_set (i * 5 + 1) (.int .i64 n.cl)
  have h3 := h2.rowN_set (i * 5 + 2) (.bool n.buy)
  have h4 := h3.rowN_set (i * 5 + 3) (.int .u64 n.price)
  have h5 := h4.rowN_set (i * 5 + 4) (.int .u64 n.qty)
  refine ⟨⟨D[i], ⟨get _ _ _ _ h k0, fz _ _ h _⟩, ⟨get _ _ _ _ h1 ?_, fz _ _ h1 _⟩, ⟨get _ _ _ _ h2 ?_, fz _ _ h2 _⟩, ⟨get _ _ _ _ h3 ?_, fz _ _ h3 _⟩, ⟨get _ _ _ _ h4 ?_, fz _ _ h4 _⟩⟩, ?_⟩
  · rw [List.getElem?_set_ne (by omega)]; exact k1
  · rw [List.getElem?_set_ne (by omega), List.getElem?_set_ne (by omega)]; exact k2
  · rw [List.getElem?_set_ne (by omega), List.getElem?_set_ne (by omega), List.getElem?_set_ne (by omega)]; exact k3
  · rw [List.getElem?_set_ne (by omega), List.getElem?_set_ne (by omega), List.getElem?_set_ne (by omega), List.getElem?_set_ne (by omega)]; exact k4
  · rw [← cellsO_set n hi]; exact h5
end

set_option maxRecDepth 100000 in
set_option maxHeartbeats 4000000 in
theorem swapRange_any {F0 : Nat → Prop} {w0 w : World} {g m cap : Nat} {D : Ords} {R : HP} [hR : Stable R] (a b n : Nat) (fv : Value) (h : Turns F0 w0 w (star (RowN 28 5 (.slice (some ⟨g, 0, none⟩) m cap) m (cellsO D)) R)) (hD : D.length = m) (hm : m ≤ 1000000) (hab : a + n ≤ b) (hb : b + n ≤ m) :
    Calls Try.prog 45 #[.slice (some ⟨g, 0, none⟩) m cap, .int .i64 a, .int .i64 b, .int .i64 n, fv] w fun e w' => e = .returned (.tuple #[]) ∧ ∃ E, SwR D E a b n ∧ Turns F0 w0 w' (star (RowN 28 5 (.slice (some ⟨g, 0, none⟩) m cap) m (cellsO E)) R) := by
  have H := Lib.hid h
  have HD := Lib.hid hD
  clear h hD
  go_enter Try.func45, Try.ntmps45
  go_wp2_with fail
  go_loopw [10] (fun iv wr => ∃ (t : Nat) (E : Ords), iv = .int .i64 t ∧ t ≤ n ∧ SwR D E a b t ∧ Turns F0 w0 wr (star (RowN 28 5 (.slice (some ⟨g, 0, none⟩) m cap) m (cellsO E)) R)) (fun iv _ => n - (intOf iv).toNat)
  case atStart => exact ⟨0, D, rfl, Nat.zero_le _, SwR.start D a b, H.out⟩
  case round =>
    obtain ⟨t, E, rfl, htn, hs, ht⟩ := hrel
    have hE : E.length = m := by rw [hs.perm.length_eq, HD.out]
    by_cases hlt : t < n
    · have hi : a + t < E.length := by omega
      have hj : b + t < E.length := by omega
      have hstep := hs.step (by omega) (by omega)
      obtain ⟨i, ei⟩ : ∃ i, a + t = i := ⟨_, rfl⟩
      obtain ⟨j, ej⟩ : ∃ j, b + t = j := ⟨_, rfl⟩
      have hij : i ≠ j := by omega
      rw [ei] at hi hstep
      rw [ej] at hj hstep
      have c1 : ((a : Int) + (t : Int)) = (i : Int) := by omega
      have c2 : ((b : Int) + (t : Int)) = (j : Int) := by omega
      have c3 : IntKind.i64.wrap (i : Int) = (i : Int) := IntWalk.i64_in _ (by omega)
      have c4 : IntKind.i64.wrap (j : Int) = (j : Int) := IntWalk.i64_in _ (by omega)
      have c5 : IntKind.i64.wrap ((t : Int) + 1) = (t : Int) + 1 := IntWalk.i64_in _ (by omega)
      have hi' : (i : Int) < (m : Int) := by omega
      have hj' : (j : Int) < (m : Int) := by omega
      have htd := ht.drew
      obtain ⟨g1, e1, _, d0, d1, d2, d3, d4⟩ := row_ord htd.rowN hi
      injection e1 with e1
      injection e1 with e1 _ _
      subst e1
      obtain ⟨g1, e1, _, f0, f1, f2, f3, f4⟩ := row_ord htd.rowN hj
      injection e1 with e1
      injection e1 with e1 _ _
      subst e1
      obtain ⟨⟨x1, x2, x3, x4, x5⟩, hx⟩ : ∃ x, E[i] = x := ⟨_, rfl⟩
      obtain ⟨⟨y1, y2, y3, y4, y5⟩, hy⟩ : ∃ y, E[j] = y := ⟨_, rfl⟩
      rw [hx] at d0 d1 d2 d3 d4
      rw [hy] at f0 f1 f2 f3 f4
      have hsw : (E.set i ⟨y1, y2, y3, y4, y5⟩).set j ⟨x1, x2, x3, x4, x5⟩ = swapL E i j := by unfold swapL; rw [atL_eq hi, atL_eq hj, hx, hy]
      have hsw2 : (E.set j ⟨x1, x2, x3, x4, x5⟩).set i ⟨y1, y2, y3, y4, y5⟩ = swapL E i j := by rw [← hsw]; exact List.set_comm _ _ (fun h => hij h.symm)
      obtain ⟨⟨_, ⟨p0, q0⟩, ⟨p1, q1⟩, ⟨p2, q2⟩, ⟨p3, q3⟩, ⟨p4, q4⟩⟩, T1⟩ := ht.put5 hi ⟨y1, y2, y3, y4, y5⟩
      obtain ⟨⟨_, ⟨r0, s0⟩, ⟨r1, s1⟩, ⟨r2, s2⟩, ⟨r3, s3⟩, ⟨r4, s4⟩⟩, T2⟩ := T1.put5 (i := j) (by rw [List.length_set]; exact hj) ⟨x1, x2, x3, x4, x5⟩
      obtain ⟨⟨_, ⟨t0, u0⟩, ⟨t1, u1⟩, ⟨t2, u2⟩, ⟨t3, u3⟩, ⟨t4, u4⟩⟩, T3⟩ := ht.put5 hj ⟨x1, x2, x3, x4, x5⟩
      obtain ⟨⟨_, ⟨v0, z0⟩, ⟨v1, z1⟩, ⟨v2, z2⟩, ⟨v3, z3⟩, ⟨v4, z4⟩⟩, T4⟩ := T3.put5 (i := i) (by rw [List.length_set]; exact hi) ⟨y1, y2, y3, y4, y5⟩
      rw [hsw] at T2
      rw [hsw2] at T4
      have HT2 := Lib.hid T2; have HT4 := Lib.hid T4; have HST := Lib.hid hstep
      clear T1 T2 T3 T4 htd ht hx hy hsw hsw2 hstep hs hE hi hj ei ej hij H
      go_wp2_with fail
      go_region_law (fail)
      all_goals
        go_wp2_with fail
        go_roundw
        case rel => exact ⟨t + 1, _, by first | rfl | simp, by omega, HST.out, by first | exact HT2.out.drew | exact HT4.out.drew⟩
        case measure => simp [intOf]; omega
    · have hnot : ¬ (t : Int) < (n : Int) := by omega
      obtain rfl : t = n := by omega
      have HS := Lib.hid hs; have HT := Lib.hid ht
      clear hs ht hE H
      go_wp2_with fail
      go_end0
      exact ⟨rfl, E, HS.out, HT.out⟩
end Go.Proofs.Ytkbebllkjmccoaa
