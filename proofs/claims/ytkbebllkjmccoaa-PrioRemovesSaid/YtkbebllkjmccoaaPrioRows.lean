/- Rows of orders, told or made by the law itself: what lies where; one more is laid behind. Conditions: as each says. -/
import Derived.Test.YtkbebllkjmccoaaPrioEq
import Derived.Test.YtkbebllkjmccoaaRowN
import Derived.OwnWalk
namespace Go.Proofs.Ytkbebllkjmccoaa
open Go.RowKit Go.WideShapes

theorem cellsO_cells {L : Ords} {i : Nat} (hi : i < L.length) : (cellsO L)[i * 5]? = some (.int .i64 L[i].id) ∧ (cellsO L)[i * 5 + 1]? = some (.int .i64 L[i].cl) ∧ (cellsO L)[i * 5 + 2]? = some (.bool L[i].buy) ∧ (cellsO L)[i * 5 + 3]? = some (.int .u64 L[i].price) ∧ (cellsO L)[i * 5 + 4]? = some (.int .u64 L[i].qty) :=
  ⟨by have := cellsO_at (i := 0) hi (by decide); rw [Nat.add_zero] at this; rw [this]; rfl, by rw [cellsO_at hi (by decide)]; rfl, by rw [cellsO_at hi (by decide)]; rfl, by rw [cellsO_at hi (by decide)]; rfl, by rw [cellsO_at hi (by decide)]; rfl⟩
theorem cellsO_one (L : Ords) : ∀ u ∈ cellsO L, u.oneCell' = true := by
  intro u hu
  simp only [cellsO, List.mem_flatMap] at hu
  obtain ⟨p, _, hu⟩ := hu
  simp only [OrdV.cells, List.mem_cons, List.not_mem_nil, or_false] at hu
  rcases hu with rfl | rfl | rfl | rfl | rfl <;> rfl
/-- An order of a row that was told. -/
theorem Turns.rv_ord {F0 : Nat → Prop} {w0 w : World} {A : Option Addr} {n cap : Nat} {L : Ords} {R : HP} (h : Turns F0 w0 w (star (RV (.slice A n cap) n (cellsO L)) R)) {i : Nat} (hi : i < L.length) :
    ∃ g off, A = some ⟨g, off, none⟩ ∧ g < w.heap.size ∧ w.cell? ⟨g, off + i * 5, none⟩ = some (.int .i64 L[i].id) ∧ w.cell? ⟨g, off + i * 5 + 1, none⟩ = some (.int .i64 L[i].cl) ∧ w.cell? ⟨g, off + i * 5 + 2, none⟩ = some (.bool L[i].buy) ∧
      w.cell? ⟨g, off + i * 5 + 3, none⟩ = some (.int .u64 L[i].price) ∧ w.cell? ⟨g, off + i * 5 + 4, none⟩ = some (.int .u64 L[i].qty) := by
  obtain ⟨A', cap', e, _, _, hx⟩ := h.rv
  injection e with e1 _ _
  subst e1
  rcases hx with hx | ⟨g, off, rfl, hg, hx⟩
  · have := congrArg List.length hx
    rw [cellsO_length] at this
    simp at this
    omega
  obtain ⟨k0, k1, k2, k3, k4⟩ := cellsO_cells hi
  have get : ∀ (m : Nat) (u : Value), (cellsO L)[m]? = some u → w.cell? ⟨g, off + m, none⟩ = some u := fun m u hm => by
    have hlt : m < (cellsO L).length := by
      rcases Nat.lt_or_ge m (cellsO L).length with h | h
      · exact h
      · rw [List.getElem?_eq_none h] at hm; cases hm
    rw [(hx m hlt).1, ← List.getElem?_eq_getElem hlt, hm]
  exact ⟨g, off, rfl, hg, get _ _ k0, by rw [Nat.add_assoc]; exact get _ _ k1, by rw [Nat.add_assoc]; exact get _ _ k2, by rw [Nat.add_assoc]; exact get _ _ k3, by rw [Nat.add_assoc]; exact get _ _ k4⟩
/-- An order of a row of the law's own. -/
theorem row_ord {w : World} {A : Option Addr} {n cap : Nat} {L : Ords} (h : w.ownsRow 0 28 5 (.slice A n cap) n (cellsO L)) {i : Nat} (hi : i < L.length) :
    ∃ g, A = some ⟨g, 0, none⟩ ∧ g < w.heap.size ∧ w.cell? ⟨g, i * 5, none⟩ = some (.int .i64 L[i].id) ∧ w.cell? ⟨g, i * 5 + 1, none⟩ = some (.int .i64 L[i].cl) ∧ w.cell? ⟨g, i * 5 + 2, none⟩ = some (.bool L[i].buy) ∧
      w.cell? ⟨g, i * 5 + 3, none⟩ = some (.int .u64 L[i].price) ∧ w.cell? ⟨g, i * 5 + 4, none⟩ = some (.int .u64 L[i].qty) := by
  have hn : n ≠ 0 := fun e => by
    have := h.1
    rw [e, cellsO_length] at this
    omega
  obtain ⟨g, cap', e⟩ := ownN_shape h hn
  injection e with e1 _ e2
  subst e1; subst e2
  have hlt := (h.lt g rfl).2
  obtain ⟨k0, k1, k2, k3, k4⟩ := cellsO_cells hi
  have get : ∀ (m : Nat) (u : Value), (cellsO L)[m]? = some u → w.cell? ⟨g, m, none⟩ = some u := fun m u hm => by
    obtain ⟨g', cap', e, hc⟩ := rowN_cell h hm
    injection e with e1 _ _
    injection e1 with e1
    injection e1 with e1
    subst e1
    exact hc
  exact ⟨g, rfl, hlt, get _ _ k0, get _ _ k1, get _ _ k2, get _ _ k3, get _ _ k4⟩
theorem ord_info : (Try.prog.info? 28).map (fun i => (i.zero, i.size, i.bytes)) = some (some (.agg #[.int .i64 0, .int .i64 0, .bool false, .int .u64 0, .int .u64 0]), 5, 40) := by kernel_rfl
theorem ord_new (w : World) (o : OrdV) (t : TypeId) : ∀ j u, (cellsO [o])[j]? = some u → (w.alloc (.cells o.arr t)).cell? ((⟨w.heap.size, 0, none⟩ : Addr).add j) = some u := by
  intro j u hj
  match j, hj with
  | 0, hj => simp [cellsO, OrdV.cells] at hj; subst hj; simp [Addr.add]
  | 1, hj => simp [cellsO, OrdV.cells] at hj; subst hj; simp [Addr.add]
  | 2, hj => simp [cellsO, OrdV.cells] at hj; subst hj; simp [Addr.add]
  | 3, hj => simp [cellsO, OrdV.cells] at hj; subst hj; simp [Addr.add]
  | 4, hj => simp [cellsO, OrdV.cells] at hj; subst hj; simp [Addr.add]

/-! ### what is left of a row -/
theorem rmQ_snoc (n : Int) (L : Ords) (o : OrdV) : rmQ n (L ++ [o]) = if o.id = n then rmQ n L else rmQ n L ++ [o] := by
  unfold rmQ
  rw [List.filter_append]
  by_cases h : o.id = n
  · rw [if_pos h]
    have : notId n o = false := by unfold notId; rw [h]; simp
    simp [this]
  · rw [if_neg h]
    have : notId n o = true := by unfold notId; rw [beq_eq_false_iff_ne.2 h]; rfl
    simp [this]
theorem find_rm (n : Int) (L : Ords) : findQ n (rmQ n L) = none := by
  unfold findQ rmQ
  rw [List.find?_eq_none]
  intro x hx
  have := (List.mem_filter.1 hx).2
  unfold notId at this
  unfold isId
  simpa using this
theorem rm_rm (n : Int) (L : Ords) : rmQ n (rmQ n L) = rmQ n L := by
  unfold rmQ
  rw [List.filter_filter]
  congr 1
  funext x
  simp
theorem find_some {n : Int} {L : Ords} {o : OrdV} (h : findQ n L = some o) : o.id = n ∧ o ∈ L := by
  unfold findQ at h
  have h1 := List.find?_some h
  have h2 := List.mem_of_find?_eq_some h
  unfold isId at h1
  exact ⟨eq_of_beq h1, h2⟩
theorem find_is {n : Int} {L : Ords} : (findQ n L).isSome = true ↔ ∃ o ∈ L, o.id = n := by
  unfold findQ
  rw [List.find?_isSome]
  constructor
  · rintro ⟨o, h1, h2⟩
    exact ⟨o, h1, eq_of_beq h2⟩
  · rintro ⟨o, h1, h2⟩
    exact ⟨o, h1, by unfold isId; rw [h2]; exact beq_self_eq_true _⟩
end Go.Proofs.Ytkbebllkjmccoaa
