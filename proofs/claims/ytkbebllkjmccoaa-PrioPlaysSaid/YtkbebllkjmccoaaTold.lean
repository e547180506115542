/- Rows that a call told, as things that lie apart: their cells are the law's own, wherever they lie in their block, and may be read and written; and rows of ints that can be read. Conditions: as each says. -/
import Derived.Test.YtkbebllkjmccoaaSep
import Derived.OneCell
import Derived.Laws.OwnMore
namespace Go.Proofs.Ytkbebllkjmccoaa
open Go.RowKit Go.WideShapes

/-- x is a slice of n elements whose cells are xs. -/
def RV (x : Value) (n : Nat) (xs : List Value) : HP := fun w F => ∃ A cap, x = .slice A n cap ∧ n ≤ cap ∧ (A = none → cap = 0) ∧ (∀ k, F k ↔ (xs ≠ [] ∧ ∃ a : Addr, A = some a ∧ a.block = k)) ∧
  (xs = [] ∨ ∃ g off C t m, A = some ⟨g, off, none⟩ ∧ w.heap[g]? = some (.cells C t m) ∧ ∀ j (h : j < xs.length), C[off + j]? = some xs[j] ∧ ¬ (m.1 ≤ off + j ∧ off + j < m.2))
instance RV.stable (x : Value) (n : Nat) (xs : List Value) : Stable (RV x n xs) where
  lt := fun ⟨A, cap, _, _, _, hF, hl⟩ k hk => by
    obtain ⟨hne, a, hA, rfl⟩ := (hF k).1 hk
    rcases hl with h | ⟨g, off, C, t, m, hA', hh, _⟩
    · exact absurd h hne
    · rw [hA] at hA'; obtain rfl := Option.some.inj hA'
      exact lt_of_block hh
  keep := fun ⟨A, cap, h1, h2, h3, hF, hl⟩ hc hd => by
    refine ⟨A, cap, h1, h2, h3, hF, ?_⟩
    rcases hl with h | ⟨g, off, C, t, m, hA, hh, hcl⟩
    · exact Or.inl h
    · by_cases hne : xs = []
      · exact Or.inl hne
      · exact Or.inr ⟨g, off, C, t, m, hA, (hc.block g (lt_of_block hh) (hd g ((hF g).2 ⟨hne, _, hA, rfl⟩))).trans hh, hcl⟩
theorem RV.nil (w : World) : RV (.slice none 0 0) 0 [] w (fun _ => False) := ⟨none, 0, rfl, Nat.le_refl _, fun _ => rfl, fun k => by simp, Or.inl rfl⟩
theorem RV.of {w : World} {B sz n : Nat} {e : TypeId} {x : Value} {xs : List Value} (h : w.ownsRow B e sz x n xs) : ∃ F, RV x n xs w F ∧ (∀ k, F k → B ≤ k) := by
  have hx := h.1
  rcases h.2 with ⟨rfl, h0⟩ | ⟨g, cap, cur, rfl, hb, hh, hnc, hcm, hcs, htk⟩
  · subst h0
    rw [Nat.zero_mul] at hx
    obtain rfl := List.eq_nil_of_length_eq_zero hx
    exact ⟨_, RV.nil w, fun _ h => h.elim⟩
  · refine ⟨fun k => xs ≠ [] ∧ ∃ a : Addr, some (⟨g, 0, none⟩ : Addr) = some a ∧ a.block = k, ⟨_, cap, rfl, hnc, (fun h => by cases h), fun _ => Iff.rfl, Or.inr ⟨g, 0, cur, e, (0, 0), rfl, hh, fun j hj => ⟨?_, by simp⟩⟩⟩, ?_⟩
    · have h1 : xs[j]? = some xs[j] := List.getElem?_eq_getElem hj
      generalize xs[j] = u at h1 ⊢
      rw [← htk, List.getElem?_take, if_pos (by omega)] at h1
      rw [Nat.zero_add, ← Array.getElem?_toList, h1]
    · rintro k ⟨_, a, ha, rfl⟩
      obtain rfl := Option.some.inj ha
      exact hb
section
variable {F0 : Nat → Prop} {w0 w : World} {x : Value} {n : Nat} {xs : List Value} {R : HP}
theorem Turns.rv (h : Turns F0 w0 w (star (RV x n xs) R)) : ∃ A cap, x = .slice A n cap ∧ n ≤ cap ∧ (A = none → cap = 0) ∧
    (xs = [] ∨ ∃ g off, A = some ⟨g, off, none⟩ ∧ g < w.heap.size ∧ ∀ j (h : j < xs.length), w.cell? ⟨g, off + j, none⟩ = some xs[j] ∧ w.frozen? ⟨g, off + j, none⟩ = false) := by
  obtain ⟨F, ⟨A, B, ⟨A', cap, h1, h2, h3, _, hl⟩, _⟩, _⟩ := h
  refine ⟨A', cap, h1, h2, h3, ?_⟩
  rcases hl with h | ⟨g, off, C, t, m, rfl, hh, hcl⟩
  · exact Or.inl h
  · refine Or.inr ⟨g, off, rfl, lt_of_block hh, fun j hj => ⟨by simp [World.cell?, hh, (hcl j hj).1], ?_⟩⟩
    have := (hcl j hj).2
    simp only [World.frozen?, hh]
    simpa using this
/-- A cell of it is turned. -/
theorem Turns.rv_set {g off cap : Nat} (h : Turns F0 w0 w (star (RV (.slice (some ⟨g, off, none⟩) n cap) n xs) R)) [hR : Stable R] (j : Nat) (hj : j < xs.length) (u : Value) :
    Turns F0 w0 (w.setCell ⟨g, off + j, none⟩ u) (star (RV (.slice (some ⟨g, off, none⟩) n cap) n (xs.set j u)) R) := by
  have hne : xs ≠ [] := fun h => by rw [h] at hj; simp at hj
  have hne2 : xs.set j u ≠ [] := fun h => by have := congrArg List.length h; simp at this; exact hne this
  refine Turns.step h fun F hp => ⟨F, ?_, ?_, fun k hk => Or.inl hk⟩
  · obtain ⟨A, cap', h1, h2, h3, hF, hl⟩ := hp
    injection h1 with e1 _ e2
    subst e1; subst e2
    rcases hl with h | ⟨g', off', C, t, m, hA, hh, hcl⟩
    · exact absurd h hne
    · injection hA with hA
      injection hA with e1 e2 _
      subst e1; subst e2
      refine ⟨_, cap, rfl, h2, (fun h => by cases h), fun k => ?_, Or.inr ⟨g, off, C.setIfInBounds (off + j) u, t, m, rfl, ?_, fun i hi => ?_⟩⟩
      · rw [hF k]
        exact ⟨fun ⟨_, r⟩ => ⟨hne2, r⟩, fun ⟨_, r⟩ => ⟨hne, r⟩⟩
      · rw [setCell_eq_setRow w g (off + j) C t m _ hh]
        exact setRow_heap w g C _ t _ hh
      · rw [List.length_set] at hi
        refine ⟨?_, (hcl i hi).2⟩
        by_cases e : i = j
        · subst e
          have hlt : off + i < C.size := by
            rcases Nat.lt_or_ge (off + i) C.size with h | h
            · exact h
            · have := (hcl i hj).1; rw [Array.getElem?_eq_none h] at this; cases this
          rw [Array.getElem?_setIfInBounds_self_of_lt hlt]
          simp
        · rw [Array.getElem?_setIfInBounds_ne (by omega), (hcl i hi).1]
          congr 1
          rw [List.getElem_set_ne (by omega)]
  · obtain ⟨A, cap', h1, _, _, hF, _⟩ := hp
    injection h1 with e1 _ e2
    exact Chg.setCell (Chg.refl _ _) (fun _ => (hF g).2 ⟨hne, _, e1.symm, rfl⟩) _
end

/-! ### Rows of ints -/
def cellsI (l : List Int) : List Value := l.map fun n => .int .i64 n
theorem cellsI_length (l : List Int) : (cellsI l).length = l.length := by simp [cellsI]
theorem cellsI_append (a b : List Int) : cellsI (a ++ b) = cellsI a ++ cellsI b := by simp [cellsI]
theorem cellsI_at {l : List Int} {j : Nat} (h : j < l.length) : (cellsI l)[j]'(by rw [cellsI_length]; exact h) = .int .i64 l[j] := by simp [cellsI]
theorem cellsI_set (l : List Int) (j : Nat) (n : Int) : (cellsI l).set j (.int .i64 n) = cellsI (l.set j n) := by simp [cellsI, List.map_set]
theorem cellsI_nil {l : List Int} : cellsI l = [] ↔ l = [] := by simp [cellsI]
abbrev RI (x : Value) (l : List Int) : HP := RV x l.length (cellsI l)
/-- A row of ints lies in memory. -/
def IntsIn (w : World) (A : Option Addr) (l : List Int) : Prop := l = [] ∨ ∃ b off : Nat, A = some ⟨b, off, none⟩ ∧ b < w.heap.size ∧ ∀ i (h : i < l.length), w.cell? ⟨b, off + i, none⟩ = some (.int .i64 l[i])
theorem IntsIn.nil (w : World) (A : Option Addr) : IntsIn w A [] := Or.inl rfl
theorem IntsIn.below {w w' : World} {A : Option Addr} {l : List Int} (h : IntsIn w A l) (hb : Below w.heap.size w w') : IntsIn w' A l := by
  rcases h with h | ⟨b, off, hA, hlt, hc⟩
  · exact Or.inl h
  · exact Or.inr ⟨b, off, hA, Nat.lt_of_lt_of_le hlt hb.size, fun i hi => (hb.cell (p := ⟨b, off + i, none⟩) hlt).trans (hc i hi)⟩
theorem IntsIn.chg {w w' : World} {F : Nat → Prop} {A : Option Addr} {l : List Int} (h : IntsIn w A l) (hc : Chg F w w') (hF : ∀ k, k < w.heap.size → ¬ F k) : IntsIn w' A l :=
  h.below (hc.below (fun k hk hf => absurd hf (hF k hk)) (Nat.le_refl _))
theorem ints_own {w : World} {B n : Nat} {e : TypeId} {x : Value} {l : List Int} (h : w.ownsRow B e 1 x n (cellsI l)) : ∃ A cap, x = .slice A n cap ∧ l.length = n ∧ IntsIn w A l := by
  have hx : l.length = n := by have := h.1; rw [cellsI_length] at this; omega
  rcases h.2 with ⟨rfl, rfl⟩ | ⟨g, cap, cur, rfl, _⟩
  · exact ⟨none, 0, rfl, hx, Or.inl (List.eq_nil_of_length_eq_zero hx)⟩
  · refine ⟨_, cap, rfl, hx, Or.inr ⟨g, 0, rfl, (h.lt g rfl).2, fun i hi => ?_⟩⟩
    rw [Nat.zero_add, h.cellAt i (by omega), List.getElem?_eq_getElem (by rw [cellsI_length]; exact hi), cellsI_at hi]
theorem Turns.ints {F0 : Nat → Prop} {w0 w : World} {x : Value} {l : List Int} {R : HP} (h : Turns F0 w0 w (star (RI x l) R)) : ∃ A cap, x = .slice A l.length cap ∧ IntsIn w A l := by
  obtain ⟨A, cap, h1, _, _, h2⟩ := h.rv
  refine ⟨A, cap, h1, ?_⟩
  rcases h2 with h2 | ⟨g, off, rfl, hg, hc⟩
  · exact Or.inl (cellsI_nil.1 h2)
  · exact Or.inr ⟨g, off, rfl, hg, fun i hi => by rw [(hc i (by rw [cellsI_length]; exact hi)).1, cellsI_at hi]⟩
theorem ints_made (w : World) (l : List Int) (C : Array Value) (t : TypeId) (m : Nat × Nat) (h : C.toList = cellsI l) : IntsIn (w.alloc (.cells C t m)) (some ⟨w.heap.size, 0, none⟩) l := by
  refine Or.inr ⟨_, 0, rfl, by simp, fun i hi => ?_⟩
  rw [Nat.zero_add, World.cell?_alloc_mark]
  have : C[i]? = some (.int .i64 l[i]) := by rw [← Array.getElem?_toList, h, List.getElem?_eq_getElem (by rw [cellsI_length]; exact hi), cellsI_at hi]
  exact this
theorem IntsIn.at {w : World} {A : Option Addr} {l : List Int} (h : IntsIn w A l) {i : Nat} (hi : i < l.length) : ∃ b off, A = some ⟨b, off, none⟩ ∧ b < w.heap.size ∧ w.cell? ⟨b, off + i, none⟩ = some (.int .i64 l[i]) := by
  rcases h with rfl | ⟨b, off, hA, hlt, hc⟩
  · cases hi
  · exact ⟨b, off, hA, hlt, hc i hi⟩
end Go.Proofs.Ytkbebllkjmccoaa
