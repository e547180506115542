/- A struct of one field that holds a row of its own, as a thing that lies apart. Conditions: as each says. -/
import Derived.Test.YtkbebllkjmccoaaSep
import Derived.Test.YtkbebllkjmccoaaAppend
namespace Go.Proofs.Ytkbebllkjmccoaa
open Go.RowKit Go.WideShapes

/-- v points to a struct of type ts whose one field is a row of elements of type te (one cell each): they are xs. -/
def Box1 (ts te : TypeId) (v : Value) (xs : List Value) : HP := fun w F =>
  ∃ b s, v = .pointer (some ⟨b, 0, none⟩) ∧ w.heap[b]? = some (.cells #[s] ts (0, 0)) ∧ w.ownsRow 0 te 1 s xs.length xs ∧ s.ownBlock ≠ some b ∧ (∀ k, F k ↔ (k = b ∨ s.ownBlock = some k))
theorem box1_lt {w : World} {te : TypeId} {b : Nat} {s u : Value} {ts : TypeId} {xs : List Value} (hb : w.heap[b]? = some (.cells #[u] ts (0, 0))) (ho : w.ownsRow 0 te 1 s xs.length xs) : ∀ k, (k = b ∨ s.ownBlock = some k) → k < w.heap.size := by
  rintro k (rfl | hk)
  · exact lt_of_block hb
  · exact (ho.lt k hk).2
theorem row_keep {w w' : World} {B n : Nat} {te : TypeId} {s : Value} {xs : List Value} {G : Nat → Prop} (h : w.ownsRow B te 1 s n xs) (hc : Chg G w w') (hd : ∀ k, s.ownBlock = some k → ¬ G k) : w'.ownsRow B te 1 s n xs := by
  refine ⟨h.1, ?_⟩
  rcases h.2 with h' | ⟨g, cap, cur, rfl, hg, hh, r⟩
  · exact Or.inl h'
  · exact Or.inr ⟨g, cap, cur, rfl, hg, (hc.block g (h.lt g rfl).2 (hd g rfl)).trans hh, r⟩
instance Box1.stable (ts te : TypeId) (v : Value) (xs : List Value) : Stable (Box1 ts te v xs) where
  lt := fun ⟨_, _, _, hb, ho, _, hF⟩ k hk => box1_lt hb ho k ((hF k).1 hk)
  keep := fun ⟨b, s, hv, hb, ho, hne, hF⟩ hc hd => by
    refine ⟨b, s, hv, (hc.block b (lt_of_block hb) (hd b ((hF b).2 (Or.inl rfl)))).trans hb, row_keep ho hc (fun k hk => hd k ((hF k).2 (Or.inr hk))), hne, hF⟩
/-- A new one. -/
theorem Box1.made (w : World) (ts te : TypeId) : Box1 ts te (.pointer (some ⟨w.heap.size, 0, none⟩)) [] (w.alloc (.cells #[.slice none 0 0] ts)) (fun k => k = w.heap.size) :=
  ⟨w.heap.size, .slice none 0 0, rfl, heap_alloc_new w _, World.ownsRow_nil _ _ _ _, by simp [Value.ownBlock], by simp [Value.ownBlock]⟩
/-- What a store of the grown row leaves. -/
theorem Box1.grown {w w1 : World} {ts te : TypeId} {b : Nat} {s v' : Value} {xs : List Value} {m : Nat} {more : List Value} {F : Nat → Prop} (hb : w.heap[b]? = some (.cells #[s] ts (0, 0))) (hne : s.ownBlock ≠ some b) (hm : more.length = m)
    (hF : ∀ k, F k ↔ (k = b ∨ s.ownBlock = some k)) (hown : w1.ownsRow 0 te 1 v' (xs.length + m) (xs ++ more)) (hgr : w.grownBy w1 s.ownBlock) (hfr : ∀ k, v'.ownBlock = some k → s.ownBlock = some k ∨ w.heap.size ≤ k) :
    Turns F w (w1.setCell ⟨b, 0, none⟩ v') (Box1 ts te (.pointer (some ⟨b, 0, none⟩)) (xs ++ more)) := by
  subst hm
  have hlt := lt_of_block hb
  have hb1 := grown_keeps hgr hb hne
  have hne' : v'.ownBlock ≠ some b := fun e => by
    rcases hfr b e with h | h
    · exact hne h
    · omega
  refine ⟨fun k => k = b ∨ v'.ownBlock = some k, ⟨b, v', rfl, one_setCell hb1, ?_, hne', fun _ => Iff.rfl⟩, ?_, ?_⟩
  · have := ownsRow_setCell_other hown (a := ⟨b, 0, none⟩) hne' v'
    rw [List.length_append]
    exact this
  · have hc : Chg F w w1 := (Chg.refl _ _).grown hgr (fun k hk _ => (hF k).2 (Or.inr hk))
    exact hc.setCell (p := ⟨b, 0, none⟩) (fun _ => (hF b).2 (Or.inl rfl)) _
  · rintro k (rfl | h)
    · exact Or.inl ((hF _).2 (Or.inl rfl))
    · exact (hfr k h).imp (fun h => (hF k).2 (Or.inr h)) id
theorem row_cell {w : World} {B n : Nat} {te : TypeId} {s : Value} {xs : List Value} (h : w.ownsRow B te 1 s n xs) {j : Nat} (hj : j < xs.length) : ∃ g cap, s = .slice (some ⟨g, 0, none⟩) n cap ∧ w.cell? ⟨g, j, none⟩ = some xs[j] := by
  have hn : n ≠ 0 := by have := h.1; omega
  obtain ⟨g, cap, rfl⟩ := own_shape h hn
  refine ⟨g, cap, rfl, ?_⟩
  have := h.1
  rw [h.cellAt j (by omega), List.getElem?_eq_getElem hj]
theorem row_form {w : World} {B n : Nat} {te : TypeId} {s : Value} {xs : List Value} (h : w.ownsRow B te 1 s n xs) : ∃ A cap, s = .slice A n cap := by
  rcases h.2 with ⟨rfl, rfl⟩ | ⟨g, cap, _, rfl, _⟩
  · exact ⟨none, 0, rfl⟩
  · exact ⟨_, cap, rfl⟩
end Go.Proofs.Ytkbebllkjmccoaa
