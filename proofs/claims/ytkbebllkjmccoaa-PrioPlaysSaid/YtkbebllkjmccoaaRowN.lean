/- A row of elements of several cells, in a block of its own, as a thing that lies apart. Conditions: as each says. -/
import Derived.Test.YtkbebllkjmccoaaBlk
import Derived.Test.YtkbebllkjmccoaaTold
import Derived.Laws.OwnMore
namespace Go.Proofs.Ytkbebllkjmccoaa
open Go.RowKit Go.WideShapes

theorem rowN_keep {w w' : World} {B n sz : Nat} {te : TypeId} {s : Value} {xs : List Value} {G : Nat → Prop} (h : w.ownsRow B te sz s n xs) (hc : Chg G w w') (hd : ∀ k, s.ownBlock = some k → ¬ G k) : w'.ownsRow B te sz s n xs := by
  refine ⟨h.1, ?_⟩
  rcases h.2 with h' | ⟨g, cap, cur, rfl, hg, hh, r⟩
  · exact Or.inl h'
  · exact Or.inr ⟨g, cap, cur, rfl, hg, (hc.block g (h.lt g rfl).2 (hd g rfl)).trans hh, r⟩
/-- v is a row of n elements of sz cells each; its cells are xs. -/
def RowN (te : TypeId) (sz : Nat) (v : Value) (n : Nat) (xs : List Value) : HP := fun w F => w.ownsRow 0 te sz v n xs ∧ (∀ k, F k ↔ v.ownBlock = some k)
instance RowN.stable (te : TypeId) (sz : Nat) (v : Value) (n : Nat) (xs : List Value) : Stable (RowN te sz v n xs) where
  lt := fun ⟨h, hF⟩ k hk => (h.lt k ((hF k).1 hk)).2
  keep := fun ⟨h, hF⟩ hc hd => ⟨rowN_keep h hc (fun k hk => hd k ((hF k).2 hk)), hF⟩
theorem RowN.none (w : World) (te : TypeId) (sz : Nat) : RowN te sz (.slice none 0 0) 0 [] w (fun _ => False) := ⟨World.ownsRow_nil _ _ _ _, fun k => by simp [Value.ownBlock]⟩
section
variable {F0 : Nat → Prop} {w0 w w' : World} {te : TypeId} {sz n m : Nat} {R : HP} {v v' : Value} {xs more : List Value}
theorem Turns.rowN (h : Turns F0 w0 w (star (RowN te sz v n xs) R)) : w.ownsRow 0 te sz v n xs := by
  obtain ⟨F, ⟨A, B, hp, _⟩, _⟩ := h
  exact hp.1
/-- It has grown. -/
theorem Turns.rowN_grow (h : Turns F0 w0 w (star (RowN te sz v n xs) R)) [hR : Stable R] (hown : w'.ownsRow 0 te sz v' (n + m) (xs ++ more)) (hgr : w.grownBy w' v.ownBlock) (hfr : ∀ k, v'.ownBlock = some k → v.ownBlock = some k ∨ w.heap.size ≤ k) :
    Turns F0 w0 w' (star (RowN te sz v' (n + m) (xs ++ more)) R) :=
  Turns.step h fun _ hp => ⟨fun k => v'.ownBlock = some k, ⟨hown, fun _ => Iff.rfl⟩, (Chg.refl _ _).grown hgr (fun k hk _ => (hp.2 k).2 hk), fun k hk => (hfr k hk).imp (fun h => (hp.2 k).2 h) id⟩
end
theorem ownN_shape {w : World} {base n sz : Nat} {e : TypeId} {v : Value} {xs : List Value} (h : w.ownsRow base e sz v n xs) (h0 : n ≠ 0) : ∃ g cap, v = .slice (some ⟨g, 0, none⟩) n cap := by
  rcases h.2 with ⟨_, h⟩ | ⟨g, cap, _, h, _⟩
  · exact absurd h h0
  · exact ⟨g, cap, h⟩
theorem rowN_form {w : World} {B n sz : Nat} {te : TypeId} {s : Value} {xs : List Value} (h : w.ownsRow B te sz s n xs) : ∃ A cap, s = .slice A n cap := by
  rcases h.2 with ⟨rfl, rfl⟩ | ⟨g, cap, _, rfl, _⟩
  · exact ⟨none, 0, rfl⟩
  · exact ⟨_, cap, rfl⟩
/-- Its cells. -/
theorem rowN_cell {w : World} {B n sz : Nat} {te : TypeId} {s : Value} {xs : List Value} (h : w.ownsRow B te sz s n xs) {j : Nat} {u : Value} (hj : xs[j]? = some u) : ∃ g cap, s = .slice (some ⟨g, 0, none⟩) n cap ∧ w.cell? ⟨g, j, none⟩ = some u := by
  have hlt : j < xs.length := by
    rcases Nat.lt_or_ge j xs.length with h1 | h1
    · exact h1
    · rw [List.getElem?_eq_none h1] at hj; cases hj
  have hl := h.1
  have hn : n ≠ 0 := fun e => by rw [e, Nat.zero_mul] at hl; omega
  obtain ⟨g, cap, rfl⟩ := ownN_shape h hn
  exact ⟨g, cap, rfl, by rw [h.cellAt j (by omega), hj]⟩

/-- A cell of a row of several cells each is turned. -/
theorem Turns.rowN_set {F0 : Nat → Prop} {w0 w : World} {te : TypeId} {sz n g cap : Nat} {xs : List Value} {R : HP} (h : Turns F0 w0 w (star (RowN te sz (.slice (some ⟨g, 0, none⟩) n cap) n xs) R)) [hR : Stable R] (j : Nat) (u : Value) :
    Turns F0 w0 (w.setCell ⟨g, j, none⟩ u) (star (RowN te sz (.slice (some ⟨g, 0, none⟩) n cap) n (xs.set j u)) R) := by
  refine Turns.step h fun F hp => ⟨F, ⟨(hp.1.stored j u).1, hp.2⟩, Chg.setCell (Chg.refl _ _) (fun _ => (hp.2 g).2 rfl) _, fun k hk => Or.inl hk⟩

/-- A row of its own may be read and written as any that was told. -/
theorem Turns.rown_rv {F0 : Nat → Prop} {w0 w : World} {te : TypeId} {sz n : Nat} {v : Value} {xs : List Value} {R : HP} (h : Turns F0 w0 w (star (RowN te sz v n xs) R)) : Turns F0 w0 w (star (RV v n xs) R) := by
  obtain ⟨F, ⟨A, B, ⟨hown, hA⟩, hr, hd, hF⟩, hc, hF0⟩ := h
  rcases hown.2 with ⟨rfl, hn⟩ | ⟨g, cap, cur, rfl, _, hh, hnc, _, hcs, htk⟩
  · subst hn
    have hx : xs = [] := List.eq_nil_of_length_eq_zero (by have := hown.1; omega)
    subst hx
    exact ⟨B, ⟨fun _ => False, B, RV.nil w, hr, fun _ h => h.elim, fun k => by simp⟩, hc, fun k hk => hF0 k ((hF k).2 (Or.inr hk))⟩
  · refine ⟨fun k => (xs ≠ [] ∧ k = g) ∨ B k, ⟨fun k => xs ≠ [] ∧ k = g, B, ⟨_, cap, rfl, hnc, (fun h => by cases h), fun k => ?_, Or.inr ⟨g, 0, cur, te, (0, 0), rfl, hh, fun j hj => ⟨?_, by simp⟩⟩⟩, hr, fun k hk hb => hd k ((hA k).2 (by simp [Value.ownBlock, hk.2])) hb, fun _ => Iff.rfl⟩, hc, fun k hk => hF0 k ((hF k).2 (hk.imp (fun h => (hA k).2 (by simp [Value.ownBlock, h.2])) id))⟩
    · constructor
      · rintro ⟨h1, rfl⟩; exact ⟨h1, _, rfl, rfl⟩
      · rintro ⟨h1, a, ha, rfl⟩
        obtain rfl := Option.some.inj ha
        exact ⟨h1, rfl⟩
    · have h1 : xs[j]? = some xs[j] := List.getElem?_eq_getElem hj
      have hl := hown.1
      generalize xs[j] = u at h1 ⊢
      rw [← htk, List.getElem?_take, if_pos (by omega)] at h1
      rw [Nat.zero_add, ← Array.getElem?_toList, h1]
theorem Turns.rown_form {F0 : Nat → Prop} {w0 w : World} {te : TypeId} {sz n : Nat} {v : Value} {xs : List Value} {R : HP} (h : Turns F0 w0 w (star (RowN te sz v n xs) R)) : ∃ A cap, v = .slice A n cap := rowN_form h.rowN

/-- The cells of rows of pairs. -/
def cellsP (L : List (Int × Int)) : List Value := L.flatMap fun p => [.int .i64 p.1, .int .i64 p.2]
theorem cellsP_length (L : List (Int × Int)) : (cellsP L).length = L.length * 2 := by
  induction L with
  | nil => rfl
  | cons p L ih => simp only [cellsP, List.flatMap_cons, List.length_append, List.length_cons, List.length_nil] at ih ⊢; omega
theorem cellsP_append (a b : List (Int × Int)) : cellsP (a ++ b) = cellsP a ++ cellsP b := by simp [cellsP]
theorem cellsP_at {L : List (Int × Int)} {j : Nat} (h : j < L.length) : (cellsP L)[j * 2]? = some (.int .i64 L[j].1) ∧ (cellsP L)[j * 2 + 1]? = some (.int .i64 L[j].2) := by
  have hx : cellsP L = cellsP (L.take j) ++ ([.int .i64 L[j].1, .int .i64 L[j].2] ++ cellsP (L.drop (j + 1))) := by
    conv => lhs; rw [← List.take_append_drop j L, List.drop_eq_getElem_cons h, cellsP_append]
    rfl
  have hl : (cellsP (L.take j)).length = j * 2 := by rw [cellsP_length, List.length_take]; omega
  rw [hx]
  constructor
  · rw [List.getElem?_append_right (by omega), hl, Nat.sub_self]; rfl
  · rw [List.getElem?_append_right (by omega), hl, Nat.add_sub_cancel_left]; rfl
theorem cellsP_one (L : List (Int × Int)) : ∀ u ∈ cellsP L, u.oneCell' = true := by
  intro u hu
  simp only [cellsP, List.mem_flatMap] at hu
  obtain ⟨p, _, hu⟩ := hu
  simp only [List.mem_cons, List.not_mem_nil, or_false] at hu
  rcases hu with rfl | rfl <;> rfl
end Go.Proofs.Ytkbebllkjmccoaa
