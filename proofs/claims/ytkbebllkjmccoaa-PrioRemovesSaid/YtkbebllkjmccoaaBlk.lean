/- A block of cells, and a row of its own, as things that lie apart. Conditions: as each says. -/
import Derived.Test.YtkbebllkjmccoaaSep
import Derived.Test.YtkbebllkjmccoaaAppend
import Derived.Test.YtkbebllkjmccoaaBox
namespace Go.Proofs.Ytkbebllkjmccoaa
open Go.RowKit Go.WideShapes

/-- Block b has the cells C. -/
def Blk (b : Nat) (C : Array Value) (ts : TypeId) : HP := fun w F => w.heap[b]? = some (.cells C ts (0, 0)) ∧ (∀ k, F k ↔ k = b)
instance Blk.stable (b : Nat) (C : Array Value) (ts : TypeId) : Stable (Blk b C ts) where
  lt := fun ⟨h, hF⟩ k hk => by rw [(hF k).1 hk]; exact lt_of_block h
  keep := fun ⟨h, hF⟩ hc hd => ⟨(hc.block b (lt_of_block h) (hd b ((hF b).2 rfl))).trans h, hF⟩
theorem Blk.made (w : World) (C : Array Value) (ts : TypeId) : Blk w.heap.size C ts (w.alloc (.cells C ts)) (fun k => k = w.heap.size) := ⟨heap_alloc_new w _, fun _ => Iff.rfl⟩
theorem Blk.cell {w : World} {F : Nat → Prop} {b : Nat} {C : Array Value} {ts : TypeId} (h : Blk b C ts w F) {j : Nat} {u : Value} (hj : C[j]? = some u) : w.cell? ⟨b, j, none⟩ = some u := by
  simp [World.cell?, h.1, hj]
theorem Blk.free {w : World} {F : Nat → Prop} {b : Nat} {C : Array Value} {ts : TypeId} (h : Blk b C ts w F) (j : Nat) : w.frozen? ⟨b, j, none⟩ = false := by
  simp [World.frozen?, h.1]
section
variable {F0 : Nat → Prop} {w0 w w' : World} {b : Nat} {C : Array Value} {ts te : TypeId} {R : HP} {v v' : Value} {xs more : List Value}
theorem Turns.blk (h : Turns F0 w0 w (star (Blk b C ts) R)) : w.heap[b]? = some (.cells C ts (0, 0)) ∧ b < w.heap.size ∧ (∀ (j : Nat) (u : Value), C[j]? = some u → w.cell? ⟨b, j, none⟩ = some u) ∧ (∀ j, w.frozen? ⟨b, j, none⟩ = false) := by
  obtain ⟨F, ⟨A, B, hp, _⟩, _⟩ := h
  exact ⟨hp.1, lt_of_block hp.1, fun j u hj => hp.cell hj, fun j => hp.free j⟩
/-- A cell is turned. -/
theorem Turns.blk_set (h : Turns F0 w0 w (star (Blk b C ts) R)) [hR : Stable R] (j : Nat) (u : Value) : Turns F0 w0 (w.setCell ⟨b, j, none⟩ u) (star (Blk b (C.setIfInBounds j u) ts) R) := by
  refine Turns.step h fun F hp => ⟨F, ⟨?_, hp.2⟩, Chg.setCell (Chg.refl _ _) (fun _ => (hp.2 b).2 rfl) _, fun k hk => Or.inl hk⟩
  exact heap_setCell_same w b j C ts u hp.1

/-- v is a row of the elements xs, one cell each, in a block of its own. -/
def RowW (te : TypeId) (v : Value) (xs : List Value) : HP := fun w F => w.ownsRow 0 te 1 v xs.length xs ∧ (∀ k, F k ↔ v.ownBlock = some k)
instance RowW.stable (te : TypeId) (v : Value) (xs : List Value) : Stable (RowW te v xs) where
  lt := fun ⟨h, hF⟩ k hk => (h.lt k ((hF k).1 hk)).2
  keep := fun ⟨h, hF⟩ hc hd => ⟨row_keep h hc (fun k hk => hd k ((hF k).2 hk)), hF⟩
theorem RowW.none (w : World) (te : TypeId) : RowW te (.slice none 0 0) [] w (fun _ => False) := ⟨World.ownsRow_nil _ _ _ _, fun k => by simp [Value.ownBlock]⟩
theorem Turns.row (h : Turns F0 w0 w (star (RowW te v xs) R)) : w.ownsRow 0 te 1 v xs.length xs := by
  obtain ⟨F, ⟨A, B, hp, _⟩, _⟩ := h
  exact hp.1
/-- It has grown. -/
theorem Turns.row_grow {m : Nat} (h : Turns F0 w0 w (star (RowW te v xs) R)) [hR : Stable R] (hm : more.length = m) (hown : w'.ownsRow 0 te 1 v' (xs.length + m) (xs ++ more)) (hgr : w.grownBy w' v.ownBlock) (hfr : ∀ k, v'.ownBlock = some k → v.ownBlock = some k ∨ w.heap.size ≤ k) :
    Turns F0 w0 w' (star (RowW te v' (xs ++ more)) R) := by
  subst hm
  refine Turns.step h fun F hp => ⟨fun k => v'.ownBlock = some k, ⟨by rw [List.length_append]; exact hown, fun _ => Iff.rfl⟩, (Chg.refl _ _).grown hgr (fun k hk _ => (hp.2 k).2 hk), fun k hk => (hfr k hk).imp (fun h => (hp.2 k).2 h) id⟩
end
end Go.Proofs.Ytkbebllkjmccoaa
