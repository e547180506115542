/- Plain facts on memory: what a call may change is told by a set of blocks; what lies outside it is as it was. No conditions but those that each names. -/
import Derived.Test.YtkbebllkjmccoaaRows
import Derived.Below
import Derived.Laws.OwnMore
import Derived.OwnWalk
import Derived.RowKit3
import Derived.WideShapes
import Derived.Laws.IdiomStrings
namespace Go.Proofs.Ytkbebllkjmccoaa
open Go.RowKit Go.WideShapes

/-- Only the blocks of F may have changed; there may be new ones. -/
structure Chg (F : Nat → Prop) (w w' : World) : Prop where
  os : w'.os = w.os
  tape : w'.tape = w.tape
  output : w'.output = w.output
  size : w.heap.size ≤ w'.heap.size
  block : ∀ k, k < w.heap.size → ¬ F k → w'.heap[k]? = w.heap[k]?

theorem Chg.refl (F : Nat → Prop) (w : World) : Chg F w w := ⟨rfl, rfl, rfl, Nat.le_refl _, fun _ _ _ => rfl⟩
theorem Chg.trans {F G : Nat → Prop} {a b c : World} (h : Chg F a b) (k : Chg G b c) (hG : ∀ i, i < a.heap.size → G i → F i) : Chg F a c :=
  ⟨k.os.trans h.os, k.tape.trans h.tape, k.output.trans h.output, Nat.le_trans h.size k.size,
    fun i hi hF => (k.block i (Nat.lt_of_lt_of_le hi h.size) (fun hg => hF (hG i hi hg))).trans (h.block i hi hF)⟩
theorem Chg.mono {F G : Nat → Prop} {a b : World} (h : Chg F a b) (hF : ∀ i, i < a.heap.size → F i → G i) : Chg G a b :=
  ⟨h.os, h.tape, h.output, h.size, fun i hi hG => h.block i hi (fun hf => hG (hF i hi hf))⟩
theorem Chg.drew {F : Nat → Prop} {a b : World} (h : Chg F a b) : Chg F a b.drew := ⟨h.os, h.tape, h.output, h.size, h.block⟩
theorem Chg.alloc {F : Nat → Prop} {a b : World} (h : Chg F a b) (o : Obj) : Chg F a (b.alloc o) :=
  ⟨h.os, h.tape, h.output, by have := h.size; simp; omega, fun i hi hF => (Below.heap_alloc b o i (Nat.lt_of_lt_of_le hi h.size)).trans (h.block i hi hF)⟩
theorem Chg.setCell {F : Nat → Prop} {a b : World} (h : Chg F a b) {p : Addr} (hp : p.block < a.heap.size → F p.block) (u : Value) : Chg F a (b.setCell p u) :=
  ⟨h.os, h.tape, h.output, by simpa [World.setCell] using h.size, fun i hi hF => by
    have hne : i ≠ p.block := fun e => by subst e; exact hF (hp hi)
    exact (Below.heap_setCell b p u i hne).trans (h.block i hi hF)⟩
theorem Chg.grown {F : Nat → Prop} {a b c : World} {row : Option Nat} (h : Chg F a b) (hg : b.grownBy c row) (hr : ∀ k, row = some k → k < a.heap.size → F k) : Chg F a c :=
  ⟨hg.os.trans h.os, hg.tape.trans h.tape, hg.output.trans h.output, Nat.le_trans h.size hg.size,
    fun i hi hF => (hg.block i (Nat.lt_of_lt_of_le hi h.size) (fun e => hF (hr i e.symm hi))).trans (h.block i hi hF)⟩
theorem Chg.below {F : Nat → Prop} {a b : World} {B : Nat} (h : Chg F a b) (hF : ∀ k, k < a.heap.size → F k → B ≤ k) (hB : B ≤ a.heap.size) : Below B a b :=
  ⟨h.os, h.tape, h.output, h.size, fun k hk => h.block k (by omega) (fun hf => by have := hF k (by omega) hf; omega)⟩
theorem Chg.of_below {F : Nat → Prop} {a b : World} (h : Below a.heap.size a b) : Chg F a b := ⟨h.os, h.tape, h.output, h.size, fun k hk _ => h.block k hk⟩
theorem Chg.cell {F : Nat → Prop} {a b : World} (h : Chg F a b) {p : Addr} (hp : p.block < a.heap.size) (hF : ¬ F p.block) : b.cell? p = a.cell? p := World.cell?_of_block (w := a) (h.block p.block hp hF)
theorem below_chg {F : Nat → Prop} {a b c : World} {B : Nat} (h : Below B a b) (k : Chg F b c) (hF : ∀ i, i < B → ¬ F i) (hB : B ≤ a.heap.size) : Below B a c :=
  ⟨k.os.trans h.os, k.tape.trans h.tape, k.output.trans h.output, Nat.le_trans h.size k.size,
    fun i hi => (k.block i (Nat.lt_of_lt_of_le hi (Nat.le_trans hB h.size)) (hF i hi)).trans (h.block i hi)⟩

/-! ### Bytes -/
/-- The cells of a row of bytes. -/
def cells8 (l : List UInt8) : List Value := l.map fun b => .int .u8 (b.toNat : Int)
theorem cells8_length (l : List UInt8) : (cells8 l).length = l.length := by simp [cells8]
theorem cells8_append (a b : List UInt8) : cells8 (a ++ b) = cells8 a ++ cells8 b := by simp [cells8]
theorem cells8_one (l : List UInt8) : ∀ u ∈ cells8 l, u.oneCell' = true := by
  intro u hu
  simp only [cells8, List.mem_map] at hu
  obtain ⟨x, _, rfl⟩ := hu
  rfl
theorem cells8_at {l : List UInt8} {j : Nat} (h : j < l.length) : (cells8 l)[j]? = some (.int .u8 (l[j].toNat : Int)) := by
  simp [cells8, List.getElem?_map, List.getElem?_eq_getElem h]
theorem cells8_some {l : List UInt8} {j : Nat} {u : Value} (h : (cells8 l)[j]? = some u) : ∃ hj : j < l.length, u = .int .u8 (l[j].toNat : Int) := by
  have hj : j < l.length := by
    rcases Nat.lt_or_ge j l.length with h1 | h1
    · exact h1
    · rw [List.getElem?_eq_none (by rw [cells8_length]; exact h1)] at h; cases h
  rw [cells8_at hj] at h
  exact ⟨hj, (Option.some.inj h).symm⟩

/-- The bytes lie at the address (any, where there are none), in blocks outside F. -/
def Lie8 (w : World) (F : Nat → Prop) (A : Option Addr) (l : List UInt8) : Prop :=
  l = [] ∨ ∃ a : Addr, A = some a ∧ a.block < w.heap.size ∧ ¬ F a.block ∧ ∀ j (h : j < l.length), w.cell? (a.add j) = some (.int .u8 (l[j].toNat : Int))
theorem block_add (a : Addr) (n : Nat) : (a.add n).block = a.block := by unfold Addr.add; split <;> rfl
theorem Lie8.nil (w : World) (F : Nat → Prop) (A : Option Addr) : Lie8 w F A [] := Or.inl rfl
theorem Lie8.chg {w w' : World} {F G : Nat → Prop} {A : Option Addr} {l : List UInt8} (h : Lie8 w F A l) (hc : Chg G w w') (hG : ∀ k, k < w.heap.size → G k → F k) : Lie8 w' F A l := by
  rcases h with rfl | ⟨a, rfl, hb, hF, hc'⟩
  · exact Or.inl rfl
  · exact Or.inr ⟨a, rfl, Nat.lt_of_lt_of_le hb hc.size, hF, fun j hj => (hc.cell (p := a.add j) (by rw [block_add]; exact hb) (by rw [block_add]; exact fun g => hF (hG _ hb g))).trans (hc' j hj)⟩
theorem Lie8.mono {w : World} {F G : Nat → Prop} {A : Option Addr} {l : List UInt8} (h : Lie8 w F A l) (hG : ∀ k, k < w.heap.size → G k → F k) : Lie8 w G A l := by
  rcases h with rfl | ⟨a, rfl, hb, hF, hc'⟩
  · exact Or.inl rfl
  · exact Or.inr ⟨a, rfl, hb, fun g => hF (hG _ hb g), hc'⟩
theorem Lie8.below {w w' : World} {F : Nat → Prop} {A : Option Addr} {l : List UInt8} (h : Lie8 w F A l) (hc : Below w.heap.size w w') : Lie8 w' F A l :=
  h.chg (Chg.of_below (F := fun _ => False) hc) (fun _ _ h => h.elim)
/-- A row of bytes of the call's own, as it lies. -/
theorem lie8_own {w : World} {base n : Nat} {e : TypeId} {v : Value} {l : List UInt8} {F : Nat → Prop} (h : w.ownsRow base e 1 v n (cells8 l)) (hF : ∀ k, v.ownBlock = some k → ¬ F k) :
    ∃ (A : Option Addr) (cap : Nat), v = .slice A n cap ∧ l.length = n ∧ n ≤ cap ∧ (A = none → cap = 0) ∧ Lie8 w F A l := by
  have hl : l.length = n := by have := h.1; rw [cells8_length] at this; omega
  rcases h.2 with ⟨rfl, rfl⟩ | ⟨g, cap, cur, rfl, _, _, hnc, _⟩
  · exact ⟨none, 0, rfl, hl, Nat.le_refl _, fun _ => rfl, Or.inl (List.eq_nil_of_length_eq_zero hl)⟩
  · exact ⟨_, cap, rfl, hl, hnc, (fun h => by cases h), Or.inr ⟨_, rfl, (h.lt g rfl).2, hF g rfl, fun j hj => h.cells (g := g) rfl j _ (cells8_at hj)⟩⟩
/-- 'string(b)'. -/
theorem conv8 {P : Program} {src dst e : TypeId} (hs : P.underlying src = some (.slice e)) (he : P.underlying e = some (.int .u8)) (hd : P.underlying dst = some .string)
    {w : World} {F : Nat → Prop} {A : Option Addr} {l : List UInt8} {n cap : Nat} (hn : l.length = n) (hA : A = none → n = 0) (h : Lie8 w F A l) : (convert src dst (.slice A n cap)).run P w = .ok (.string ⟨l.toArray⟩) w := by
  subst hn
  rcases A with _ | a
  · have hl : l = [] := List.eq_nil_of_length_eq_zero (hA rfl)
    subst hl
    rw [run_convert_bytes_string w src dst e none _ cap hs he hd]
    simp [Conv.bytesToString]
    rfl
  · refine run_convert_bytes_back w src dst e a cap l hs he hd (fun j hj => ?_)
    rcases h with rfl | ⟨a', ha, _, _, hc⟩
    · simp at hj
    · obtain rfl := Option.some.inj ha
      exact hc j hj
end Go.Proofs.Ytkbebllkjmccoaa
