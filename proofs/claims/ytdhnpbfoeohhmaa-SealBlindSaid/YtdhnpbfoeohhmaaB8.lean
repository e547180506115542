/- Rows of bytes of a law's own, as things that lie apart; and small facts on bytes. Conditions: as each says. -/
import Derived.Test.YtdhnpbfoeohhmaaSep
import Derived.OneCell
import Derived.Laws.BitsLemmas
import Derived.Laws.IdiomStrings
namespace Go.Proofs.Ytdhnpbfoeohhmaa
open Go.RowKit Go.WideShapes

/-- A row of bytes of the law's own, in a block of its own (none, where it is nil). -/
def B8 (x : Value) (l : List UInt8) : HP := fun w F => w.ownsRow 0 5 1 x l.length (cells8 l) ∧ (∀ k, F k ↔ x.ownBlock = some k)
instance B8.stable (x : Value) (l : List UInt8) : Stable (B8 x l) where
  lt := fun ⟨h, hF⟩ k hk => (h.lt k ((hF k).1 hk)).2
  keep := fun ⟨h, hF⟩ hc hd => by
    refine ⟨⟨h.1, ?_⟩, hF⟩
    rcases h.2 with h' | ⟨g, cap, cur, rfl, hg, hh, r⟩
    · exact Or.inl h'
    · have hFg := (hF g).2 rfl
      have hlt := (h.lt g rfl).2
      exact Or.inr ⟨g, cap, cur, rfl, hg, (hc.block g hlt (hd g hFg)).trans hh, r⟩
theorem B8.of {w : World} {B : Nat} {x : Value} {l : List UInt8} (h : w.ownsRow B 5 1 x l.length (cells8 l)) : B8 x l w (fun k => x.ownBlock = some k) :=
  ⟨⟨h.1, h.2.imp id (fun ⟨g, cap, cur, hv, _, r⟩ => ⟨g, cap, cur, hv, Nat.zero_le _, r⟩)⟩, fun _ => Iff.rfl⟩
/-- Its shape, and that it lies there. -/
theorem B8.lie {w : World} {F : Nat → Prop} {x : Value} {l : List UInt8} (h : B8 x l w F) : ∃ (A : Option Addr) (cap : Nat), x = .slice A l.length cap ∧ l.length ≤ cap ∧ (A = none → cap = 0) ∧ Lie8 w (fun _ => False) A l := by
  obtain ⟨A, cap, hx, _, hc, hn, hl⟩ := lie8_own (F := fun _ => False) h.1 (fun _ _ h => h)
  exact ⟨A, cap, hx, hc, hn, hl⟩
theorem Turns.lie {F0 : Nat → Prop} {w0 w : World} {x : Value} {l : List UInt8} {R : HP} (h : Turns F0 w0 w (star (B8 x l) R)) : ∃ (A : Option Addr) (cap : Nat), x = .slice A l.length cap ∧ l.length ≤ cap ∧ (A = none → cap = 0) ∧ Lie8 w (fun _ => False) A l := by
  obtain ⟨F, ⟨A, B, hp, _⟩, _⟩ := h
  exact hp.lie
/-- The cells of a row that is not empty; they may be written. -/
theorem B8.cells {w : World} {F : Nat → Prop} {x : Value} {l : List UInt8} (h : B8 x l w F) (h0 : l.length ≠ 0) :
    ∃ g cap, x = .slice (some ⟨g, 0, none⟩) l.length cap ∧ l.length ≤ cap ∧ g < w.heap.size ∧ F g ∧ (∀ j (h : j < l.length), w.cell? ⟨g, j, none⟩ = some (.int .u8 (l[j].toNat : Int))) ∧ (∀ j, w.frozen? ⟨g, j, none⟩ = false) := by
  rcases h.1.2 with ⟨_, h'⟩ | ⟨g, cap, cur, rfl, _, hh, hnc, hcm, hcs, htk⟩
  · exact absurd h' h0
  · have hlt : g < w.heap.size := (h.1.lt g rfl).2
    exact ⟨g, cap, rfl, hnc, hlt, (h.2 g).2 rfl, fun j hj => by rw [h.1.cellAt j (by omega), cells8_at hj], fun j => h.1.frozenAt j⟩
theorem Turns.cells {F0 : Nat → Prop} {w0 w : World} {x : Value} {l : List UInt8} {R : HP} (h : Turns F0 w0 w (star (B8 x l) R)) (h0 : l.length ≠ 0) :
    ∃ g cap, x = .slice (some ⟨g, 0, none⟩) l.length cap ∧ l.length ≤ cap ∧ g < w.heap.size ∧ (∀ j (h : j < l.length), w.cell? ⟨g, j, none⟩ = some (.int .u8 (l[j].toNat : Int))) ∧ (∀ j, w.frozen? ⟨g, j, none⟩ = false) := by
  obtain ⟨F, ⟨A, B, hp, _⟩, _⟩ := h
  obtain ⟨g, cap, h1, h2, h3, _, h4, h5⟩ := hp.cells h0
  exact ⟨g, cap, h1, h2, h3, h4, h5⟩
/-- A byte of it is turned. -/
theorem Turns.set8 {F0 : Nat → Prop} {w0 w : World} {g cap : Nat} {l : List UInt8} {R : HP} (h : Turns F0 w0 w (star (B8 (.slice (some ⟨g, 0, none⟩) l.length cap) l) R)) [hR : Stable R] (j : Nat) (b : UInt8) :
    Turns F0 w0 (w.setCell ⟨g, j, none⟩ (.int .u8 (b.toNat : Int))) (star (B8 (.slice (some ⟨g, 0, none⟩) l.length cap) (l.set j b)) R) := by
  refine Turns.step h fun F hp => ⟨F, ?_, ?_, fun k hk => Or.inl hk⟩
  · obtain ⟨h1, h2⟩ := hp
    refine ⟨?_, h2⟩
    have := (h1.stored j (.int .u8 (b.toNat : Int))).1
    have e : cells8 (l.set j b) = (cells8 l).set j (.int .u8 (b.toNat : Int)) := by simp [cells8, List.map_set]
    rw [e, List.length_set]
    exact this
  · exact Chg.setCell (Chg.refl _ _) (fun _ => (hp.2 g).2 rfl) _

theorem lie8_made (w : World) (l : List UInt8) (C : Array Value) (t : TypeId) (m : Nat × Nat) (h : C.toList = cells8 l) : Lie8 (w.alloc (.cells C t m)) (fun _ => False) (some ⟨w.heap.size, 0, none⟩) l := by
  refine Or.inr ⟨_, rfl, by simp, (fun h => h), fun j hj => ?_⟩
  rw [add_plain, Nat.zero_add]
  have hc : C[j]? = some (.int .u8 (l[j].toNat : Int)) := by rw [← Array.getElem?_toList, h, cells8_at hj]
  rw [World.cell?_alloc_mark]
  exact hc

theorem u8_info : (Try.prog.info? 5).map (fun i => (i.zero, i.size, i.bytes)) = some (some (.int .u8 0), 1, 1) := by kernel_rfl
/-- A row of bytes that a call told: its cells are the law's own, wherever they lie in their block, and may be written. -/
def R8 (x : Value) (l : List UInt8) : HP := fun w F => ∃ A cap, x = .slice A l.length cap ∧ l.length ≤ cap ∧ (A = none → cap = 0) ∧ (∀ k, F k ↔ (l ≠ [] ∧ ∃ a : Addr, A = some a ∧ a.block = k)) ∧
  (l = [] ∨ ∃ g off C t m, A = some ⟨g, off, none⟩ ∧ w.heap[g]? = some (.cells C t m) ∧ ∀ j (h : j < l.length), C[off + j]? = some (.int .u8 (l[j].toNat : Int)) ∧ ¬ (m.1 ≤ off + j ∧ off + j < m.2))
instance R8.stable (x : Value) (l : List UInt8) : Stable (R8 x l) where
  lt := fun ⟨A, cap, _, _, _, hF, hl⟩ k hk => by
    obtain ⟨hne, a, hA, rfl⟩ := (hF k).1 hk
    rcases hl with h | ⟨g, off, C, t, m, hA', hh, _⟩
    · exact absurd h hne
    · rw [hA] at hA'; obtain rfl := Option.some.inj hA'
      exact lt_of_block hh
  keep := fun ⟨A, cap, h1, h2, h3, hF, hl⟩ hc hd => by
    refine ⟨A, cap, h1, h2, h3, hF, ?_⟩
    rcases hl with h | ⟨g, off, C, t, m, hA, hh, hcl⟩
    · exact Or.inl h
    · by_cases hne : l = []
      · exact Or.inl hne
      · exact Or.inr ⟨g, off, C, t, m, hA, (hc.block g (lt_of_block hh) (hd g ((hF g).2 ⟨hne, _, hA, rfl⟩))).trans hh, hcl⟩
theorem R8.nil (w : World) : R8 (.slice none 0 0) [] w (fun _ => False) := ⟨none, 0, rfl, Nat.le_refl _, fun _ => rfl, fun k => by simp, Or.inl rfl⟩
theorem R8.of {w : World} {B : Nat} {x : Value} {l : List UInt8} (h : w.ownsRow B 5 1 x l.length (cells8 l)) : ∃ F, R8 x l w F ∧ (∀ k, F k → x.ownBlock = some k) := by
  rcases h.2 with ⟨rfl, h0⟩ | ⟨g, cap, cur, rfl, hb, hh, hnc, hcm, hcs, htk⟩
  · obtain rfl := List.eq_nil_of_length_eq_zero h0
    exact ⟨_, R8.nil w, fun _ h => h.elim⟩
  · refine ⟨fun k => l ≠ [] ∧ ∃ a : Addr, some (⟨g, 0, none⟩ : Addr) = some a ∧ a.block = k, ⟨_, cap, rfl, hnc, (fun h => by cases h), fun _ => Iff.rfl, Or.inr ⟨g, 0, cur, 5, (0, 0), rfl, hh, fun j hj => ⟨?_, by simp⟩⟩⟩, ?_⟩
    · have h1 := cells8_at hj
      rw [← htk, List.getElem?_take, if_pos (by omega)] at h1
      rw [Nat.zero_add, ← Array.getElem?_toList]
      exact h1
    · rintro k ⟨_, a, ha, rfl⟩
      obtain rfl := Option.some.inj ha
      rfl
/-- The bytes of a string, made just now. -/
theorem R8.was (w : World) (l : List UInt8) (c : Nat) (s : ByteArray) (hs : s = ⟨l.toArray⟩) (hc : s.size ≤ c) (m : Nat × Nat) (hm : (bytesRow s c).size ≤ m.1) :
    ∃ F, R8 (.slice (some ⟨w.heap.size, 0, none⟩) s.size c) l (w.alloc (.cells (bytesRow s c) 5 m)) F ∧ (∀ k, F k → w.heap.size ≤ k) := by
  have hsz : s.size = l.length := by rw [hs]; show l.toArray.size = _; simp
  refine ⟨fun k => l ≠ [] ∧ ∃ a : Addr, some (⟨w.heap.size, 0, none⟩ : Addr) = some a ∧ a.block = k, ⟨_, c, by rw [hsz], by omega, (fun h => by cases h), fun _ => Iff.rfl, Or.inr ⟨w.heap.size, 0, bytesRow s c, 5, m, rfl, heap_alloc_new w _, fun j hj => ⟨?_, ?_⟩⟩⟩, ?_⟩
  · subst hs
    rw [Nat.zero_add]
    unfold bytesRow
    rw [Array.getElem?_append_left (by simpa using hj)]
    simp [List.getElem?_eq_getElem hj]
  · have h1 : j < (bytesRow s c).size := by
      subst hs
      unfold bytesRow
      rw [Array.size_append]
      simp; omega
    omega
  · rintro k ⟨_, a, ha, rfl⟩
    obtain rfl := Option.some.inj ha
    exact Nat.le_refl _
theorem R8.lie {w : World} {F : Nat → Prop} {x : Value} {l : List UInt8} (h : R8 x l w F) : ∃ (A : Option Addr) (cap : Nat), x = .slice A l.length cap ∧ l.length ≤ cap ∧ (A = none → cap = 0) ∧ Lie8 w (fun _ => False) A l := by
  obtain ⟨A, cap, h1, h2, h3, _, hl⟩ := h
  refine ⟨A, cap, h1, h2, h3, ?_⟩
  rcases hl with h | ⟨g, off, C, t, m, hA, hh, hcl⟩
  · exact Or.inl h
  · exact Or.inr ⟨_, hA, lt_of_block hh, (fun h => h), fun j hj => by rw [add_plain]; simp [World.cell?, hh, (hcl j hj).1]⟩
theorem Turns.lieR {F0 : Nat → Prop} {w0 w : World} {x : Value} {l : List UInt8} {R : HP} (h : Turns F0 w0 w (star (R8 x l) R)) : ∃ (A : Option Addr) (cap : Nat), x = .slice A l.length cap ∧ l.length ≤ cap ∧ (A = none → cap = 0) ∧ Lie8 w (fun _ => False) A l := by
  obtain ⟨F, ⟨A, B, hp, _⟩, _⟩ := h
  exact hp.lie
theorem Turns.cellsR {F0 : Nat → Prop} {w0 w : World} {x : Value} {l : List UInt8} {R : HP} (h : Turns F0 w0 w (star (R8 x l) R)) (h0 : l.length ≠ 0) :
    ∃ g off cap, x = .slice (some ⟨g, off, none⟩) l.length cap ∧ l.length ≤ cap ∧ g < w.heap.size ∧ ∀ j (h : j < l.length), w.cell? ⟨g, off + j, none⟩ = some (.int .u8 (l[j].toNat : Int)) ∧ w.frozen? ⟨g, off + j, none⟩ = false := by
  obtain ⟨F, ⟨A, B, ⟨A', cap, h1, h2, h3, _, hl⟩, _⟩, _⟩ := h
  rcases hl with h | ⟨g, off, C, t, m, rfl, hh, hcl⟩
  · rw [h] at h0; simp at h0
  · refine ⟨g, off, cap, h1, h2, lt_of_block hh, fun j hj => ⟨by simp [World.cell?, hh, (hcl j hj).1], ?_⟩⟩
    have := (hcl j hj).2
    simp only [World.frozen?, hh]
    simpa using this
/-- A byte of it is turned. -/
theorem Turns.setR {F0 : Nat → Prop} {w0 w : World} {g off cap : Nat} {l : List UInt8} {R : HP} (h : Turns F0 w0 w (star (R8 (.slice (some ⟨g, off, none⟩) l.length cap) l) R)) [hR : Stable R] (j : Nat) (hj : j < l.length) (b : UInt8) :
    Turns F0 w0 (w.setCell ⟨g, off + j, none⟩ (.int .u8 (b.toNat : Int))) (star (R8 (.slice (some ⟨g, off, none⟩) l.length cap) (l.set j b)) R) := by
  have hne : l ≠ [] := fun h => by rw [h] at hj; simp at hj
  have hne2 : l.set j b ≠ [] := fun h => by have := congrArg List.length h; simp at this; exact hne this
  refine Turns.step h fun F hp => ⟨F, ?_, ?_, fun k hk => Or.inl hk⟩
  · obtain ⟨A, cap', h1, h2, h3, hF, hl⟩ := hp
    injection h1 with e1 _ e2
    subst e1; subst e2
    rcases hl with h | ⟨g', off', C, t, m, hA, hh, hcl⟩
    · exact absurd h hne
    · injection hA with hA
      injection hA with e1 e2 _
      subst e1; subst e2
      refine ⟨_, cap, by rw [List.length_set], by rw [List.length_set]; exact h2, (fun h => by cases h), fun k => ?_, Or.inr ⟨g, off, C.setIfInBounds (off + j) (.int .u8 (b.toNat : Int)), t, m, rfl, ?_, fun i hi => ?_⟩⟩
      · rw [hF k]
        exact ⟨fun ⟨_, r⟩ => ⟨hne2, r⟩, fun ⟨_, r⟩ => ⟨hne, r⟩⟩
      · rw [setCell_eq_setRow w g (off + j) C t m _ hh]
        exact setRow_heap w g C _ t _ hh
      · rw [List.length_set] at hi
        refine ⟨?_, (hcl i hi).2⟩
        by_cases e : i = j
        · subst e
          have hlt : off + i < C.size := by
            rcases Nat.lt_or_ge (off + i) C.size with h | h
            · exact h
            · have := (hcl i hj).1; rw [Array.getElem?_eq_none h] at this; cases this
          rw [Array.getElem?_setIfInBounds_self_of_lt hlt]
          simp
        · rw [Array.getElem?_setIfInBounds_ne (by omega), (hcl i hi).1]
          congr 4
          rw [List.getElem_set_ne (by omega)]
  · obtain ⟨A, cap', h1, _, _, hF, _⟩ := hp
    injection h1 with e1 _ e2
    exact Chg.setCell (Chg.refl _ _) (fun _ => (hF g).2 ⟨hne, _, e1.symm, rfl⟩) _
/-- The bytes of a string, made just now. -/
theorem lie8_was (w : World) (t : List UInt8) (c : Nat) (m : Nat × Nat) (was : ByteArray) (h : was = ⟨t.toArray⟩) : Lie8 (w.alloc (.cells (bytesRow was c) 5 m)) (fun _ => False) (some ⟨w.heap.size, 0, none⟩) t := by
  refine Or.inr ⟨_, rfl, by simp, (fun h => h), fun j hj => ?_⟩
  rw [add_plain, Nat.zero_add, World.cell?_alloc_mark]
  subst h
  unfold bytesRow
  rw [Array.getElem?_append_left (by simpa using hj)]
  simp [List.getElem?_eq_getElem hj]
theorem and_mask (n : Int) (k : Nat) (m : Int) (hm : (BitVec.ofInt 64 m).toNat = 2 ^ k - 1) (hk : k < 63) : bits .and .i64 n m = n % 2 ^ k := by
  have key : (BitVec.ofInt 64 n &&& BitVec.ofInt 64 m).toNat = (n % ((2 ^ 64 : Nat) : Int)).toNat % 2 ^ k := by
    rw [BitVec.toNat_and, BitVec.toNat_ofInt, hm, Nat.and_two_pow_sub_one_eq_mod]
  show IntKind.i64.wrap ((BitVec.ofInt 64 n &&& BitVec.ofInt 64 m).toNat : Nat) = n % 2 ^ k
  rw [key, IntKind.wrap_i64]
  have h1 : (2 : Nat) ^ k ≤ 2 ^ 62 := Nat.pow_le_pow_right (by decide) (by omega)
  have h2 : (n % ((2 ^ 64 : Nat) : Int)).toNat % 2 ^ k < 2 ^ k := Nat.mod_lt _ (Nat.pow_pos (by decide))
  have h3 : (((n % ((2 ^ 64 : Nat) : Int)).toNat % 2 ^ k : Nat) : Int) = n % 2 ^ k := by
    rw [Int.natCast_emod, Int.toNat_of_nonneg (Int.emod_nonneg _ (by decide))]
    have hd : ((2 ^ k : Nat) : Int) ∣ ((2 ^ 64 : Nat) : Int) := Int.natCast_dvd_natCast.2 (Nat.pow_dvd_pow 2 (by omega))
    have := Int.emod_emod_of_dvd n hd
    rw [this]
    norm_cast
  rw [← h3]
  omega
theorem and255 (n : Int) : bits .and .i64 n 255 = n % 256 := and_mask n 8 255 (by decide) (by decide)
theorem and31 (n : Int) : bits .and .i64 n 31 = n % 32 := and_mask n 5 31 (by decide) (by decide)
theorem and65535 (n : Int) : bits .and .i64 n 65535 = n % 65536 := and_mask n 16 65535 (by decide) (by decide)
end Go.Proofs.Ytdhnpbfoeohhmaa
