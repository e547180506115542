/- A reader of package wire, and what its calls do. Conditions: a reader that Read made. -/
import Derived.Test.YtcnnfmooigfeiaaWireW2
import Derived.Deep.Slices
namespace Go.Proofs.Ytcnnfmooigfeiaa
open Go.RowKit Go.WideShapes

/-- A reader at block b: two cells; its row of bytes lies in other blocks. -/
def RdAt (w : World) (b : Nat) (A : Option Addr) (l : List UInt8) (cap : Nat) (bad : Bool) : Prop :=
  w.heap[b]? = some (.cells #[.slice A l.length cap, .bool bad] 56 (0, 0)) ∧ l.length ≤ cap ∧ l.length ≤ 1073741824 ∧ (A = none → cap = 0) ∧ Lie8 w (fun k => k = b) A l
/-- The blocks of a reader. -/
def RdIn (b : Nat) (A : Option Addr) (l : List UInt8) (k : Nat) : Prop := k = b ∨ (l ≠ [] ∧ ∃ a : Addr, A = some a ∧ a.block = k)
/-- What is left to the reader. -/
def RdSt (w : World) (b : Nat) (s : Left8) (F : Nat → Prop) : Prop :=
  match s with
  | some l => ∃ A cap, RdAt w b A l cap false ∧ (∀ k, F k ↔ RdIn b A l k)
  | none => RdAt w b none [] 0 true ∧ (∀ k, F k ↔ k = b)
def IsRd (w : World) (v : Value) (s : Left8) (F : Nat → Prop) : Prop := ∃ b, v = .pointer (some ⟨b, 0, none⟩) ∧ RdSt w b s F

theorem two_cells {w : World} {b : Nat} {u v : Value} {t : TypeId} (h : w.heap[b]? = some (.cells #[u, v] t (0, 0))) :
    w.cell? ⟨b, 0, none⟩ = some u ∧ w.cell? ⟨b, 1, none⟩ = some v ∧ w.frozen? ⟨b, 0, none⟩ = false ∧ w.frozen? ⟨b, 1, none⟩ = false := by
  refine ⟨?_, ?_, ?_, ?_⟩ <;> simp [World.cell?, World.frozen?, h]
theorem two_set0 {w : World} {b : Nat} {u v x : Value} {t : TypeId} (h : w.heap[b]? = some (.cells #[u, v] t (0, 0))) : (w.setCell ⟨b, 0, none⟩ x).heap[b]? = some (.cells #[x, v] t (0, 0)) := by
  have hlt := lt_of_block h
  have h' : w.heap[b] = .cells #[u, v] t (0, 0) := by simpa [Array.getElem?_eq_getElem hlt] using h
  show (w.heap.modify b _)[b]? = _
  rw [Array.getElem?_eq_getElem (by simpa using hlt), Array.getElem_modify_self, h']
  rfl
theorem two_set1 {w : World} {b : Nat} {u v x : Value} {t : TypeId} (h : w.heap[b]? = some (.cells #[u, v] t (0, 0))) : (w.setCell ⟨b, 1, none⟩ x).heap[b]? = some (.cells #[u, x] t (0, 0)) := by
  have hlt := lt_of_block h
  have h' : w.heap[b] = .cells #[u, v] t (0, 0) := by simpa [Array.getElem?_eq_getElem hlt] using h
  show (w.heap.modify b _)[b]? = _
  rw [Array.getElem?_eq_getElem (by simpa using hlt), Array.getElem_modify_self, h']
  rfl

/-- The next n bytes, and what is left. -/
def takeN (s : Left8) (n : Int) : List UInt8 × Left8 :=
  match s with
  | none => ([], none)
  | some l => if (l.length : Int) < n then ([], none) else (l.take n.toNat, some (l.drop n.toNat))

theorem chg_set (w : World) (b off : Nat) (u : Value) : Chg (fun k => k = b) w (w.setCell ⟨b, off, none⟩ u) := by
  have h : Chg (fun k => k = b) w w := Chg.refl _ _
  exact h.setCell (p := ⟨b, off, none⟩) (fun _ => rfl) u

theorem lie8_take {w : World} {F : Nat → Prop} {A : Option Addr} {l : List UInt8} (h : Lie8 w F A l) (n : Nat) : Lie8 w F A (l.take n) := by
  rcases h with rfl | ⟨a, rfl, hb, hF, hc⟩
  · exact Or.inl (by simp)
  · exact Or.inr ⟨a, rfl, hb, hF, fun j hj => by
      rw [List.length_take] at hj
      rw [hc j (by omega), List.getElem_take]⟩
theorem lie8_drop {w : World} {F : Nat → Prop} {a : Addr} {l : List UInt8} (h : Lie8 w F (some a) l) (n : Nat) : Lie8 w F (some (a.add n)) (l.drop n) := by
  rcases h with rfl | ⟨a', ha, hb, hF, hc⟩
  · exact Or.inl (by simp)
  · obtain rfl := Option.some.inj ha
    exact Or.inr ⟨_, rfl, by rw [block_add]; exact hb, by rw [block_add]; exact hF, fun j hj => by
      rw [List.length_drop] at hj
      rw [Go.Deep.add_add, hc (n + j) (by omega), List.getElem_drop]⟩

/-- What next leaves: the bytes that were taken lie where they lay, and the reader has the rest. -/
def NextEnds (w : World) (b : Nat) (F : Nat → Prop) (t : List UInt8) (s : Left8) (e : Ending) (w' : World) : Prop :=
  ∃ A cap F', e = .returned (.slice A t.length cap) ∧ t.length ≤ cap ∧ (A = none → cap = 0) ∧ Lie8 w' (fun k => k = b) A t ∧ RdSt w' b s F' ∧ Chg (fun k => k = b) w w' ∧ (∀ k, F' k → F k)

theorem next_end {w : World} {b : Nat} {l : List UInt8} {F : Nat → Prop} {A B : Option Addr} {cap n m c : Nat} (h : RdAt w b A l cap false) (hF : ∀ k, F k ↔ RdIn b A l k) (hn : n ≤ l.length) (hm : l.length - n = m) (hcm : cap - n = c)
    (hB : (B = A ∧ cap = n) ∨ B = A.map (·.add n)) : NextEnds w b F (l.take n) (some (l.drop n)) (.returned (.slice A n cap)) (w.setCell ⟨b, 0, none⟩ (.slice B m c)) := by
  obtain ⟨hb, hlc, hc63, hA, hlie⟩ := h
  subst hm; subst hcm
  have hc := chg_set w b 0 (.slice B (l.length - n) (cap - n))
  have hb' := two_set0 (x := .slice B (l.length - n) (cap - n)) hb
  have e1 : (l.take n).length = n := by rw [List.length_take]; omega
  have e2 : (l.drop n).length = l.length - n := by rw [List.length_drop]
  have lift : ∀ {A t}, Lie8 w (fun k => k = b) A t → Lie8 (w.setCell ⟨b, 0, none⟩ (.slice B (l.length - n) (cap - n))) (fun k => k = b) A t := fun h => h.chg hc (fun _ _ h => h)
  refine ⟨A, cap, RdIn b B (l.drop n), by rw [e1], by rw [e1]; omega, hA, lift (lie8_take hlie n), ⟨B, cap - n, ⟨by rw [e2]; exact hb', by omega, by omega, ?_, ?_⟩, fun _ => Iff.rfl⟩, hc, ?_⟩
  · intro hB0
    rcases hB with ⟨_, h⟩ | h
    · omega
    · have : A = none := by
        rcases A with _ | a
        · rfl
        · rw [hB0] at h; cases h
      have := hA this; omega
  · rcases hB with ⟨rfl, h⟩ | rfl
    · have : l.drop n = [] := List.drop_eq_nil_of_le (by omega)
      rw [this]; exact Or.inl rfl
    · rcases A with _ | a
      · have := hA rfl
        have : l.drop n = [] := List.drop_eq_nil_of_le (by omega)
        rw [this]; exact Or.inl rfl
      · exact lift (lie8_drop hlie n)
  · intro k hk
    refine (hF k).2 ?_
    rcases hk with hk | ⟨hne, a, ha, hak⟩
    · exact Or.inl hk
    · have hl : l ≠ [] := fun h => hne (by rw [h]; simp)
      rcases hB with ⟨rfl, _⟩ | rfl
      · exact Or.inr ⟨hl, a, ha, hak⟩
      · rcases A with _ | a0
        · simp at ha
        · simp only [Option.map_some, Option.some.injEq] at ha
          subst ha
          exact Or.inr ⟨hl, a0, rfl, by rw [block_add] at hak; exact hak⟩

set_option maxRecDepth 100000 in
set_option maxHeartbeats 1600000 in
theorem next_more {w : World} {b : Nat} {l : List UInt8} {F : Nat → Prop} (n : Nat) (h : RdSt w b (some l) F) (hle : n ≤ l.length) :
    Calls Try.prog 24 #[.pointer (some ⟨b, 0, none⟩), .int .u64 n] w (NextEnds w b F (l.take n) (some (l.drop n))) := by
  obtain ⟨A, cap, hat, hF⟩ := h
  have HAT := Lib.hid hat
  obtain ⟨hb, hlc, hc63, _, _⟩ := hat
  obtain ⟨k0, k1, f0, f1⟩ := two_cells hb
  have hlt := lt_of_block hb
  have HF := Lib.hid hF
  have hl0 : (l.length : Int) ≤ 9223372036854775807 := by omega
  have hn0 : (n : Int) ≤ l.length := by omega
  have hnc : (n : Int) ≤ cap := by omega
  have hn3 : (n : Int) ≤ 9223372036854775807 := by omega
  have HLE := Lib.hid hle
  have HC := Lib.hid hlc
  clear hb hF hlc hc63 hle
  by_cases hcn : cap = n
  · have HCN := Lib.hid hcn
    subst hcn
    go_enter Try.func24, Try.ntmps24
    go_wp2
    go_ret
    exact next_end HAT.out HF.out HLE.out rfl (Nat.sub_self _) (Or.inl ⟨rfl, rfl⟩)
  · go_enter Try.func24, Try.ntmps24
    go_wp2
    go_ret
    exact next_end HAT.out HF.out HLE.out rfl rfl (Or.inr rfl)

theorem fall_end {w : World} {b : Nat} {u v : Value} {F : Nat → Prop} (hb : w.heap[b]? = some (.cells #[u, v] 56 (0, 0))) (hF : F b) :
    NextEnds w b F [] none (.returned (.slice none 0 0)) ((w.setCell ⟨b, 0, none⟩ (.slice none 0 0)).setCell ⟨b, 1, none⟩ (.bool true)) := by
  have h1 := two_set0 (x := .slice none 0 0) hb
  have h2 := two_set1 (x := .bool true) h1
  refine ⟨none, 0, fun k => k = b, rfl, Nat.le_refl _, fun _ => rfl, Or.inl rfl, ⟨⟨h2, Nat.le_refl _, by decide, fun _ => rfl, Or.inl rfl⟩, fun _ => Iff.rfl⟩, (chg_set w b 0 _).trans (chg_set _ b 1 _) (fun _ _ h => h), fun k hk => by rw [hk]; exact hF⟩

set_option maxRecDepth 100000 in
set_option maxHeartbeats 1600000 in
theorem next_fall {w : World} {b m c : Nat} {A : Option Addr} {v : Value} {F : Nat → Prop} (n : Int) (hb : w.heap[b]? = some (.cells #[.slice A m c, v] 56 (0, 0))) (hF : F b) (hm : (m : Int) ≤ 9223372036854775807) (hn : Word n) (hlt : (m : Int) < n) :
    Calls Try.prog 24 #[.pointer (some ⟨b, 0, none⟩), .int .u64 n] w (NextEnds w b F [] none) := by
  obtain ⟨hn0, hn1⟩ := hn
  obtain ⟨k0, k1, f0, f1⟩ := two_cells hb
  have HB := Lib.hid hb
  have HF := Lib.hid hF
  clear hb hF
  go_enter Try.func24, Try.ntmps24
  go_wp2
  go_ret
  exact fall_end HB.out HF.out

theorem zero_end {w : World} {b : Nat} {F : Nat → Prop} (hb : w.heap[b]? = some (.cells #[.slice none 0 0, .bool true] 56 (0, 0))) (hF : ∀ k, F k ↔ k = b) :
    NextEnds w b F [] none (.returned (.slice none 0 0)) (w.setCell ⟨b, 0, none⟩ (.slice none 0 0)) :=
  ⟨none, 0, fun k => k = b, rfl, Nat.le_refl _, fun _ => rfl, Or.inl rfl, ⟨⟨two_set0 hb, Nat.le_refl _, by decide, fun _ => rfl, Or.inl rfl⟩, fun _ => Iff.rfl⟩, chg_set w b 0 _, fun k hk => (hF k).2 hk⟩

set_option maxRecDepth 100000 in
set_option maxHeartbeats 1600000 in
theorem next_zero {w : World} {b : Nat} {F : Nat → Prop} (h : RdSt w b none F) :
    Calls Try.prog 24 #[.pointer (some ⟨b, 0, none⟩), .int .u64 0] w (NextEnds w b F [] none) := by
  obtain ⟨⟨hb, _⟩, hF⟩ := h
  obtain ⟨k0, k1, f0, f1⟩ := two_cells hb
  have HB := Lib.hid hb
  have HF := Lib.hid hF
  clear hb hF
  go_enter Try.func24, Try.ntmps24
  go_wp2
  go_ret
  exact zero_end HB.out HF.out
theorem next_any {w : World} {b : Nat} {s : Left8} {F : Nat → Prop} (n : Int) (h : RdSt w b s F) (hn : Word n) :
    Calls Try.prog 24 #[.pointer (some ⟨b, 0, none⟩), .int .u64 n] w (NextEnds w b F (takeN s n).1 (takeN s n).2) := by
  rcases s with _ | l
  · have h' := h
    obtain ⟨⟨hb, _⟩, hF⟩ := h
    rcases Int.lt_or_le 0 n with h0 | h0
    · exact next_fall n hb ((hF b).2 rfl) (by decide) hn h0
    · have : n = 0 := by have := hn.1; omega
      subst this
      exact next_zero h'
  · rcases Int.lt_or_le (l.length : Int) n with h0 | h0
    · obtain ⟨A, cap, hat, hF⟩ := h
      simp only [takeN, if_pos h0]
      obtain ⟨hb, hlc, hc63, _⟩ := hat
      exact next_fall n hb ((hF b).2 (Or.inl rfl)) (by omega) hn h0
    · obtain ⟨k, rfl⟩ : ∃ k : Nat, n = k := ⟨n.toNat, by have := hn.1; omega⟩
      simp only [takeN, if_neg (Int.not_lt.2 h0), Int.toNat_natCast]
      exact next_more k h (by omega)
end Go.Proofs.Ytcnnfmooigfeiaa
