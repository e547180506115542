/- What package term's calls do, as plain facts, and what is asked of them (the statements of their contracts, over any layout in memory). Conditions: as each says. -/
import Derived.Test.YtlodklmcamanpaaB8
import Derived.Lib.Hide
namespace Go.Proofs.Ytlodklmcamanpaa
open Go.RowKit Go.WideShapes

/-- The number of a row: its place, counted from 1; behind all, where it is new. -/
def digOf (L : List (List UInt8)) (t : List UInt8) : Int := (L.idxOf t : Int) + 1
def digAdd (L : List (List UInt8)) (t : List UInt8) : List (List UInt8) := if t ∈ L then L else L ++ [t]
def ofOk (L : List (List UInt8)) (d : Int) : Bool := decide (1 ≤ d ∧ d ≤ L.length)
def ofRow (L : List (List UInt8)) (d : Int) : List UInt8 := if 1 ≤ d ∧ d ≤ L.length then L.getD (d - 1).toNat [] else []
theorem digOf_old {L : List (List UInt8)} {t : List UInt8} (i : Nat) (h : L.idxOf t = i) : digOf L t = (i : Int) + 1 := by rw [digOf, h]
theorem digOf_new {L : List (List UInt8)} {t : List UInt8} (h : t ∉ L) : digOf L t = (L.length : Int) + 1 := by rw [digOf, List.idxOf_eq_length h]
theorem digAdd_old {L : List (List UInt8)} {t : List UInt8} (h : t ∈ L) : digAdd L t = L := if_pos h
theorem digAdd_new {L : List (List UInt8)} {t : List UInt8} (h : t ∉ L) : digAdd L t = L ++ [t] := if_neg h
theorem digAdd_length (L : List (List UInt8)) (t : List UInt8) : (digAdd L t).length ≤ L.length + 1 := by unfold digAdd; split <;> simp
theorem digOf_pos (L : List (List UInt8)) (t : List UInt8) : 1 ≤ digOf L t ∧ digOf L t ≤ L.length + 1 := by
  have : L.idxOf t ≤ L.length := List.idxOf_le_length
  unfold digOf; omega

/-- What is asked of package term's calls. IsA v L: v points to an arena that has the rows L. -/
structure TermApi where
  IsA : Value → List (List UInt8) → HP
  stable : ∀ v L, Stable (IsA v L)
  ptr : ∀ {v L w F}, IsA v L w F → ∃ a, v = .pointer (some a)
  new : ∀ w, Calls Try.prog 7 #[] w fun e w' => ∃ v F, e = .returned v ∧ IsA v [] w' F ∧ (∀ k, F k → w.heap.size ≤ k) ∧ Below w.heap.size w w'
  digest : ∀ {w v L F} (A : Option Addr) (n cap : Nat) (t : List UInt8), IsA v L w F → L.length ≤ 1000000 → t.length = n → n ≤ 1073741824 → n ≤ cap → (A = none → cap = 0) → Lie8 w (fun _ => False) A t →
    Calls Try.prog 8 #[v, .slice A n cap] w fun e w' => e = .returned (.int .i64 (digOf L t)) ∧ Turns F w w' (IsA v (digAdd L t))
  of : ∀ {w v L F} (d : Int), IsA v L w F → L.length ≤ 1000000 → -9223372036854775808 ≤ d → d < 9223372036854775808 →
    Calls Try.prog 11 #[v, .int .i64 d] w fun e w' => ∃ x, e = .returned (.tuple #[x, .bool (ofOk L d)]) ∧ Turns F w w' (star (R8 x (ofRow L d)) (IsA v L))
  len : ∀ {w v L F}, IsA v L w F → L.length ≤ 1000000 → Calls Try.prog 9 #[v] w fun e w' => e = .returned (.int .i64 L.length) ∧ Below w.heap.size w w'

instance arena_stable (T : TermApi) (v : Value) (L : List (List UInt8)) : Stable (T.IsA v L) := T.stable v L
section
variable {T : TermApi} {F0 : Nat → Prop} {w0 w w' : World} {v : Value} {L : List (List UInt8)} {R : HP}
theorem st_arena (T : TermApi) {F0 : Nat → Prop} {w0 w : World} (h : Turns F0 w0 w R) [hR : Stable R] : Calls Try.prog 7 #[] w fun e w' => ∃ p, e = .returned (.pointer (some p)) ∧ Turns F0 w0 w' (star (T.IsA (.pointer (some p)) []) R) :=
  (T.new w).mono fun e w' ⟨v, F, he, ha, hF, hb⟩ => by
    obtain ⟨p, rfl⟩ := T.ptr ha
    exact ⟨p, he, h.add hb ha hF⟩
theorem Turns.digest (h : Turns F0 w0 w (star (T.IsA v L) R)) [hR : Stable R] (A : Option Addr) (n cap : Nat) (t : List UInt8) (hL : L.length ≤ 1000000) (ht : t.length = n) (hn : n ≤ 1073741824) (hc : n ≤ cap) (hA : A = none → cap = 0) (hl : Lie8 w (fun _ => False) A t) :
    Calls Try.prog 8 #[v, .slice A n cap] w fun e w' => e = .returned (.int .i64 (digOf L t)) ∧ Turns F0 w0 w' (star (T.IsA v (digAdd L t)) R) := by
  refine (h.call (Q := fun e w' F => e = .returned (.int .i64 (digOf L t)) ∧ T.IsA v (digAdd L t) w' F) (fun F hp => (T.digest A n cap t hp hL ht hn hc hA hl).mono ?_)).mono ?_
  · rintro e w' ⟨he, F', h1, h2, h3⟩
    exact ⟨F', ⟨he, h1⟩, h2, h3⟩
  · rintro e w' hs
    obtain ⟨F, ⟨A', B', ⟨he, hp⟩, r⟩, r2⟩ := hs
    exact ⟨he, F, ⟨A', B', hp, r⟩, r2⟩
theorem Turns.of (h : Turns F0 w0 w (star (T.IsA v L) R)) [hR : Stable R] (d : Int) (hL : L.length ≤ 1000000) (h0 : -9223372036854775808 ≤ d) (h1 : d < 9223372036854775808) :
    Calls Try.prog 11 #[v, .int .i64 d] w fun e w' => ∃ x, e = .returned (.tuple #[x, .bool (ofOk L d)]) ∧ Turns F0 w0 w' (star (R8 x (ofRow L d)) (star (T.IsA v L) R)) := by
  refine (h.call (Q := fun e w' F => ∃ x, e = .returned (.tuple #[x, .bool (ofOk L d)]) ∧ star (R8 x (ofRow L d)) (T.IsA v L) w' F) (fun F hp => (T.of d hp hL h0 h1).mono ?_)).mono ?_
  · rintro e w' ⟨x, he, F', h1, h2, h3⟩
    exact ⟨F', ⟨x, he, h1⟩, h2, h3⟩
  · rintro e w' hs
    obtain ⟨F, ⟨A', B', ⟨x, he, hp⟩, r⟩, r2⟩ := hs
    exact ⟨x, he, Turns.assoc ⟨F, ⟨A', B', hp, r⟩, r2⟩⟩
theorem Turns.len (h : Turns F0 w0 w (star (T.IsA v L) R)) [hR : Stable R] (hL : L.length ≤ 1000000) :
    Calls Try.prog 9 #[v] w fun e w' => e = .returned (.int .i64 L.length) ∧ Turns F0 w0 w' (star (T.IsA v L) R) ∧ Below w.heap.size w w' := by
  have h' := h
  obtain ⟨F, ⟨A, B, hp, _⟩, _⟩ := h
  exact (T.len hp hL).mono fun e w' ⟨he, hb⟩ => ⟨he, h'.more hb, hb⟩
theorem Turns.ptr (h : Turns F0 w0 w (star (T.IsA v L) R)) : ∃ a, v = .pointer (some a) := by
  obtain ⟨F, ⟨A, B, hp, _⟩, _⟩ := h
  exact T.ptr hp
end
end Go.Proofs.Ytlodklmcamanpaa
