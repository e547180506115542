/- What package sign's calls do, as plain facts, and what is asked of them (the statements of their contracts, over any layout in memory). Conditions: as each says. -/
import Derived.Test.YtalcncfgfehkdaaRising
namespace Go.Proofs.Ytalcncfgfehkdaa
open Go.RowKit Go.WideShapes

/-- What is asked of package sign's calls. IsB v L: v points to a book that has the pairs L (who, what). -/
structure SignApi where
  IsB : Value → List (Int × Int) → HP
  stable : ∀ v L, Stable (IsB v L)
  ptr : ∀ {v L w F}, IsB v L w F → ∃ a, v = .pointer (some a)
  new : ∀ w, Calls Try.prog 6 #[] w fun e w' => ∃ v F, e = .returned v ∧ IsB v [] w' F ∧ (∀ k, F k → w.heap.size ≤ k) ∧ Below w.heap.size w w'
  sign : ∀ {w v L F} (who d : Int), IsB v L w F → L.length ≤ 1000000 → I64 who → I64 d →
    Calls Try.prog 7 #[v, .int .i64 who, .int .i64 d] w fun e w' => e = .returned (.tuple #[]) ∧ Turns F w w' (IsB v (signAdd L (who, d)))
  has : ∀ {w v L F} (who d : Int), IsB v L w F → L.length ≤ 1000000 → I64 who → I64 d →
    Calls Try.prog 8 #[v, .int .i64 who, .int .i64 d] w fun e w' => e = .returned (.bool (decide ((who, d) ∈ L))) ∧ Below w.heap.size w w'
  all : ∀ {w v L F} (d : Int), IsB v L w F → L.length ≤ 1000000 → I64 d →
    Calls Try.prog 9 #[v, .int .i64 d] w fun e w' => ∃ x, e = .returned x ∧ Turns F w w' (star (RI x (allOf L d)) (IsB v L))

instance book_stable (T : SignApi) (v : Value) (L : List (Int × Int)) : Stable (T.IsB v L) := T.stable v L
section
variable {T : SignApi} {F0 : Nat → Prop} {w0 w w' : World} {v : Value} {L : List (Int × Int)} {R : HP}
theorem st_book (T : SignApi) {F0 : Nat → Prop} {w0 w : World} (h : Turns F0 w0 w R) [hR : Stable R] : Calls Try.prog 6 #[] w fun e w' => ∃ p, e = .returned (.pointer (some p)) ∧ Turns F0 w0 w' (star (T.IsB (.pointer (some p)) []) R) :=
  (T.new w).mono fun e w' ⟨v, F, he, ha, hF, hb⟩ => by
    obtain ⟨p, rfl⟩ := T.ptr ha
    exact ⟨p, he, h.add hb ha hF⟩
theorem Turns.sign (h : Turns F0 w0 w (star (T.IsB v L) R)) [hR : Stable R] (who d : Int) (hL : L.length ≤ 1000000) (hw : I64 who) (hd : I64 d) :
    Calls Try.prog 7 #[v, .int .i64 who, .int .i64 d] w fun e w' => e = .returned (.tuple #[]) ∧ Turns F0 w0 w' (star (T.IsB v (signAdd L (who, d))) R) := by
  refine (h.call (Q := fun e w' F => e = .returned (.tuple #[]) ∧ T.IsB v (signAdd L (who, d)) w' F) (fun F hp => (T.sign who d hp hL hw hd).mono ?_)).mono ?_
  · rintro e w' ⟨he, F', h1, h2, h3⟩
    exact ⟨F', ⟨he, h1⟩, h2, h3⟩
  · rintro e w' hs
    obtain ⟨F, ⟨A', B', ⟨he, hp⟩, r⟩, r2⟩ := hs
    exact ⟨he, F, ⟨A', B', hp, r⟩, r2⟩
theorem Turns.all (h : Turns F0 w0 w (star (T.IsB v L) R)) [hR : Stable R] (d : Int) (hL : L.length ≤ 1000000) (hd : I64 d) :
    Calls Try.prog 9 #[v, .int .i64 d] w fun e w' => ∃ x, e = .returned x ∧ Turns F0 w0 w' (star (RI x (allOf L d)) (star (T.IsB v L) R)) := by
  refine (h.call (Q := fun e w' F => ∃ x, e = .returned x ∧ star (RI x (allOf L d)) (T.IsB v L) w' F) (fun F hp => (T.all d hp hL hd).mono ?_)).mono ?_
  · rintro e w' ⟨x, he, F', h1, h2, h3⟩
    exact ⟨F', ⟨x, he, h1⟩, h2, h3⟩
  · rintro e w' hs
    obtain ⟨F, ⟨A', B', ⟨x, he, hp⟩, r⟩, r2⟩ := hs
    exact ⟨x, he, Turns.assoc ⟨F, ⟨A', B', hp, r⟩, r2⟩⟩
theorem Turns.has (h : Turns F0 w0 w (star (T.IsB v L) R)) [hR : Stable R] (who d : Int) (hL : L.length ≤ 1000000) (hw : I64 who) (hd : I64 d) :
    Calls Try.prog 8 #[v, .int .i64 who, .int .i64 d] w fun e w' => e = .returned (.bool (decide ((who, d) ∈ L))) ∧ Turns F0 w0 w' (star (T.IsB v L) R) ∧ Below w.heap.size w w' := by
  have h' := h
  obtain ⟨F, ⟨A, B, hp, _⟩, _⟩ := h
  exact (T.has who d hp hL hw hd).mono fun e w' ⟨he, hb⟩ => ⟨he, h'.more hb, hb⟩
theorem Turns.bookptr (h : Turns F0 w0 w (star (T.IsB v L) R)) : ∃ a, v = .pointer (some a) := by
  obtain ⟨F, ⟨A, B, hp, _⟩, _⟩ := h
  exact T.ptr hp
end
end Go.Proofs.Ytalcncfgfehkdaa
