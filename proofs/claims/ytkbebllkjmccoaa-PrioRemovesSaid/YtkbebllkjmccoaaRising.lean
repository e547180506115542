/- Rising rows of ints, and all who did a thing, as plain facts. No conditions but those that each names. -/
import Derived.Test.YtkbebllkjmccoaaTold
import Derived.Lib.Hide
namespace Go.Proofs.Ytkbebllkjmccoaa
open Go.RowKit Go.WideShapes

/-- A rising row with one more. -/
def rising : List Int → Int → List Int
  | [], n => [n]
  | x :: l, n => if n < x then n :: x :: l else if n = x then x :: l else x :: rising l n
theorem mem_rising {x n : Int} {l : List Int} : x ∈ rising l n ↔ x = n ∨ x ∈ l := by
  induction l with
  | nil => simp [rising]
  | cons y l ih =>
    unfold rising
    split
    · simp
    · split
      · next h => subst h; simp
      · simp only [List.mem_cons, ih]
        constructor
        · rintro (h | h | h)
          · exact Or.inr (Or.inl h)
          · exact Or.inl h
          · exact Or.inr (Or.inr h)
        · rintro (h | h | h)
          · exact Or.inr (Or.inl h)
          · exact Or.inl h
          · exact Or.inr (Or.inr h)
theorem sorted_rising {n : Int} {l : List Int} (h : l.Pairwise (· < ·)) : (rising l n).Pairwise (· < ·) := by
  induction l with
  | nil => simp [rising]
  | cons y l ih =>
    obtain ⟨h1, h2⟩ := List.pairwise_cons.1 h
    unfold rising
    split
    · next hn =>
      refine List.pairwise_cons.2 ⟨fun a ha => ?_, h⟩
      rcases List.mem_cons.1 ha with rfl | ha
      · exact hn
      · have := h1 a ha; omega
    · split
      · exact h
      · next hn hne =>
        refine List.pairwise_cons.2 ⟨fun a ha => ?_, ih h2⟩
        rcases mem_rising.1 ha with rfl | ha
        · omega
        · exact h1 a ha
theorem rising_old {n : Int} {l : List Int} (h : l.Pairwise (· < ·)) (hn : n ∈ l) : rising l n = l := by
  induction l with
  | nil => cases hn
  | cons y l ih =>
    obtain ⟨h1, h2⟩ := List.pairwise_cons.1 h
    unfold rising
    rcases List.mem_cons.1 hn with rfl | hn
    · simp
    · have := h1 n hn
      rw [if_neg (by omega), if_neg (by omega), ih h2 hn]
theorem rising_new {n : Int} {l : List Int} (hn : n ∉ l) : (rising l n).length = l.length + 1 := by
  induction l with
  | nil => rfl
  | cons y l ih =>
    simp only [List.mem_cons, not_or] at hn
    unfold rising
    rw [if_neg hn.1]
    split
    · rfl
    · simp [ih hn.2]
theorem rising_le (l : List Int) (n : Int) : (rising l n).length ≤ l.length + 1 := by
  induction l with
  | nil => exact Nat.le_refl _
  | cons y l ih =>
    unfold rising
    split
    · simp
    · split
      · simp
      · simp; omega
theorem sorted_same : ∀ {l m : List Int}, l.Pairwise (· < ·) → m.Pairwise (· < ·) → (∀ x, x ∈ l ↔ x ∈ m) → l = m
  | [], [], _, _, _ => rfl
  | [], y :: m, _, _, h => by have := (h y).2 (by simp); cases this
  | x :: l, [], _, _, h => by have := (h x).1 (by simp); cases this
  | x :: l, y :: m, hl, hm, h => by
    obtain ⟨hl1, hl2⟩ := List.pairwise_cons.1 hl
    obtain ⟨hm1, hm2⟩ := List.pairwise_cons.1 hm
    have hxy : x = y := by
      rcases List.mem_cons.1 ((h x).1 (by simp)) with e | e
      · exact e
      · rcases List.mem_cons.1 ((h y).2 (by simp)) with e2 | e2
        · exact e2.symm
        · have := hm1 x e; have := hl1 y e2; omega
    subst hxy
    have hr : l = m := sorted_same hl2 hm2 fun z => by
      have hz := h z
      simp only [List.mem_cons] at hz
      constructor
      · intro hzl
        rcases hz.1 (Or.inr hzl) with e | e
        · subst e; have := hl1 z hzl; omega
        · exact e
      · intro hzm
        rcases hz.2 (Or.inr hzm) with e | e
        · subst e; have := hm1 z hzm; omega
        · exact e
    rw [hr]

/-- All who signed d, rising. -/
def allOf (L : List (Int × Int)) (d : Int) : List Int := L.foldl (fun acc p => if p.2 = d then rising acc p.1 else acc) []
def signAdd (L : List (Int × Int)) (p : Int × Int) : List (Int × Int) := if p ∈ L then L else L ++ [p]
theorem signAdd_old {L : List (Int × Int)} {p : Int × Int} (h : p ∈ L) : signAdd L p = L := if_pos h
theorem signAdd_new {L : List (Int × Int)} {p : Int × Int} (h : p ∉ L) : signAdd L p = L ++ [p] := if_neg h
theorem signAdd_length (L : List (Int × Int)) (p : Int × Int) : (signAdd L p).length ≤ L.length + 1 := by unfold signAdd; split <;> simp
theorem mem_signAdd {L : List (Int × Int)} {p q : Int × Int} : q ∈ signAdd L p ↔ q = p ∨ q ∈ L := by
  unfold signAdd
  split
  · next h => exact ⟨Or.inr, fun hq => hq.elim (fun e => e ▸ h) id⟩
  · simp [or_comm]
theorem allOf_snoc (L : List (Int × Int)) (p : Int × Int) (d : Int) : allOf (L ++ [p]) d = if p.2 = d then rising (allOf L d) p.1 else allOf L d := by
  simp [allOf, List.foldl_append]
theorem allOf_foldl {d : Int} : ∀ (L : List (Int × Int)) (acc : List Int) (x : Int), x ∈ L.foldl (fun acc p => if p.2 = d then rising acc p.1 else acc) acc ↔ x ∈ acc ∨ (x, d) ∈ L
  | [], acc, x => by simp
  | p :: L, acc, x => by
    rw [List.foldl_cons, allOf_foldl L]
    obtain ⟨a, b⟩ := p
    by_cases h : b = d
    · subst h
      simp only [if_true, mem_rising, List.mem_cons, Prod.mk.injEq, and_true]
      constructor
      · rintro ((h | h) | h)
        · exact Or.inr (Or.inl h)
        · exact Or.inl h
        · exact Or.inr (Or.inr h)
      · rintro (h | h | h)
        · exact Or.inl (Or.inr h)
        · exact Or.inl (Or.inl h)
        · exact Or.inr h
    · simp only [if_neg h, List.mem_cons, Prod.mk.injEq]
      constructor
      · rintro (h | h)
        · exact Or.inl h
        · exact Or.inr (Or.inr h)
      · rintro (h2 | h2 | h2)
        · exact Or.inl h2
        · exact absurd h2.2.symm h
        · exact Or.inr h2
theorem mem_allOf {L : List (Int × Int)} {d x : Int} : x ∈ allOf L d ↔ (x, d) ∈ L := by
  unfold allOf
  rw [allOf_foldl]
  simp
theorem sorted_foldl {d : Int} : ∀ (L : List (Int × Int)) (acc : List Int), acc.Pairwise (· < ·) → (L.foldl (fun acc p => if p.2 = d then rising acc p.1 else acc) acc).Pairwise (· < ·)
  | [], _, h => h
  | p :: L, acc, h => by
    rw [List.foldl_cons]
    refine sorted_foldl L _ ?_
    split
    · exact sorted_rising h
    · exact h
theorem sorted_allOf (L : List (Int × Int)) (d : Int) : (allOf L d).Pairwise (· < ·) := sorted_foldl L [] List.Pairwise.nil
theorem allOf_is {L : List (Int × Int)} {d : Int} {l : List Int} (hs : l.Pairwise (· < ·)) (hm : ∀ x, x ∈ l ↔ (x, d) ∈ L) : allOf L d = l :=
  sorted_same (sorted_allOf L d) hs fun x => mem_allOf.trans (hm x).symm
theorem foldl_le {d : Int} : ∀ (L : List (Int × Int)) (acc : List Int), (L.foldl (fun acc p => if p.2 = d then rising acc p.1 else acc) acc).length ≤ acc.length + L.length
  | [], _ => Nat.le_refl _
  | p :: L, acc => by
    rw [List.foldl_cons]
    refine Nat.le_trans (foldl_le L _) ?_
    have : (if p.2 = d then rising acc p.1 else acc).length ≤ acc.length + 1 := by
      split
      · exact rising_le _ _
      · omega
    simp only [List.length_cons]
    omega
theorem allOf_le (L : List (Int × Int)) (d : Int) : (allOf L d).length ≤ L.length := by
  have := foldl_le (d := d) L []
  simpa [allOf] using this

/-- A number is one of 64 bits. -/
abbrev I64 (n : Int) : Prop := -9223372036854775808 ≤ n ∧ n < 9223372036854775808
abbrev U64 (n : Int) : Prop := 0 ≤ n ∧ n < 18446744073709551616
end Go.Proofs.Ytkbebllkjmccoaa
