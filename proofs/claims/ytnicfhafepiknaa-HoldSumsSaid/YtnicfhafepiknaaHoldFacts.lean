/- What fees come to, as plain facts: free, held and got come to what they came to. Conditions: what they come to is below 2^64. -/
import Derived.Test.YtnicfhafepiknaaHoldApi
namespace Go.Proofs.Ytnicfhafepiknaa
open Go.RowKit Go.WideShapes

def htot (X : Accts) (H : List Int) (g : Int) : Int := total X 1 + H.sum + g
theorem list_sum_set : ∀ (H : List Int) (i : Nat) (v : Int), i < H.length → (H.set i v).sum = H.sum - H.getD i 0 + v
  | [], i, v, h => by cases h
  | x :: H, 0, v, _ => by simp; omega
  | x :: H, i + 1, v, h => by
    have ih := list_sum_set H i v (by simpa using h)
    simp only [List.set_cons_succ, List.sum_cons, List.getD_cons_succ, ih]
    omega
theorem hsum_set {H : List Int} {c v : Int} (hc : 0 ≤ c ∧ c < H.length) : (hSet H c v).sum = H.sum - hOf H c + v := by
  unfold hSet hOf
  rw [list_sum_set H c.toNat v (by omega), if_pos hc]
theorem list_sum_le : ∀ (H : List Int), (∀ x ∈ H, 0 ≤ x) → 0 ≤ H.sum ∧ ∀ i, i < H.length → H.getD i 0 ≤ H.sum
  | [], _ => ⟨by simp, fun i h => by cases h⟩
  | x :: H, hp => by
    obtain ⟨h1, h2⟩ := list_sum_le H fun y hy => hp y (by simp [hy])
    have h0 := hp x (by simp)
    refine ⟨by simp only [List.sum_cons]; omega, fun i hi => ?_⟩
    rcases i with _ | i
    · simp only [List.getD_cons_zero, List.sum_cons]; omega
    · have := h2 i (by simpa using hi)
      simp only [List.getD_cons_succ, List.sum_cons]; omega
section
variable {X : Accts} {H : List Int} {g : Int}
theorem hsum_le (h : GoodF X H g) (c : Int) : 0 ≤ hOf H c ∧ hOf H c ≤ H.sum := by
  have h1 := list_sum_le H fun x hx => (h.gh x hx).1
  have h2 := hOf_u64 h.gh c
  refine ⟨h2.1, ?_⟩
  unfold hOf
  split
  · exact h1.2 _ (by omega)
  · exact h1.1
theorem free_le (h : GoodF X H g) (c : Int) : 0 ≤ freeA X c 1 ∧ freeA X c 1 ≤ total X 1 := by
  have h1 := free_u64 h.ga c 1
  refine ⟨h1.1, ?_⟩
  unfold freeA
  split
  · next e => exact amt_le_total h.ga 1 ((okE_zero.1 e).1)
  · have := (list_sum_le (X.map (side 1)) (fun x hx => by
      obtain ⟨p, hp, rfl⟩ := List.mem_map.1 hx
      exact side_nonneg h.ga 1 p hp)).1
    exact this
theorem freeA_set {c d v : Int} (hc : okE X c 1 = 0) : freeA (setA X c 1 v) d 1 = if d = c then v else freeA X d 1 := by
  obtain ⟨⟨h0, h1⟩, _⟩ := okE_zero.1 hc
  unfold freeA okE
  rw [setA_length]
  by_cases e : d = c
  · subst e
    rw [if_pos rfl]
    have : ¬ (d < 0 ∨ (X.length : Int) ≤ d) := by omega
    simp only [if_neg this]
    unfold amt setA
    rw [List.getD_eq_getElem?_getD, List.getElem?_set_self (by omega)]
    exact side_with 1 v _
  · rw [if_neg e]
    have hne : ∀ h : 0 ≤ d, c.toNat ≠ d.toNat := fun h => by omega
    by_cases hd : d < 0 ∨ (X.length : Int) ≤ d
    · simp only [if_pos hd]; rfl
    · simp only [if_neg hd]
      unfold amt setA
      simp only [List.getD_eq_getElem?_getD, List.getElem?_set_ne (hne (by omega))]
/-- What is held of what is free. -/
theorem hold_facts (h : GoodF X H g) (ht : htot X H g < 18446744073709551616) {c fee : Int} (hf : U64 fee) :
    holdN X H c fee = min fee (freeA X c 1) ∧ hOf (holdH X H c fee) c = hOf H c + holdN X H c fee ∧ freeA (holdX X H c fee) c 1 = freeA X c 1 - holdN X H c fee ∧ htot (holdX X H c fee) (holdH X H c fee) g = htot X H g := by
  have h1 := hsum_le h c
  have h2 := free_le h c
  have h3 := h.gg
  have hn : holdN X H c fee = min fee (freeA X c 1) := by
    unfold holdN
    unfold htot at ht
    rw [if_neg (by omega)]
  refine ⟨hn, ?_⟩
  by_cases h0 : holdN X H c fee = 0
  · unfold holdH holdX
    simp only [if_pos h0]
    rw [h0]
    exact ⟨by omega, by omega, trivial⟩
  · obtain ⟨e1, e2⟩ := holdN_ok h hf h0
    have e3 := holdN_le h (c := c) hf
    have ef : freeA X c 1 = amt X c 1 := by rw [freeA, if_pos e1]
    have et : takeE X c 1 (holdN X H c fee) = 0 := takeE_zero.2 ⟨e1, by omega⟩
    unfold holdH holdX
    simp only [if_neg h0]
    rw [takeX, if_pos et]
    refine ⟨by rw [hOf_set e2, if_pos rfl], by rw [freeA_set e1, if_pos rfl, ef], ?_⟩
    unfold htot
    rw [total_set (okE_zero.1 e1).1, hsum_set e2]
    omega
/-- What is settled. -/
theorem settle_facts (h : GoodF X H g) (ht : htot X H g < 18446744073709551616) {c fee : Int} (hf : U64 fee) :
    setlN H g c fee ≤ hOf H c ∧ setlN H g c fee ≤ fee ∧ hOf (setlH X H g c fee) c = 0 ∧ htot (setlX X H g c fee) (setlH X H g c fee) (g + setlN H g c fee) = htot X H g := by
  have h1 := hsum_le h c
  have h3 := h.gg
  have hn := setlN_le h (c := c) hf
  refine ⟨hn.2.1, hn.2.2.1, ?_⟩
  unfold setlX setlH
  by_cases h0 : hOf H c = 0
  · simp only [if_pos h0]
    have : setlN H g c fee = 0 := by omega
    rw [this]
    exact ⟨h0, by rw [Int.add_zero]⟩
  · simp only [if_neg h0]
    have e2 := hOf_in h0
    have hs := h.same
    have e1 : okE X c 1 = 0 := okE_zero.2 ⟨⟨e2.1, by omega⟩, Or.inr rfl⟩
    have ha := amt_le_total h.ga 1 (okE_zero.1 e1).1
    have ep : putE X c 1 (hOf H c - setlN H g c fee) = 0 := putE_zero.2 ⟨e1, by unfold htot at ht; omega⟩
    rw [if_pos ep, putX, if_pos ep]
    refine ⟨by rw [hOf_set e2, if_pos rfl], ?_⟩
    unfold htot
    rw [total_set (okE_zero.1 e1).1, hsum_set e2]
    omega
/-- What is forfeited. -/
theorem forf_facts (h : GoodF X H g) (ht : htot X H g < 18446744073709551616) {c : Int} :
    forfN H g c = hOf H c ∧ hOf (forfH H g c) c = 0 ∧ htot X (forfH H g c) (g + forfN H g c) = htot X H g := by
  have h1 := hsum_le h c
  have h3 := h.gg
  have h2 : 0 ≤ total X 1 := Int.le_trans (free_le h 0).1 (free_le h 0).2
  have hn : forfN H g c = hOf H c := by
    unfold forfN
    unfold htot at ht
    rw [if_neg (by omega)]
  refine ⟨hn, ?_⟩
  unfold forfH
  by_cases h0 : forfN H g c = 0
  · simp only [if_pos h0]
    rw [h0]
    exact ⟨by omega, by rw [Int.add_zero]⟩
  · simp only [if_neg h0]
    have e2 := hOf_in (show hOf H c ≠ 0 by omega)
    refine ⟨by rw [hOf_set e2, if_pos rfl], ?_⟩
    unfold htot
    rw [hsum_set e2]
    omega
end
section
variable {X : Accts} {H : List Int} {g : Int}
theorem hold_other (h : GoodF X H g) {c fee d : Int} (hf : U64 fee) (hd : d ≠ c) : freeA (holdX X H c fee) d 1 = freeA X d 1 := by
  unfold holdX
  split
  · rfl
  · next h0 =>
    obtain ⟨e1, _⟩ := holdN_ok h hf h0
    unfold takeX
    split
    · rw [freeA_set e1, if_neg hd]
    · rfl
theorem settle_other {c fee d : Int} (hd : d ≠ c) : freeA (setlX X H g c fee) d 1 = freeA X d 1 := by
  unfold setlX
  split
  · rfl
  · unfold putX
    split
    · next e => rw [freeA_set (putE_zero.1 e).1, if_neg hd]
    · rfl
theorem settle_free (h : GoodF X H g) (ht : htot X H g < 18446744073709551616) {c fee : Int} (hf : U64 fee) : freeA (setlX X H g c fee) c 1 = freeA X c 1 + hOf H c - setlN H g c fee := by
  have h1 := hsum_le h c
  have h3 := h.gg
  have hn := setlN_le h (c := c) hf
  unfold setlX
  split
  · omega
  · next h0 =>
    have e2 := hOf_in h0
    have hs := h.same
    have e1 : okE X c 1 = 0 := okE_zero.2 ⟨⟨e2.1, by omega⟩, Or.inr rfl⟩
    have ha := amt_le_total h.ga 1 (okE_zero.1 e1).1
    have ep : putE X c 1 (hOf H c - setlN H g c fee) = 0 := putE_zero.2 ⟨e1, by unfold htot at ht; omega⟩
    rw [putX, if_pos ep, freeA_set e1, if_pos rfl, freeA, if_pos e1]
    omega
end
/-- What the first j come to. -/
def partF (X : Accts) (H : List Int) : Nat → Int
  | 0 => 0
  | j + 1 => partF X H j + hOf H j + freeA X j 1
theorem partF_three {X : Accts} {H : List Int} (hx : X.length = 3) (hh : H.length = 3) : partF X H 3 = total X 1 + H.sum := by
  match X, hx with
  | [x, y, z], _ =>
    match H, hh with
    | [a, b, c], _ =>
      show 0 + a + x.2 + b + y.2 + c + z.2 = (x.2 + (y.2 + (z.2 + 0))) + (a + (b + (c + 0)))
      omega
theorem partF_mono {X : Accts} {H : List Int} {g : Int} (h : GoodF X H g) : ∀ j : Nat, 0 ≤ partF X H j ∧ partF X H j + hOf H j ≤ partF X H (j + 1)
  | 0 => ⟨Int.le_refl _, by have := free_le h 0; have := hsum_le h 0; show (0 : Int) + _ ≤ 0 + _ + _; simp only [Int.natCast_zero] at *; omega⟩
  | j + 1 => by
    have ih := partF_mono h j
    have h1 := hsum_le h j
    have h2 := free_le h j
    have h3 := hsum_le h (j + 1 : Nat)
    have h4 := free_le h (j + 1 : Nat)
    exact ⟨by omega, by show _ ≤ partF X H (j + 1) + hOf H ((j + 1 : Nat) : Int) + freeA X ((j + 1 : Nat) : Int) 1; omega⟩
end Go.Proofs.Ytnicfhafepiknaa
