/- Plain facts on sums of rows of whole numbers that are not below 0, and on products. Conditions: as each says. -/
import Derived.RowKit3
namespace Go.Proofs.Ytnicfhafepiknaa

/-- The sum of a row. -/
def tot : List Int → Int
  | [] => 0
  | x :: r => x + tot r
theorem tot_append (a b : List Int) : tot (a ++ b) = tot a + tot b := by
  induction a with
  | nil => simp [tot]
  | cons x r ih => simp [tot, ih]; omega
theorem tot_reverse (a : List Int) : tot a.reverse = tot a := by
  induction a with
  | nil => rfl
  | cons x r ih => simp [tot, tot_append, ih]; omega
theorem tot_nonneg (a : List Int) (h : ∀ x ∈ a, 0 ≤ x) : 0 ≤ tot a := by
  induction a with
  | nil => simp [tot]
  | cons x r ih =>
    have h1 := h x (by simp)
    have h2 := ih fun y hy => h y (by simp [hy])
    simp [tot]; omega
theorem tot_take_succ (xs : List Int) (k : Nat) (hk : k < xs.length) : tot (xs.take (k + 1)) = tot (xs.take k) + xs.getD k 0 := by
  rw [List.take_succ_eq_append_getElem hk, tot_append]
  simp [tot, List.getD, List.getElem?_eq_getElem hk]
theorem tot_split (xs : List Int) (k : Nat) : tot xs = tot (xs.take k) + tot (xs.drop k) := by
  rw [← tot_append, List.take_append_drop]
theorem tot_take_nonneg (xs : List Int) (k : Nat) (h : ∀ x ∈ xs, 0 ≤ x) : 0 ≤ tot (xs.take k) :=
  tot_nonneg _ fun x hx => h x (List.mem_of_mem_take hx)
theorem tot_drop_nonneg (xs : List Int) (k : Nat) (h : ∀ x ∈ xs, 0 ≤ x) : 0 ≤ tot (xs.drop k) :=
  tot_nonneg _ fun x hx => h x (List.mem_of_mem_drop hx)
theorem tot_take_le (xs : List Int) (k : Nat) (h : ∀ x ∈ xs, 0 ≤ x) : tot (xs.take k) ≤ tot xs := by
  have h1 := tot_split xs k
  have h2 := tot_drop_nonneg xs k h
  omega

theorem quo_lt_iff {a b m : Int} (ha : 0 < a) : m / a < b ↔ m < a * b := by
  have := @Int.ediv_lt_iff_lt_mul m b a ha
  rw [this, Int.mul_comm]
end Go.Proofs.Ytnicfhafepiknaa
