/- TermMany answers true, and makes only new memory. Conditions: term's calls are as their contracts say; the row of numbers lies in memory. -/
import Derived.Test.YtlodklmcamanpaaTermAwake
import Derived.Test.YtlodklmcamanpaaMapI
import Derived.LoopTactic
import Derived.RegionTactic
import Derived.Deep.RegionWith
import Derived.Deep.CutBlock
import Derived.Deep.DeepCutAuto
namespace Go.Proofs.Ytlodklmcamanpaa
open Go.RowKit Go.WideShapes

/-- A row of one byte. -/
def one (k : Nat) : List UInt8 := [UInt8.ofNat k]
theorem one_inj {j k : Nat} (hj : j < 256) (hk : k < 256) (h : one j = one k) : j = k := by
  unfold one at h
  have := congrArg (fun l : List UInt8 => (l.map UInt8.toNat)) h
  simp only [List.map_cons, List.map_nil, List.cons.injEq, and_true, UInt8.toNat_ofNat'] at this
  omega
theorem one_cells (k : Nat) (h : k < 256) : cells8 (one k) = [.int .u8 (k : Int)] := by
  simp only [cells8, one, List.map_cons, List.map_nil, UInt8.toNat_ofNat']
  rw [Nat.mod_eq_of_lt h]
/-- The rows of one byte each, from 0 on. -/
def rowsTo (n : Nat) : List (List UInt8) := (List.range n).map one
theorem rowsTo_length (n : Nat) : (rowsTo n).length = n := by simp [rowsTo]
theorem rowsTo_succ (n : Nat) : rowsTo (n + 1) = rowsTo n ++ [one n] := by simp [rowsTo, List.range_succ]
theorem rowsTo_not (n : Nat) (h : n < 256) : one n ∉ rowsTo n := by
  intro hm
  simp only [rowsTo, List.mem_map, List.mem_range] at hm
  obtain ⟨j, hj, e⟩ := hm
  have := one_inj (by omega) h e
  omega
theorem rowsTo_new (n : Nat) (h : n < 256) : digOf (rowsTo n) (one n) = (n : Int) + 1 ∧ digAdd (rowsTo n) (one n) = rowsTo (n + 1) := by
  refine ⟨by rw [digOf_new (rowsTo_not n h), rowsTo_length], by rw [digAdd_new (rowsTo_not n h), rowsTo_succ]⟩
theorem idxOf_map_inj {l : List Nat} (hl : ∀ j ∈ l, j < 256) {k : Nat} (hk : k < 256) : (l.map one).idxOf (one k) = l.idxOf k := by
  induction l with
  | nil => rfl
  | cons x xs ih =>
    have h2 := ih (fun j hj => hl j (by simp [hj]))
    by_cases e : x = k
    · subst e
      simp only [List.map_cons, List.idxOf_cons, beq_self_eq_true, cond_true]
    · have h1 : (one x == one k) = false := by
        rw [beq_eq_false_iff_ne]
        exact fun h => e (one_inj (hl x (by simp)) hk h)
      have h3 : (x == k) = false := by rw [beq_eq_false_iff_ne]; exact e
      simp only [List.map_cons, List.idxOf_cons, h1, h3, cond_false, h2]
theorem idxOf_range {n k : Nat} (h : k < n) : (List.range n).idxOf k = k := by
  induction n with
  | zero => omega
  | succ n ih =>
    rw [List.range_succ, List.idxOf_append]
    by_cases e : k < n
    · rw [if_pos (List.mem_range.2 e), ih e]
    · obtain rfl : k = n := by omega
      rw [if_neg (by simp)]
      simp
theorem rowsTo_old (n k : Nat) (hn : n ≤ 256) (h : k < n) : digOf (rowsTo n) (one k) = (k : Int) + 1 ∧ digAdd (rowsTo n) (one k) = rowsTo n := by
  refine ⟨?_, digAdd_old ?_⟩
  · rw [digOf, rowsTo, idxOf_map_inj (fun j hj => by have := List.mem_range.1 hj; omega) (by omega), idxOf_range h]
  · simp only [rowsTo, List.mem_map, List.mem_range]
    exact ⟨k, h, rfl⟩
/-- The law's own map: each number that was seen has its place. -/
def SeenIs (N : Nat) (ks : List Nat) (f : Lit → Option Int) : Prop := ∀ j : Nat, j < N → f (.int .i64 j) = if j ∈ ks then some ((ks.idxOf j : Int) + 1) else none
theorem seen_new {N : Nat} {ks : List Nat} {f : Lit → Option Int} {k : Nat} (h : SeenIs N ks f) (hk : k < N) (hn : k ∉ ks) : SeenIs N (ks ++ [k]) (upM f (.int .i64 k) ((ks.length : Int) + 1)) := by
  intro j hj
  by_cases e : j = k
  · subst e
    rw [upM_same f (show WideAt.IsKeyLit (.int .i64 (j : Int)) from True.intro), if_pos (by simp), List.idxOf_append, if_neg hn]
    simp
  · have hne : (Lit.int .i64 (j : Int)) ≠ .int .i64 (k : Int) := by
      intro h2
      injection h2 with _ h2
      omega
    rw [upM_other f _ hne, h j hj]
    by_cases hm : j ∈ ks
    · rw [if_pos hm, if_pos (by simp [hm]), List.idxOf_append, if_pos hm]
    · rw [if_neg hm, if_neg (by simp [hm, e])]
/-- What the second arena says of a number. -/
theorem seen_dig {N : Nat} {ks : List Nat} {f : Lit → Option Int} {k : Nat} (h : SeenIs N ks f) (hN : N ≤ 256) (hks : ∀ j ∈ ks, j < N) (hk : k < N) (hm : k ∈ ks) : digOf (ks.map one) (one k) = (f (.int .i64 k)).getD 0 ∧ digAdd (ks.map one) (one k) = ks.map one := by
  refine ⟨?_, digAdd_old (List.mem_map.2 ⟨k, hm, rfl⟩)⟩
  rw [h k hk, if_pos hm, digOf, idxOf_map_inj (fun j hj => by have := hks j hj; omega) (by omega)]
  rfl
end Go.Proofs.Ytlodklmcamanpaa
