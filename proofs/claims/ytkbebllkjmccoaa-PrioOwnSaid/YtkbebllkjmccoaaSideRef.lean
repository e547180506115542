/- The document's own side of a book: Ahead, At and SameOrders; where it lies. Conditions: it lies in memory; good numbers. -/
import Derived.Test.YtkbebllkjmccoaaPrioRows
import Derived.LoopTactic
import Derived.RegionTactic
import Derived.Deep.CutBlock
import Derived.Deep.DeepCutAuto
import Derived.Deep.RegionWith
namespace Go.Proofs.Ytkbebllkjmccoaa
open Go.RowKit Go.WideShapes

set_option maxRecDepth 100000 in
set_option maxHeartbeats 4000000 in
theorem rahead_any (up : Bool) (a b : OrdV) (w : World) :
    Calls Try.prog 30 #[.bool up, a.val, b.val] w fun e w' => e = .returned (.bool (aheadO up a b)) ∧ Below w.heap.size w w' := by
  obtain ⟨a1, a2, a3, a4, a5⟩ := a
  obtain ⟨b1, b2, b3, b4, b5⟩ := b
  have h1 := (St.start w w (Below.refl _ _)).local5 #[.int .i64 a1, .int .i64 a2, .bool a3, .int .u64 a4, .int .u64 a5] 28
  obtain ⟨ba, hba, h1⟩ := h1
  obtain ⟨bb, hbb, h2⟩ := h1.local5 #[.int .i64 b1, .int .i64 b2, .bool b3, .int .u64 b4, .int .u64 b5] 28
  obtain ⟨_, _, q2, _⟩ := h2.blk
  obtain ⟨_, _, q1, _⟩ := h2.swap.blk
  have x0 := q1 0 (.int .i64 a1) rfl
  have x3 := q1 3 (.int .u64 a4) rfl
  have y0 := q2 0 (.int .i64 b1) rfl
  have y3 := q2 3 (.int .u64 b4) rfl
  have HB := Lib.hid h2.below
  subst hba
  subst hbb
  simp only [OrdV.val]
  unfold aheadO
  simp only
  clear h1 h2 q1 q2
  by_cases hp : a4 = b4
  · subst hp
    rw [if_pos rfl]
    go_enter Try.func30, Try.ntmps30
    go_wp2_with fail
    go_ret
    exact ⟨rfl, HB.out⟩
  · rw [if_neg hp]
    have e1 : (a4 == b4) = false := beq_eq_false_iff_ne.2 hp
    go_enter Try.func30, Try.ntmps30
    go_wp2_with fail
    go_ret
    exact ⟨rfl, HB.out⟩
/-- Where an order stands. -/
def atFrom (n : Int) : Ords → Nat → Int
  | [], _ => -1
  | o :: t, k => if o.id = n then (k : Int) else atFrom n t (k + 1)
def atQ (n : Int) (L : Ords) : Int := atFrom n L 0
theorem atFrom_spec (n : Int) : ∀ (L : Ords) (k : Nat), (∃ j : Nat, ∃ h : j < L.length, atFrom n L k = ((k + j : Nat) : Int) ∧ L[j].id = n ∧ findQ n L = some L[j]) ∨ (atFrom n L k = -1 ∧ findQ n L = none)
  | [], k => Or.inr ⟨rfl, rfl⟩
  | o :: t, k => by
    unfold atFrom
    by_cases h : o.id = n
    · refine Or.inl ⟨0, by simp, by rw [if_pos h]; rfl, h, ?_⟩
      unfold findQ
      rw [List.find?_cons_of_pos (by unfold isId; rw [h]; exact beq_self_eq_true n)]
      rfl
    · rw [if_neg h]
      have hf : findQ n (o :: t) = findQ n t := by
        unfold findQ
        rw [List.find?_cons_of_neg (by unfold isId; rw [beq_eq_false_iff_ne.2 h]; decide)]
      rcases atFrom_spec n t (k + 1) with ⟨j, hj, h1, h2, h3⟩ | ⟨h1, h2⟩
      · refine Or.inl ⟨j + 1, by simpa using hj, by rw [h1]; congr 1; omega, h2, ?_⟩
        rw [hf, h3]
        rfl
      · exact Or.inr ⟨h1, by rw [hf, h2]⟩

section
variable {w : World} {b off : Nat} {A : Option Addr} {n cap : Nat} {L : Ords}
set_option maxRecDepth 100000 in
set_option maxHeartbeats 4000000 in
theorem rat_any (id : Int) (hc : w.cell? ⟨b, off + 1, none⟩ = some (.slice A n cap)) (hs : w.ownsRow 0 28 5 (.slice A n cap) n (cellsO L)) (hn : L.length = n) (hl : n ≤ 100000) :
    Calls Try.prog 19 #[.pointer (some ⟨b, off, none⟩), .int .i64 id] w fun e w' => e = .returned (.int .i64 (atQ id L)) ∧ w' = w := by
  have HS := Lib.hid hs; have HN := Lib.hid hn
  clear hs hn
  go_enter Try.func19, Try.ntmps19
  go_wp2_with fail
  go_loopw [5] (fun i wr => ∃ k : Nat, k ≤ n ∧ i = .int .i64 k ∧ atQ id L = atFrom id (L.drop k) k ∧ wr = w) (fun i _ => n - (intOf i).toNat)
  case atStart => exact ⟨0, by omega, rfl, rfl, rfl⟩
  case round =>
    obtain ⟨k, hk, rfl, hat, rfl⟩ := hrel
    by_cases hgo : k < n
    · have hkl : k < L.length := by rw [HN.out]; exact hgo
      obtain ⟨g, rfl, _, r0, _⟩ := row_ord HS.out hkl
      rw [List.drop_eq_getElem_cons hkl] at hat
      unfold atFrom at hat
      generalize L[k].id = x at r0 hat
      have HAT := Lib.hid hat
      have hkn : (k : Int) < (n : Int) := by omega
      have hk0 : (0 : Int) ≤ (k : Int) := by omega
      by_cases hx : x = id
      · have b1 : (x == id) = true := by rw [hx]; exact beq_self_eq_true _
        rw [if_pos hx] at hat
        have HAT2 := Lib.hid hat
        clear hat HAT hx
        go_wp2_with fail
        go_ret
        exact ⟨by rw [HAT2.out]; rfl, by first | rfl | trivial⟩
      · have b1 : (x == id) = false := beq_eq_false_iff_ne.2 hx
        rw [if_neg hx] at hat
        have HAT2 := Lib.hid hat
        clear hat HAT hx
        go_wp2_with fail
        go_roundw
        case rel => exact ⟨k + 1, by omega, by go_num, HAT2.out, by first | rfl | trivial⟩
        case measure => simp [intOf]; omega
    · obtain rfl : k = n := by omega
      have hd : L.drop k = [] := List.drop_of_length_le (by rw [HN.out]; exact Nat.le_refl _)
      rw [hd] at hat
      have HAT := Lib.hid hat
      clear hat hd hgo
      go_wp2_with fail
      go_ret
      exact ⟨by rw [HAT.out]; rfl, by first | rfl | trivial⟩
end
end Go.Proofs.Ytkbebllkjmccoaa
