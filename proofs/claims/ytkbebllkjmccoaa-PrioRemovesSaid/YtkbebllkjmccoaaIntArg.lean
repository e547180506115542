/- Ints and rows of ints that came in as arguments: they lie in memory, and are ints. Conditions: they were read as data. -/
import Derived.Test.YtkbebllkjmccoaaView
import Derived.Test.YtkbebllkjmccoaaRising
namespace Go.Proofs.Ytkbebllkjmccoaa
open Go.ChangeShapes Go.WideShapes Go.ChangeAt Go.RowKit

/-- A row of ints that came in. -/
theorem ints_full {H : Type} {enc : TypeId × Value → H} {P : Program} {w : World} {fuel : Nat} {x : DataW H × List MemPlace} {v : Value} {t e : TypeId} (ht : P.underlying t = some (.slice e)) (he : P.underlying e = some (.int .i64)) (hc : P.cellsOf e = 1)
    (h : DataW.trod enc P w 0 (fun _ => true) true fuel t [v] = some x) :
    ∃ (A : Option Addr) (cap : Nat) (ks : List Int), v = .slice A ks.length cap ∧ ks.length ≤ 9223372036854775807 ∧ IntsIn w A ks ∧ ∀ y ∈ ks, I64 y := by
  obtain ⟨A, cap, ks, rfl, hl, hks⟩ := ints_view ht he hc h
  refine ⟨A, cap, ks, rfl, hl, hks, ?_⟩
  rcases open_ints ht he hc h with ⟨hcs, _⟩ | ⟨a, len, cap', zs, hcs, _, hl, hm, hz, _, hcell, hwz⟩
  · simp only [List.cons.injEq, and_true, Value.slice.injEq] at hcs
    obtain ⟨_, h0, _⟩ := hcs
    intro y hy
    rw [List.eq_nil_of_length_eq_zero h0] at hy
    cases hy
  · simp only [List.cons.injEq, and_true, Value.slice.injEq] at hcs
    obtain ⟨rfl, hlen, rfl⟩ := hcs
    simp only [if_true] at hz
    intro y hy
    obtain ⟨i, hi, rfl⟩ := List.getElem_of_mem hy
    rcases hks with rfl | ⟨b, off, hA, _, hk⟩
    · cases hy
    · injection hA with hA
      subst hA
      have h1 := hk i hi
      have h2 := hcell i (by omega)
      rw [add_plain] at h2
      rw [h1] at h2
      injection h2 with h2
      injection h2 with _ h2
      have h3 : ks[i] = zs[i]'(by omega) := by rw [h2]; simp [List.getD, List.getElem?_eq_getElem (show i < zs.length by omega)]
      rw [h3]
      have h4 := hwz _ (List.getElem_mem (show i < zs.length by omega))
      simp [Lit.wf, IntKind.min, IntKind.max, IntKind.signed, IntKind.bits] at h4
      constructor <;> omega
theorem i64_wf {n : Int} (h : (Lit.int .i64 n).wf = true) : I64 n := by
  simp [Lit.wf, IntKind.min, IntKind.max, IntKind.signed, IntKind.bits] at h
  constructor <;> omega
end Go.Proofs.Ytkbebllkjmccoaa
