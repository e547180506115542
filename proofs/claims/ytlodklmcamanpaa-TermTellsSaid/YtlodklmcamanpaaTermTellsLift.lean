/- TermTells answers true for any rows and any numbers, and leaves them as they were. Conditions: term's calls are as their contracts say. -/
import Derived.Test.YtlodklmcamanpaaTermTells
namespace Go.Proofs.Ytlodklmcamanpaa
open Go.ChangeShapes Go.WideShapes Go.ChangeAt Go.RowKit

/-- The ints of a row that came in are ints. -/
theorem ints_wf {H : Type} {enc : TypeId × Value → H} {P : Program} {w : World} {fuel : Nat} {x : DataW H × List MemPlace} {t e : TypeId} {A : Option Addr} {cap : Nat} {ks : List Int} (ht : P.underlying t = some (.slice e)) (he : P.underlying e = some (.int .i64)) (hc : P.cellsOf e = 1)
    (h : DataW.trod enc P w 0 (fun _ => true) true fuel t [.slice A ks.length cap] = some x) (hks : ks = [] ∨ ∃ b off : Nat, A = some ⟨b, off, none⟩ ∧ b < w.heap.size ∧ ∀ i (h : i < ks.length), w.cell? ⟨b, off + i, none⟩ = some (.int .i64 ks[i])) :
    ∀ y ∈ ks, -9223372036854775808 ≤ y ∧ y < 9223372036854775808 := by
  rcases open_ints ht he hc h with ⟨hcs, _⟩ | ⟨a, len, cap', zs, hcs, _, hl, hm, hz, _, hcell, hwz⟩
  · simp only [List.cons.injEq, and_true, Value.slice.injEq] at hcs
    obtain ⟨_, h0, _⟩ := hcs
    intro y hy
    rw [List.eq_nil_of_length_eq_zero h0] at hy
    cases hy
  · simp only [List.cons.injEq, and_true, Value.slice.injEq] at hcs
    obtain ⟨rfl, hlen, rfl⟩ := hcs
    simp only [if_true] at hz
    intro y hy
    obtain ⟨i, hi, rfl⟩ := List.getElem_of_mem hy
    rcases hks with rfl | ⟨b, off, hA, _, hk⟩
    · cases hy
    · injection hA with hA
      subst hA
      have h1 := hk i hi
      have h2 := hcell i (by omega)
      rw [add_plain] at h2
      rw [h1] at h2
      injection h2 with h2
      injection h2 with _ h2
      have h3 : ks[i] = zs[i]'(by omega) := by rw [h2]; simp [List.getD, List.getElem?_eq_getElem (show i < zs.length by omega)]
      rw [h3]
      have h4 := hwz _ (List.getElem_mem (show i < zs.length by omega))
      simp [Lit.wf, IntKind.min, IntKind.max, IntKind.signed, IntKind.bits] at h4
      omega

set_option maxRecDepth 100000 in
theorem tells_lifted (T : TermApi) (os : Os) (started : os.Started) (H : Type) (enc : TypeId × Value → H) :
    ReturnsInHanded {} Try.checked os 5 .any (Rows.termTellsSpec.pre6 enc Try.prog Try.f5 Rows.termTellsRow.domain false) (Rows.termTellsSpec.post enc Try.prog Try.f5 false true false false) := by
  refine law_lifted (tb := 4) (by kernel_rfl) started (by kernel_rfl) Try.func5
    (ChangeSpec.witness6 (enc := enc) (C := Try.checked) false ⟨#[], #[.slice none 0 0, .slice none 0 0], []⟩ 8 (by kernel_rfl) (by kernel_rfl) (by kernel_rfl) (by kernel_rfl))
    (by kernel_rfl) (by kernel_rfl) (by kernel_rfl) Try.underlying4 rfl (fun ds h => ?_) (fun W base args ds before hval hA hlt => ?_)
  · rcases ds with _ | ⟨d1, _ | ⟨d2, _ | ⟨d3, r⟩⟩⟩ <;> first | rfl | (exfalso; rw [Try.params5] at h; simp at h)
  · rw [Try.params5] at hA hval
    obtain ⟨v0, v1, d0, d1, p0, p1, rfl, rfl, rfl, h0, h1⟩ := trodAll_two hA
    obtain ⟨a0, len, cap, rfl⟩ := okWide_slice Try.underlying34 (hval 0 34 v0 rfl rfl)
    obtain ⟨a1, len1, cap1, rfl⟩ := okWide_slice Try.underlying22 (hval 1 22 v1 rfl rfl)
    obtain ⟨fuel, hf⟩ := h0
    obtain ⟨fuel1, hf1⟩ := h1
    obtain ⟨A, cap', rs, e, hl, hrs⟩ := rows_view Try.underlying34 Try.underlying26 Try.underlying5 (by kernel_rfl) (by kernel_rfl) hf
    obtain ⟨A1, cap1', ks, e1, hkl, hks⟩ := ints_view Try.underlying22 Try.underlying3 (by kernel_rfl) hf1
    rw [e1] at hf1
    rw [e, e1]
    exact tells_some T A A1 cap' cap1' rs ks W hl hrs hks (ints_wf Try.underlying22 Try.underlying3 (by kernel_rfl) hf1 hks)
end Go.Proofs.Ytlodklmcamanpaa
