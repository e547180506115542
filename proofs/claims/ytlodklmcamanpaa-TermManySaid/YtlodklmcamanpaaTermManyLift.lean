/- TermMany answers true for any number and any row of numbers, and leaves them as they were. Conditions: term's calls are as their contracts say. -/
import Derived.Test.YtlodklmcamanpaaTermMany2
import Derived.Test.YtlodklmcamanpaaView
namespace Go.Proofs.Ytlodklmcamanpaa
open Go.ChangeShapes Go.WideShapes Go.ChangeAt Go.RowKit

set_option maxRecDepth 100000 in
theorem many_lifted (T : TermApi) (os : Os) (started : os.Started) (H : Type) (enc : TypeId × Value → H) :
    ReturnsInHanded {} Try.checked os 3 .any (Rows.termManySpec.pre6 enc Try.prog Try.f3 Rows.termManyRow.domain false) (Rows.termManySpec.post enc Try.prog Try.f3 false true false false) := by
  refine law_lifted (tb := 4) (by kernel_rfl) started (by kernel_rfl) Try.func3
    (ChangeSpec.witness6 (enc := enc) (C := Try.checked) false ⟨#[], #[.int .i64 0, .slice none 0 0], []⟩ 8 (by kernel_rfl) (by kernel_rfl) (by kernel_rfl) (by kernel_rfl))
    (by kernel_rfl) (by kernel_rfl) (by kernel_rfl) Try.underlying4 rfl (fun ds h => ?_) (fun W base args ds before hval hA hlt => ?_)
  · rcases ds with _ | ⟨d1, _ | ⟨d2, _ | ⟨d3, r⟩⟩⟩ <;> first | rfl | (exfalso; rw [Try.params3] at h; simp at h)
  · rw [Try.params3] at hA hval
    obtain ⟨v0, v1, d0, d1, p0, p1, rfl, rfl, rfl, h0, h1⟩ := trodAll_two hA
    obtain ⟨n, rfl, _, _, w0⟩ := open_int Try.underlying3 (hval 0 3 v0 rfl rfl) h0
    obtain ⟨a1, len1, cap1, rfl⟩ := okWide_slice Try.underlying22 (hval 1 22 v1 rfl rfl)
    obtain ⟨fuel1, hf1⟩ := h1
    obtain ⟨A1, cap1', ks, e1, hkl, hks⟩ := ints_view Try.underlying22 Try.underlying3 (by kernel_rfl) hf1
    rw [e1]
    exact many_some T n A1 cap1' ks W hkl hks
end Go.Proofs.Ytlodklmcamanpaa
