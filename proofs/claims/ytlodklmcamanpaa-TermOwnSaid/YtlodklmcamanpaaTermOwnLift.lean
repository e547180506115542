/- TermOwn answers true for any bytes and any number, and leaves them as they were. Conditions: term's calls are as their contracts say. -/
import Derived.Test.YtlodklmcamanpaaTermOwn
import Derived.Test.YtlodklmcamanpaaView
namespace Go.Proofs.Ytlodklmcamanpaa
open Go.ChangeShapes Go.WideShapes Go.ChangeAt Go.RowKit

set_option maxRecDepth 100000 in
theorem own_lifted (T : TermApi) (os : Os) (started : os.Started) (H : Type) (enc : TypeId × Value → H) :
    ReturnsInHanded {} Try.checked os 6 .any (Rows.termOwnSpec.pre6 enc Try.prog Try.f6 Rows.termOwnRow.domain false) (Rows.termOwnSpec.post enc Try.prog Try.f6 false true false false) := by
  refine law_lifted (tb := 4) (by kernel_rfl) started (by kernel_rfl) Try.func6
    (ChangeSpec.witness6 (enc := enc) (C := Try.checked) false ⟨#[], #[.slice none 0 0, .int .i64 0], []⟩ 8 (by kernel_rfl) (by kernel_rfl) (by kernel_rfl) (by kernel_rfl))
    (by kernel_rfl) (by kernel_rfl) (by kernel_rfl) Try.underlying4 rfl (fun ds h => ?_) (fun W base args ds before hval hA hlt => ?_)
  · rcases ds with _ | ⟨d1, _ | ⟨d2, _ | ⟨d3, r⟩⟩⟩ <;> first | rfl | (exfalso; rw [Try.params6] at h; simp at h)
  · rw [Try.params6] at hA hval
    obtain ⟨v0, v1, d0, d1, p0, p1, rfl, rfl, rfl, h0, h1⟩ := trodAll_two hA
    obtain ⟨a0, len, cap, rfl⟩ := okWide_slice Try.underlying26 (hval 0 26 v0 rfl rfl)
    obtain ⟨n, rfl, _, _, w1⟩ := open_int Try.underlying3 (hval 1 3 v1 rfl rfl) h1
    obtain ⟨fuel, hf⟩ := h0
    obtain ⟨A, cap', l, e, hl, hmax, hnil, hlie⟩ := bytes_view Try.underlying26 Try.underlying5 (by kernel_rfl) hf
    rw [e]
    by_cases h5 : l.length = 0 ∨ 200 < l.length
    · exact own_short T A l.length cap' n h5 (by omega) W
    · rcases A with _ | a
      · have := hnil rfl; omega
      · exact own_some T a cap' l n (by omega) (by omega) W hlie
end Go.Proofs.Ytlodklmcamanpaa
