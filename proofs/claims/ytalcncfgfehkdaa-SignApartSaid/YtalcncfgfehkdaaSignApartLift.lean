/- SignApart answers true for any row of numbers and any two numbers, and leaves them as they were. Conditions: sign's calls are as their contracts say. -/
import Derived.Test.YtalcncfgfehkdaaSignApart
import Derived.Test.YtalcncfgfehkdaaIntArg
namespace Go.Proofs.Ytalcncfgfehkdaa
open Go.ChangeShapes Go.WideShapes Go.ChangeAt Go.RowKit

set_option maxRecDepth 100000 in
theorem sapart_lifted (T : SignApi) (os : Os) (started : os.Started) (H : Type) (enc : TypeId × Value → H) :
    ReturnsInHanded {} Try.checked os 3 .any (Rows.signApartSpec.pre6 enc Try.prog Try.f3 Rows.signApartRow.domain false) (Rows.signApartSpec.post enc Try.prog Try.f3 false true false false) := by
  refine law_lifted (tb := 4) (by kernel_rfl) started (by kernel_rfl) Try.func3
    (ChangeSpec.witness6 (enc := enc) (C := Try.checked) false ⟨#[], #[.slice none 0 0, .int .i64 0, .int .i64 0], []⟩ 8 (by kernel_rfl) (by kernel_rfl) (by kernel_rfl) (by kernel_rfl))
    (by kernel_rfl) (by kernel_rfl) (by kernel_rfl) Try.underlying4 rfl (fun ds h => ?_) (fun W base args ds before hval hA hlt => ?_)
  · rcases ds with _ | ⟨d1, _ | ⟨d2, _ | ⟨d3, _ | ⟨d4, r⟩⟩⟩⟩ <;> first | rfl | (exfalso; rw [Try.params3] at h; simp at h)
  · rw [Try.params3] at hA hval
    obtain ⟨v0, v1, v2, d0, d1, d2, p0, p1, p2, rfl, rfl, rfl, h0, h1, h2⟩ := trodAll_three hA
    obtain ⟨a0, len0, cap0, rfl⟩ := okWide_slice Try.underlying22 (hval 0 22 v0 rfl rfl)
    obtain ⟨what, rfl, _, _, w1⟩ := open_int Try.underlying3 (hval 1 3 v1 rfl rfl) h1
    obtain ⟨other, rfl, _, _, w2⟩ := open_int Try.underlying3 (hval 2 3 v2 rfl rfl) h2
    obtain ⟨fuel0, hf0⟩ := h0
    obtain ⟨A0, cap0', xs, e0, hl0, hx, wx⟩ := ints_full Try.underlying22 Try.underlying3 (by kernel_rfl) hf0
    rw [e0]
    exact sapart_some T A0 cap0' xs what other W hl0 hx wx (i64_wf w1) (i64_wf w2)
end Go.Proofs.Ytalcncfgfehkdaa
