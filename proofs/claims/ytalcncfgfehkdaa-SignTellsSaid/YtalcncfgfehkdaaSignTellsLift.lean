/- SignTells answers true for any rows of numbers, and leaves them as they were. Conditions: sign's calls are as their contracts say. -/
import Derived.Test.YtalcncfgfehkdaaSignTells
import Derived.Test.YtalcncfgfehkdaaIntArg
namespace Go.Proofs.Ytalcncfgfehkdaa
open Go.ChangeShapes Go.WideShapes Go.ChangeAt Go.RowKit

set_option maxRecDepth 100000 in
theorem stells_lifted (T : SignApi) (os : Os) (started : os.Started) (H : Type) (enc : TypeId × Value → H) :
    ReturnsInHanded {} Try.checked os 5 .any (Rows.signTellsSpec.pre6 enc Try.prog Try.f5 Rows.signTellsRow.domain false) (Rows.signTellsSpec.post enc Try.prog Try.f5 false true false false) := by
  refine law_lifted (tb := 4) (by kernel_rfl) started (by kernel_rfl) Try.func5
    (ChangeSpec.witness6 (enc := enc) (C := Try.checked) false ⟨#[], #[.slice none 0 0, .slice none 0 0, .bool false], []⟩ 8 (by kernel_rfl) (by kernel_rfl) (by kernel_rfl) (by kernel_rfl))
    (by kernel_rfl) (by kernel_rfl) (by kernel_rfl) Try.underlying4 rfl (fun ds h => ?_) (fun W base args ds before hval hA hlt => ?_)
  · rcases ds with _ | ⟨d1, _ | ⟨d2, _ | ⟨d3, _ | ⟨d4, r⟩⟩⟩⟩ <;> first | rfl | (exfalso; rw [Try.params5] at h; simp at h)
  · rw [Try.params5] at hA hval
    obtain ⟨v0, v1, v2, d0, d1, d2, p0, p1, p2, rfl, rfl, rfl, h0, h1, h2⟩ := trodAll_three hA
    obtain ⟨a0, len0, cap0, rfl⟩ := okWide_slice Try.underlying22 (hval 0 22 v0 rfl rfl)
    obtain ⟨a1, len1, cap1, rfl⟩ := okWide_slice Try.underlying22 (hval 1 22 v1 rfl rfl)
    obtain ⟨few, rfl⟩ := okWide_bool Try.underlying4 (hval 2 4 v2 rfl rfl)
    obtain ⟨fuel0, hf0⟩ := h0
    obtain ⟨fuel1, hf1⟩ := h1
    obtain ⟨A0, cap0', xs, e0, hl0, hx, wx⟩ := ints_full Try.underlying22 Try.underlying3 (by kernel_rfl) hf0
    obtain ⟨A1, cap1', ys, e1, hl1, hy, wy⟩ := ints_full Try.underlying22 Try.underlying3 (by kernel_rfl) hf1
    rw [e0, e1]
    exact stells_some T A0 A1 cap0' cap1' xs ys few W hl0 hl1 hx hy wx wy
end Go.Proofs.Ytalcncfgfehkdaa
