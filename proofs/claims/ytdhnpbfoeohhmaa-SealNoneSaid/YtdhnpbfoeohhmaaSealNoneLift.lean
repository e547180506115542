/- SealNone answers true for any rows and any number, and leaves them as they were. Conditions: seal's calls are as their contracts say. -/
import Derived.Test.YtdhnpbfoeohhmaaSealNone
import Derived.Test.YtdhnpbfoeohhmaaIntArg
namespace Go.Proofs.Ytdhnpbfoeohhmaa
open Go.ChangeShapes Go.WideShapes Go.ChangeAt Go.RowKit

set_option maxRecDepth 100000 in
theorem vnone_lifted (S : SealApi) (os : Os) (started : os.Started) (H : Type) (enc : TypeId × Value → H) :
    ReturnsInHanded {} Try.checked os 5 .any (Rows.sealNoneSpec.pre6 enc Try.prog Try.f5 Rows.sealNoneRow.domain false) (Rows.sealNoneSpec.post enc Try.prog Try.f5 false true false false) := by
  refine law_lifted (tb := 4) (by kernel_rfl) started (by kernel_rfl) Try.func5
    (ChangeSpec.witness6 (enc := enc) (C := Try.checked) false ⟨#[], #[.slice none 0 0, .slice none 0 0, .int .i64 0], []⟩ 8 (by kernel_rfl) (by kernel_rfl) (by kernel_rfl) (by kernel_rfl))
    (by kernel_rfl) (by kernel_rfl) (by kernel_rfl) Try.underlying4 rfl (fun ds h => ?_) (fun W base args ds before hval hA hlt => ?_)
  · rcases ds with _ | ⟨d1, _ | ⟨d2, _ | ⟨d3, _ | ⟨d4, r⟩⟩⟩⟩ <;> first | rfl | (exfalso; rw [Try.params5] at h; simp at h)
  · rw [Try.params5] at hA hval
    obtain ⟨v0, v1, v2, d0, d1, d2, p0, p1, p2, rfl, rfl, rfl, h0, h1, h2⟩ := trodAll_three hA
    obtain ⟨a0, len0, cap0, rfl⟩ := okWide_slice Try.underlying36 (hval 0 36 v0 rfl rfl)
    obtain ⟨a1, len1, cap1, rfl⟩ := okWide_slice Try.underlying22 (hval 1 22 v1 rfl rfl)
    obtain ⟨raw, rfl, _, _, w2⟩ := open_int Try.underlying3 (hval 2 3 v2 rfl rfl) h2
    obtain ⟨fuel0, hf0⟩ := h0
    obtain ⟨fuel1, hf1⟩ := h1
    obtain ⟨A0, cap0', rs, e0, hl0, hr⟩ := rows_view Try.underlying36 Try.underlying23 Try.underlying5 (by kernel_rfl) (by kernel_rfl) hf0
    obtain ⟨A1, cap1', xs, e1, hl1, hx, wx⟩ := ints_full Try.underlying22 Try.underlying3 (by kernel_rfl) hf1
    rw [e0, e1]
    exact none_some S A0 A1 cap0' cap1' rs xs raw W hl0 hr hl1 hx wx (i64_wf w2)
end Go.Proofs.Ytdhnpbfoeohhmaa
