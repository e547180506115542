/- SealNeeds answers true for any numbers, any row of numbers and any bytes, and leaves them as they were. Conditions: seal's calls are as their contracts say. -/
import Derived.Test.YtdhnpbfoeohhmaaSealNeeds
import Derived.Test.YtdhnpbfoeohhmaaIntArg
namespace Go.Proofs.Ytdhnpbfoeohhmaa
open Go.ChangeShapes Go.WideShapes Go.ChangeAt Go.RowKit

set_option maxRecDepth 100000 in
theorem vneeds_lifted (S : SealApi) (os : Os) (started : os.Started) (H : Type) (enc : TypeId × Value → H) :
    ReturnsInHanded {} Try.checked os 3 .any (Rows.sealNeedsSpec.pre6 enc Try.prog Try.f3 Rows.sealNeedsRow.domain false) (Rows.sealNeedsSpec.post enc Try.prog Try.f3 false true false false) := by
  refine law_lifted (tb := 4) (by kernel_rfl) started (by kernel_rfl) Try.func3
    (ChangeSpec.witness6 (enc := enc) (C := Try.checked) false ⟨#[], #[.int .i64 0, .slice none 0 0, .slice none 0 0, .int .i64 0], []⟩ 8 (by kernel_rfl) (by kernel_rfl) (by kernel_rfl) (by kernel_rfl))
    (by kernel_rfl) (by kernel_rfl) (by kernel_rfl) Try.underlying4 rfl (fun ds h => ?_) (fun W base args ds before hval hA hlt => ?_)
  · rcases ds with _ | ⟨d1, _ | ⟨d2, _ | ⟨d3, _ | ⟨d4, _ | ⟨d5, r⟩⟩⟩⟩⟩ <;> first | rfl | (exfalso; rw [Try.params3] at h; simp at h)
  · rw [Try.params3] at hA hval
    obtain ⟨v0, v1, v2, v3, d0, d1, d2, d3, p0, p1, p2, p3, rfl, rfl, rfl, h0, h1, h2, h3⟩ := trodAll_four hA
    obtain ⟨need, rfl, _, _, w0⟩ := open_int Try.underlying3 (hval 0 3 v0 rfl rfl) h0
    obtain ⟨a1, len1, cap1, rfl⟩ := okWide_slice Try.underlying22 (hval 1 22 v1 rfl rfl)
    obtain ⟨a2, len2, cap2, rfl⟩ := okWide_slice Try.underlying23 (hval 2 23 v2 rfl rfl)
    obtain ⟨label, rfl, _, _, w3⟩ := open_int Try.underlying3 (hval 3 3 v3 rfl rfl) h3
    obtain ⟨fuel1, hf1⟩ := h1
    obtain ⟨fuel2, hf2⟩ := h2
    obtain ⟨A1, cap1', xs, e1, hl1, hx, _⟩ := ints_full Try.underlying22 Try.underlying3 (by kernel_rfl) hf1
    obtain ⟨A2, cap2', t, e2, hnc, hmx, hA0, hlie⟩ := bytes_view Try.underlying23 Try.underlying5 (by kernel_rfl) hf2
    rw [e1, e2]
    by_cases hs : 200 < t.length
    · exact needs_long S need label A1 A2 xs.length cap1' t.length cap2' hs (by omega) W
    · exact needs_some S need label A1 A2 cap1' cap2' xs t W hl1 hx (i64_wf w3) (by omega) hnc hA0 hlie
end Go.Proofs.Ytdhnpbfoeohhmaa
