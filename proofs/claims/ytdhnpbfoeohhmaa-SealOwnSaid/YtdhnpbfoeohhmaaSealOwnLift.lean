/- SealOwn answers true for any row of bytes and any number, and leaves them as they were. Conditions: seal's calls are as their contracts say. -/
import Derived.Test.YtdhnpbfoeohhmaaSealOwn
namespace Go.Proofs.Ytdhnpbfoeohhmaa
open Go.ChangeShapes Go.WideShapes Go.ChangeAt Go.RowKit

set_option maxRecDepth 100000 in
theorem vown_lifted (S : SealApi) (os : Os) (started : os.Started) (H : Type) (enc : TypeId × Value → H) :
    ReturnsInHanded {} Try.checked os 4 .any (Rows.sealOwnSpec.pre6 enc Try.prog Try.f4 Rows.sealOwnRow.domain false) (Rows.sealOwnSpec.post enc Try.prog Try.f4 false true false false) := by
  refine law_lifted (tb := 4) (by kernel_rfl) started (by kernel_rfl) Try.func4
    (ChangeSpec.witness6 (enc := enc) (C := Try.checked) false ⟨#[], #[.slice none 0 0, .int .i64 0], []⟩ 8 (by kernel_rfl) (by kernel_rfl) (by kernel_rfl) (by kernel_rfl))
    (by kernel_rfl) (by kernel_rfl) (by kernel_rfl) Try.underlying4 rfl (fun ds h => ?_) (fun W base args ds before hval hA hlt => ?_)
  · rcases ds with _ | ⟨d1, _ | ⟨d2, _ | ⟨d3, r⟩⟩⟩ <;> first | rfl | (exfalso; rw [Try.params4] at h; simp at h)
  · rw [Try.params4] at hA hval
    obtain ⟨v0, v1, d0, d1, p0, p1, rfl, rfl, rfl, h0, h1⟩ := trodAll_two hA
    obtain ⟨a0, len, cap, rfl⟩ := okWide_slice Try.underlying23 (hval 0 23 v0 rfl rfl)
    obtain ⟨at_, rfl, _, _, _⟩ := open_int Try.underlying3 (hval 1 3 v1 rfl rfl) h1
    obtain ⟨fuel, hf⟩ := h0
    obtain ⟨A, cap', t, e, hnc, hmx, hA0, hlie⟩ := bytes_view Try.underlying23 Try.underlying5 (by kernel_rfl) hf
    rw [e]
    by_cases hs : t.length = 0 ∨ 200 < t.length
    · exact vown_short S A t.length cap' at_ hs (by omega) W
    · rcases A with _ | a
      · exact absurd (hA0 rfl) (by omega)
      · exact vown_some S a cap' t at_ (by omega) (by omega) W hlie
end Go.Proofs.Ytdhnpbfoeohhmaa
