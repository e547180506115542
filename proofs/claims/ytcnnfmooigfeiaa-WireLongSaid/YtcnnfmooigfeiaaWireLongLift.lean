/- WireLong answers true for any row of parts, and leaves it as it was. Conditions: wire's calls are as their contracts say. -/
import Derived.Test.YtcnnfmooigfeiaaWireView
namespace Go.Proofs.Ytcnnfmooigfeiaa
open Go.ChangeShapes Go.WideShapes Go.ChangeAt Go.RowKit

set_option maxRecDepth 100000 in
theorem long_lifted (wireApi : WireApi) (os : Os) (started : os.Started) (H : Type) (enc : TypeId × Value → H) :
    ReturnsInHanded {} Try.checked os 5 .any (Rows.wireLongSpec.pre6 enc Try.prog Try.f5 Rows.wireLongRow.domain false) (Rows.wireLongSpec.post enc Try.prog Try.f5 false true false false) := by
  refine law_lifted (tb := 4) (by kernel_rfl) started (by kernel_rfl) Try.func5
    (ChangeSpec.witness6 (enc := enc) (C := Try.checked) false ⟨#[], #[.slice none 0 0], []⟩ 8 (by kernel_rfl) (by kernel_rfl) (by kernel_rfl) (by kernel_rfl))
    (by kernel_rfl) (by kernel_rfl) (by kernel_rfl) Try.underlying4 rfl (fun ds h => ?_) (fun W base args ds before hval hA hlt => ?_)
  · rcases ds with _ | ⟨d1, _ | ⟨d2, r⟩⟩ <;> first | rfl | (exfalso; rw [Try.params5] at h; simp at h)
  · rw [Try.params5] at hA hval
    obtain ⟨v0, d0, rfl, rfl, h0⟩ := trodAll_one hA
    obtain ⟨a0, len, cap, rfl⟩ := okWide_slice Try.underlying41 (hval 0 41 v0 rfl rfl)
    obtain ⟨fuel, hf⟩ := h0
    obtain ⟨A, cap', ps, e, hn, hp⟩ := parts_view Try.underlying41 Try.underlying43 (by kernel_rfl) (by kernel_rfl) (by kernel_rfl) Try.underlying3 Try.underlying23 Try.underlying25 Try.underlying5 (by kernel_rfl) hf
    rw [e]
    rcases hp with rfl | ⟨b, off, rfl, hb, hc⟩
    · exact long_empty wireApi A cap' W
    · exact long_some wireApi b off cap' ps W hn hb hc

end Go.Proofs.Ytcnnfmooigfeiaa
