/- WireBack answers true for any row of parts and any number, and leaves them as they were. Conditions: wire's calls are as their contracts say. -/
import Derived.Test.YtcnnfmooigfeiaaWireBack
import Derived.Test.YtcnnfmooigfeiaaWireBack0
import Derived.Test.YtcnnfmooigfeiaaWireView
namespace Go.Proofs.Ytcnnfmooigfeiaa
open Go.ChangeShapes Go.WideShapes Go.ChangeAt Go.RowKit

set_option maxRecDepth 100000 in
theorem back_lifted (wireApi : WireApi) (os : Os) (started : os.Started) (H : Type) (enc : TypeId × Value → H) :
    ReturnsInHanded {} Try.checked os 6 .any (Rows.wireBackSpec.pre6 enc Try.prog Try.f6 Rows.wireBackRow.domain false) (Rows.wireBackSpec.post enc Try.prog Try.f6 false true false false) := by
  refine law_lifted (tb := 4) (by kernel_rfl) started (by kernel_rfl) Try.func6
    (ChangeSpec.witness6 (enc := enc) (C := Try.checked) false ⟨#[], #[.slice none 0 0, .int .i64 0], []⟩ 8 (by kernel_rfl) (by kernel_rfl) (by kernel_rfl) (by kernel_rfl))
    (by kernel_rfl) (by kernel_rfl) (by kernel_rfl) Try.underlying4 rfl (fun ds h => ?_) (fun W base args ds before hval hA hlt => ?_)
  · rcases ds with _ | ⟨d1, _ | ⟨d2, _ | ⟨d3, r⟩⟩⟩ <;> first | rfl | (exfalso; rw [Try.params6] at h; simp at h)
  · rw [Try.params6] at hA hval
    obtain ⟨v0, v1, d0, d1, p0, p1, rfl, rfl, rfl, h0, h1⟩ := trodAll_two hA
    obtain ⟨a0, len, cap, rfl⟩ := okWide_slice Try.underlying41 (hval 0 41 v0 rfl rfl)
    obtain ⟨at_, rfl, rfl, rfl, w1⟩ := open_int Try.underlying3 (hval 1 3 v1 rfl rfl) h1
    obtain ⟨fuel, hf⟩ := h0
    obtain ⟨A, cap', ps, e, hn, hp⟩ := parts_view Try.underlying41 Try.underlying43 (by kernel_rfl) (by kernel_rfl) (by kernel_rfl) Try.underlying3 Try.underlying23 Try.underlying25 Try.underlying5 (by kernel_rfl) hf
    rw [e]
    rcases Nat.eq_zero_or_pos ps.length with h | h
    · rw [h]; exact back_none wireApi A cap' at_ W
    · rcases hp with rfl | ⟨b, off, rfl, hb, hc⟩
      · simp at h
      · exact back_some wireApi b off cap' ps at_ W hn h hb hc
end Go.Proofs.Ytcnnfmooigfeiaa
