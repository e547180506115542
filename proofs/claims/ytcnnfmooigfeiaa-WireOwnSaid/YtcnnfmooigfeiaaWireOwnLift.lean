/- WireOwn answers true for any bytes and any number, and leaves them as they were. Conditions: wire's calls are as their contracts say. -/
import Derived.Test.YtcnnfmooigfeiaaWireOwn
import Derived.Test.YtcnnfmooigfeiaaWireView
namespace Go.Proofs.Ytcnnfmooigfeiaa
open Go.ChangeShapes Go.WideShapes Go.ChangeAt Go.RowKit

set_option maxRecDepth 100000 in
theorem own_lifted (wireApi : WireApi) (os : Os) (started : os.Started) (H : Type) (enc : TypeId × Value → H) :
    ReturnsInHanded {} Try.checked os 4 .any (Rows.wireOwnSpec.pre6 enc Try.prog Try.f4 Rows.wireOwnRow.domain false) (Rows.wireOwnSpec.post enc Try.prog Try.f4 false true false false) := by
  refine law_lifted (tb := 4) (by kernel_rfl) started (by kernel_rfl) Try.func4
    (ChangeSpec.witness6 (enc := enc) (C := Try.checked) false ⟨#[], #[.slice none 0 0, .int .i64 0], []⟩ 8 (by kernel_rfl) (by kernel_rfl) (by kernel_rfl) (by kernel_rfl))
    (by kernel_rfl) (by kernel_rfl) (by kernel_rfl) Try.underlying4 rfl (fun ds h => ?_) (fun W base args ds before hval hA hlt => ?_)
  · rcases ds with _ | ⟨d1, _ | ⟨d2, _ | ⟨d3, r⟩⟩⟩ <;> first | rfl | (exfalso; rw [Try.params4] at h; simp at h)
  · rw [Try.params4] at hA hval
    obtain ⟨v0, v1, d0, d1, p0, p1, rfl, rfl, rfl, h0, h1⟩ := trodAll_two hA
    obtain ⟨a0, len, cap, rfl⟩ := okWide_slice Try.underlying25 (hval 0 25 v0 rfl rfl)
    obtain ⟨at_, rfl, rfl, rfl, w1⟩ := open_int Try.underlying3 (hval 1 3 v1 rfl rfl) h1
    obtain ⟨fuel, hf⟩ := h0
    obtain ⟨A, cap', l, e, hl, hmax, hnil, hlie⟩ := bytes_view Try.underlying25 Try.underlying5 (by kernel_rfl) hf
    rw [e]
    by_cases h5 : 0 < l.length ∧ l.length ≤ 100
    · rcases A with _ | a
      · have := hnil rfl; omega
      · exact own_some wireApi a cap' l at_ h5.1 h5.2 W hlie
    · exact own_short wireApi A l.length cap' at_ (by omega) (by omega) W

end Go.Proofs.Ytcnnfmooigfeiaa
