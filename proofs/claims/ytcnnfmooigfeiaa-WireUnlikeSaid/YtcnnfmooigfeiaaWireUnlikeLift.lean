/- WireUnlike answers true for any two rows of rows of bytes and any two numbers, and leaves them as they were. Conditions: wire's calls are as their contracts say. -/
import Derived.Test.YtcnnfmooigfeiaaWireUnlike
import Derived.Test.YtcnnfmooigfeiaaLaw
import Derived.Carry
namespace Go.Proofs.Ytcnnfmooigfeiaa
open Go.ChangeShapes Go.WideShapes Go.ChangeAt Go.RowKit

set_option maxRecDepth 100000 in
theorem unlike_lifted (wireApi : WireApi) (os : Os) (started : os.Started) (H : Type) (enc : TypeId × Value → H) :
    ReturnsInHanded {} Try.checked os 3 .any (Rows.wireUnlikeSpec.pre6 enc Try.prog Try.f3 Rows.wireUnlikeRow.domain false) (Rows.wireUnlikeSpec.post enc Try.prog Try.f3 false true false false) := by
  refine law_lifted (tb := 4) (by kernel_rfl) started (by kernel_rfl) Try.func3
    (ChangeSpec.witness6 (enc := enc) (C := Try.checked) false ⟨#[], #[.slice none 0 0, .slice none 0 0, .int .u64 0, .int .u64 0], []⟩ 8 (by kernel_rfl) (by kernel_rfl) (by kernel_rfl) (by kernel_rfl))
    (by kernel_rfl) (by kernel_rfl) (by kernel_rfl) Try.underlying4 rfl (fun ds h => ?_) (fun W base args ds before hval hA hlt => ?_)
  · rcases ds with _ | ⟨d1, _ | ⟨d2, _ | ⟨d3, _ | ⟨d4, _ | ⟨d5, r⟩⟩⟩⟩⟩ <;> first | rfl | (exfalso; rw [Try.params3] at h; simp at h)
  · rw [Try.params3] at hA hval
    obtain ⟨v0, v1, v2, v3, d0, d1, d2, d3, p0, p1, p2, p3, rfl, rfl, rfl, h0, h1, h2, h3⟩ := trodAll_four hA
    obtain ⟨a0, len, cap, rfl⟩ := okWide_slice Try.underlying22 (hval 0 22 v0 rfl rfl)
    obtain ⟨a1, len1, cap1, rfl⟩ := okWide_slice Try.underlying22 (hval 1 22 v1 rfl rfl)
    obtain ⟨n, rfl, _, _, w2⟩ := open_int Try.underlying23 (hval 2 23 v2 rfl rfl) h2
    obtain ⟨m, rfl, _, _, w3⟩ := open_int Try.underlying23 (hval 3 23 v3 rfl rfl) h3
    simp [Lit.wf, IntKind.min, IntKind.max, IntKind.signed, IntKind.bits] at w2 w3
    obtain ⟨fuel, hf⟩ := h0
    obtain ⟨fuel1, hf1⟩ := h1
    obtain ⟨A, cap', rs, e, hl, hrs⟩ := rows_view Try.underlying22 Try.underlying25 Try.underlying5 (by kernel_rfl) (by kernel_rfl) hf
    obtain ⟨A1, cap1', rs1, e1, hl1, hrs1⟩ := rows_view Try.underlying22 Try.underlying25 Try.underlying5 (by kernel_rfl) (by kernel_rfl) hf1
    rw [e, e1]
    by_cases h12 : 12 < rs.length ∨ 12 < rs1.length
    · exact unlike_long wireApi A A1 rs.length cap' rs1.length cap1' n m W h12 hl hl1
    · exact unlike_some wireApi A A1 cap' cap1' rs rs1 n m W (by omega) (by omega) ⟨by omega, by omega⟩ ⟨by omega, by omega⟩ hrs hrs1
end Go.Proofs.Ytcnnfmooigfeiaa
