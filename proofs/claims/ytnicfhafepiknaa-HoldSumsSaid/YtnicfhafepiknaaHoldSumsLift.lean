/- HoldSums answers true for any amounts and any steps, and leaves them as they were. Conditions: acct's and hold's calls are as their contracts say. -/
import Derived.Test.YtnicfhafepiknaaHoldSums
import Derived.Test.YtnicfhafepiknaaIntArg
namespace Go.Proofs.Ytnicfhafepiknaa
open Go.ChangeShapes Go.WideShapes Go.ChangeAt Go.RowKit

set_option maxRecDepth 100000 in
theorem hsums_lifted {T0 : AcctApi} (T : HoldApi T0) (os : Os) (started : os.Started) (H : Type) (enc : TypeId × Value → H) :
    ReturnsInHanded {} Try.checked os 7 .any (Rows.holdSumsSpec.pre6 enc Try.prog Try.f7 Rows.holdSumsRow.domain false) (Rows.holdSumsSpec.post enc Try.prog Try.f7 false true false false) := by
  refine law_lifted (tb := 4) (by kernel_rfl) started (by kernel_rfl) Try.func7
    (ChangeSpec.witness6 (enc := enc) (C := Try.checked) false ⟨#[], #[.slice none 0 0, .slice none 0 0], []⟩ 8 (by kernel_rfl) (by kernel_rfl) (by kernel_rfl) (by kernel_rfl))
    (by kernel_rfl) (by kernel_rfl) (by kernel_rfl) Try.underlying4 rfl (fun ds h => ?_) (fun W base args ds before hval hA hlt => ?_)
  · rcases ds with _ | ⟨q0, _ | ⟨q1, _ | ⟨q2, r⟩⟩⟩ <;> first | rfl | (exfalso; rw [Try.params7] at h; simp at h)
  · rw [Try.params7] at hA hval
    obtain ⟨v0, v1, d0, d1, p0, p1, rfl, rfl, rfl, h0, h1⟩ := trodAll_two hA
    obtain ⟨a0, n0, c0, rfl⟩ := okWide_slice Try.underlying33 (hval 0 33 v0 rfl rfl)
    obtain ⟨f0, g0⟩ := h0
    obtain ⟨A0, k0, x0, e0, l0, y0⟩ := nums_view Try.underlying33 Try.underlying26 (by kernel_rfl) g0
    obtain ⟨a1, n1, c1, rfl⟩ := okWide_slice Try.underlying45 (hval 1 45 v1 rfl rfl)
    obtain ⟨f1, g1⟩ := h1
    obtain ⟨A1, k1, x1, e1, l1, y1⟩ := flat_view (ks := [.i, .i, .u]) Try.underlying45 Try.underlying49 (by kernel_rfl) (by kernel_rfl) (by decide) (all2_mk Try.underlying3 (all2_mk Try.underlying3 (all2_mk Try.underlying26 (trivial)))) g1
    rw [e0, e1]
    exact hsums_some T A0 k0 x0 A1 k1 x1 W l0 y0 l1 y1
end Go.Proofs.Ytnicfhafepiknaa
