/- HoldEmpty answers true for any numbers, and leaves them as they were. Conditions: acct's and hold's calls are as their contracts say. -/
import Derived.Test.YtnicfhafepiknaaHoldEmpty
import Derived.Test.YtnicfhafepiknaaIntArg
import Derived.Test.YtnicfhafepiknaaFlat
namespace Go.Proofs.Ytnicfhafepiknaa
open Go.ChangeShapes Go.WideShapes Go.ChangeAt Go.RowKit

set_option maxRecDepth 100000 in
theorem hempty_lifted {T0 : AcctApi} (T : HoldApi T0) (os : Os) (started : os.Started) (H : Type) (enc : TypeId × Value → H) :
    ReturnsInHanded {} Try.checked os 8 .any (Rows.holdEmptySpec.pre6 enc Try.prog Try.f8 Rows.holdEmptyRow.domain false) (Rows.holdEmptySpec.post enc Try.prog Try.f8 false true false false) := by
  refine law_lifted (tb := 4) (by kernel_rfl) started (by kernel_rfl) Try.func8
    (ChangeSpec.witness6 (enc := enc) (C := Try.checked) false ⟨#[], #[.int .i64 0, .int .u64 0, .int .u64 0], []⟩ 8 (by kernel_rfl) (by kernel_rfl) (by kernel_rfl) (by kernel_rfl))
    (by kernel_rfl) (by kernel_rfl) (by kernel_rfl) Try.underlying4 rfl (fun ds h => ?_) (fun W base args ds before hval hA hlt => ?_)
  · rcases ds with _ | ⟨q0, _ | ⟨q1, _ | ⟨q2, _ | ⟨q3, r⟩⟩⟩⟩ <;> first | rfl | (exfalso; rw [Try.params8] at h; simp at h)
  · rw [Try.params8] at hA hval
    obtain ⟨v0, v1, v2, d0, d1, d2, p0, p1, p2, rfl, rfl, rfl, h0, h1, h2⟩ := trodAll_three hA
    obtain ⟨x0, rfl, _, _, w0⟩ := open_int Try.underlying3 (hval 0 3 v0 rfl rfl) h0
    obtain ⟨x1, rfl, _, _, w1⟩ := open_int Try.underlying26 (hval 1 26 v1 rfl rfl) h1
    obtain ⟨x2, rfl, _, _, w2⟩ := open_int Try.underlying26 (hval 2 26 v2 rfl rfl) h2
    skip
    exact hempty_some T x0 x1 x2 W (i64_wf w0) (u64_wf w1) (u64_wf w2)
end Go.Proofs.Ytnicfhafepiknaa
