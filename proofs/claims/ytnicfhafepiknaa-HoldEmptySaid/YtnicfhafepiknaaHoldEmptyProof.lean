/- HoldEmpty answers true for any arguments, and leaves them as they were. No conditions. -/
import Derived.Test.YtnicfhafepiknaaHoldEmptyLift
import Derived.Test.YtnicfhafepiknaaHoldMade
namespace Go.Proofs.Ytnicfhafepiknaa
open Go.ChangeShapes Go.WideShapes Go.ChangeAt Go.RowKit

theorem hempty_holds : Rows.HoldEmptySaid :=
  OpenClaim.holds_of_wide 8 Try.f8 rfl rfl rfl rfl rfl rfl rfl ⟨rfl, rfl, rfl, rfl, rfl⟩ rfl rfl rfl rfl rfl (by kernel_rfl) Try.func8 (by kernel_rfl)
    (of_decide_eq_true (by kernel_rfl)) (by unfold Func.isWrapper; first | (rw [if_pos (by decide +kernel)]; kernel_rfl) | (rw [if_neg (by decide +kernel)]; exact ⟨rfl, rfl⟩))
    (fun os started H enc _ => hempty_lifted holdApi os started H enc)
#print axioms hempty_holds
end Go.Proofs.Ytnicfhafepiknaa
