/- HoldSums answers true for any arguments, and leaves them as they were. No conditions. -/
import Derived.Test.YtnicfhafepiknaaHoldSumsLift
import Derived.Test.YtnicfhafepiknaaHoldMade
namespace Go.Proofs.Ytnicfhafepiknaa
open Go.ChangeShapes Go.WideShapes Go.ChangeAt Go.RowKit

theorem hsums_holds : Rows.HoldSumsSaid :=
  OpenClaim.holds_of_wide 7 Try.f7 rfl rfl rfl rfl rfl rfl rfl ⟨rfl, rfl, rfl, rfl, rfl⟩ rfl rfl rfl rfl rfl (by kernel_rfl) Try.func7 (by kernel_rfl)
    (of_decide_eq_true (by kernel_rfl)) (by unfold Func.isWrapper; first | (rw [if_pos (by decide +kernel)]; kernel_rfl) | (rw [if_neg (by decide +kernel)]; exact ⟨rfl, rfl⟩))
    (fun os started H enc _ => hsums_lifted holdApi os started H enc)
#print axioms hsums_holds
end Go.Proofs.Ytnicfhafepiknaa
