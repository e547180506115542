/- HoldPlays answers true for any arguments, and leaves them as they were. No conditions. -/
import Derived.Test.YtnicfhafepiknaaHoldPlaysLift
import Derived.Test.YtnicfhafepiknaaHoldMade
namespace Go.Proofs.Ytnicfhafepiknaa
open Go.ChangeShapes Go.WideShapes Go.ChangeAt Go.RowKit

theorem hplays_holds : Rows.HoldPlaysSaid :=
  OpenClaim.holds_of_wide 9 Try.f9 rfl rfl rfl rfl rfl rfl rfl ⟨rfl, rfl, rfl, rfl, rfl⟩ rfl rfl rfl rfl rfl (by kernel_rfl) Try.func9 (by kernel_rfl)
    (of_decide_eq_true (by kernel_rfl)) (by unfold Func.isWrapper; first | (rw [if_pos (by decide +kernel)]; kernel_rfl) | (rw [if_neg (by decide +kernel)]; exact ⟨rfl, rfl⟩))
    (fun os started H enc _ => hplays_lifted holdApi os started H enc)
#print axioms hplays_holds
end Go.Proofs.Ytnicfhafepiknaa
