/- AcctErrors answers true for any number, and leaves them as they were. No conditions. -/
import Derived.Test.YtemfidjbmophfaaAcctErrorsLift
import Derived.Test.YtemfidjbmophfaaAcctMade
namespace Go.Proofs.Ytemfidjbmophfaa
open Go.ChangeShapes Go.WideShapes Go.ChangeAt Go.RowKit

theorem aerrors_holds : Rows.AcctErrorsSaid :=
  OpenClaim.holds_of_wide 3 Try.f3 rfl rfl rfl rfl rfl rfl rfl ⟨rfl, rfl, rfl, rfl, rfl⟩ rfl rfl rfl rfl rfl (by kernel_rfl) Try.func3 (by kernel_rfl)
    (of_decide_eq_true (by kernel_rfl)) (by unfold Func.isWrapper; first | (rw [if_pos (by decide +kernel)]; kernel_rfl) | (rw [if_neg (by decide +kernel)]; exact ⟨rfl, rfl⟩))
    (fun os started H enc _ => aerrors_lifted acctApi os started H enc)
#print axioms aerrors_holds
end Go.Proofs.Ytemfidjbmophfaa
