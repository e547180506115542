/- AcctMoves answers true for any amounts and any steps, and leaves them as they were. No conditions. -/
import Derived.Test.YtemfidjbmophfaaAcctMovesLift
import Derived.Test.YtemfidjbmophfaaAcctMade
namespace Go.Proofs.Ytemfidjbmophfaa
open Go.ChangeShapes Go.WideShapes Go.ChangeAt Go.RowKit

theorem amoves_holds : Rows.AcctMovesSaid :=
  OpenClaim.holds_of_wide 4 Try.f4 rfl rfl rfl rfl rfl rfl rfl ⟨rfl, rfl, rfl, rfl, rfl⟩ rfl rfl rfl rfl rfl (by kernel_rfl) Try.func4 (by kernel_rfl)
    (of_decide_eq_true (by kernel_rfl)) (by unfold Func.isWrapper; first | (rw [if_pos (by decide +kernel)]; kernel_rfl) | (rw [if_neg (by decide +kernel)]; exact ⟨rfl, rfl⟩))
    (fun os started H enc _ => amoves_lifted acctApi os started H enc)
#print axioms amoves_holds
end Go.Proofs.Ytemfidjbmophfaa
