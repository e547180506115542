/- AcctPlays answers true for any number of clients and any steps, and leaves them as they were. No conditions. -/
import Derived.Test.YtemfidjbmophfaaAcctPlaysLift
import Derived.Test.YtemfidjbmophfaaAcctMade
namespace Go.Proofs.Ytemfidjbmophfaa
open Go.ChangeShapes Go.WideShapes Go.ChangeAt Go.RowKit

theorem aplays_holds : Rows.AcctPlaysSaid :=
  OpenClaim.holds_of_wide 6 Try.f6 rfl rfl rfl rfl rfl rfl rfl ⟨rfl, rfl, rfl, rfl, rfl⟩ rfl rfl rfl rfl rfl (by kernel_rfl) Try.func6 (by kernel_rfl)
    (of_decide_eq_true (by kernel_rfl)) (by unfold Func.isWrapper; first | (rw [if_pos (by decide +kernel)]; kernel_rfl) | (rw [if_neg (by decide +kernel)]; exact ⟨rfl, rfl⟩))
    (fun os started H enc _ => aplays_lifted acctApi os started H enc)
#print axioms aplays_holds
end Go.Proofs.Ytemfidjbmophfaa
