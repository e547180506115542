/- AcctCopies answers true for any amounts and any steps, and leaves them as they were. No conditions. -/
import Derived.Test.YtemfidjbmophfaaAcctCopiesLift
import Derived.Test.YtemfidjbmophfaaAcctMade
namespace Go.Proofs.Ytemfidjbmophfaa
open Go.ChangeShapes Go.WideShapes Go.ChangeAt Go.RowKit

theorem acopies_holds : Rows.AcctCopiesSaid :=
  OpenClaim.holds_of_wide 5 Try.f5 rfl rfl rfl rfl rfl rfl rfl ⟨rfl, rfl, rfl, rfl, rfl⟩ rfl rfl rfl rfl rfl (by kernel_rfl) Try.func5 (by kernel_rfl)
    (of_decide_eq_true (by kernel_rfl)) (by unfold Func.isWrapper; first | (rw [if_pos (by decide +kernel)]; kernel_rfl) | (rw [if_neg (by decide +kernel)]; exact ⟨rfl, rfl⟩))
    (fun os started H enc _ => acopies_lifted acctApi os started H enc)
#print axioms acopies_holds
end Go.Proofs.Ytemfidjbmophfaa
