/- SealNeeds answers true for any numbers, any row of numbers and any bytes, and leaves them as they were. No conditions. -/
import Derived.Test.YtdhnpbfoeohhmaaSealNeedsLift
import Derived.Test.YtdhnpbfoeohhmaaSealMade
namespace Go.Proofs.Ytdhnpbfoeohhmaa
open Go.ChangeShapes Go.WideShapes Go.ChangeAt Go.RowKit

theorem vneeds_holds : Rows.SealNeedsSaid :=
  OpenClaim.holds_of_wide 3 Try.f3 rfl rfl rfl rfl rfl rfl rfl ⟨rfl, rfl, rfl, rfl, rfl⟩ rfl rfl rfl rfl rfl (by kernel_rfl) Try.func3 (by kernel_rfl)
    (of_decide_eq_true (by kernel_rfl)) (by unfold Func.isWrapper; first | (rw [if_pos (by decide +kernel)]; kernel_rfl) | (rw [if_neg (by decide +kernel)]; exact ⟨rfl, rfl⟩))
    (fun os started H enc _ => vneeds_lifted sealApi os started H enc)
#print axioms vneeds_holds
end Go.Proofs.Ytdhnpbfoeohhmaa
