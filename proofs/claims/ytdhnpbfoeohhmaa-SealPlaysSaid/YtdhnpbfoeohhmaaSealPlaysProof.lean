/- SealPlays answers true for any number and any row of steps, and leaves them as they were. No conditions. -/
import Derived.Test.YtdhnpbfoeohhmaaSealPlaysLift
import Derived.Test.YtdhnpbfoeohhmaaSealMade
namespace Go.Proofs.Ytdhnpbfoeohhmaa
open Go.ChangeShapes Go.WideShapes Go.ChangeAt Go.RowKit

theorem vplays_holds : Rows.SealPlaysSaid :=
  OpenClaim.holds_of_wide 6 Try.f6 rfl rfl rfl rfl rfl rfl rfl ⟨rfl, rfl, rfl, rfl, rfl⟩ rfl rfl rfl rfl rfl (by kernel_rfl) Try.func6 (by kernel_rfl)
    (of_decide_eq_true (by kernel_rfl)) (by unfold Func.isWrapper; first | (rw [if_pos (by decide +kernel)]; kernel_rfl) | (rw [if_neg (by decide +kernel)]; exact ⟨rfl, rfl⟩))
    (fun os started H enc _ => vplays_lifted sealApi os started H enc)
#print axioms vplays_holds
end Go.Proofs.Ytdhnpbfoeohhmaa
