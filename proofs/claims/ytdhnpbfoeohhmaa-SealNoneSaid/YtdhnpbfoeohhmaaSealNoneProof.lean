/- SealNone answers true for any rows and any number, and leaves them as they were. No conditions. -/
import Derived.Test.YtdhnpbfoeohhmaaSealNoneLift
import Derived.Test.YtdhnpbfoeohhmaaSealMade
namespace Go.Proofs.Ytdhnpbfoeohhmaa
open Go.ChangeShapes Go.WideShapes Go.ChangeAt Go.RowKit

theorem vnone_holds : Rows.SealNoneSaid :=
  OpenClaim.holds_of_wide 5 Try.f5 rfl rfl rfl rfl rfl rfl rfl ⟨rfl, rfl, rfl, rfl, rfl⟩ rfl rfl rfl rfl rfl (by kernel_rfl) Try.func5 (by kernel_rfl)
    (of_decide_eq_true (by kernel_rfl)) (by unfold Func.isWrapper; first | (rw [if_pos (by decide +kernel)]; kernel_rfl) | (rw [if_neg (by decide +kernel)]; exact ⟨rfl, rfl⟩))
    (fun os started H enc _ => vnone_lifted sealApi os started H enc)
#print axioms vnone_holds
end Go.Proofs.Ytdhnpbfoeohhmaa
