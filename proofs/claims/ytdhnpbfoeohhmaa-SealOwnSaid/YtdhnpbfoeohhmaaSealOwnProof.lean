/- SealOwn answers true for any row of bytes and any number, and leaves them as they were. No conditions. -/
import Derived.Test.YtdhnpbfoeohhmaaSealOwnLift
import Derived.Test.YtdhnpbfoeohhmaaSealMade
namespace Go.Proofs.Ytdhnpbfoeohhmaa
open Go.ChangeShapes Go.WideShapes Go.ChangeAt Go.RowKit

theorem vown_holds : Rows.SealOwnSaid :=
  OpenClaim.holds_of_wide 4 Try.f4 rfl rfl rfl rfl rfl rfl rfl ⟨rfl, rfl, rfl, rfl, rfl⟩ rfl rfl rfl rfl rfl (by kernel_rfl) Try.func4 (by kernel_rfl)
    (of_decide_eq_true (by kernel_rfl)) (by unfold Func.isWrapper; first | (rw [if_pos (by decide +kernel)]; kernel_rfl) | (rw [if_neg (by decide +kernel)]; exact ⟨rfl, rfl⟩))
    (fun os started H enc _ => vown_lifted sealApi os started H enc)
#print axioms vown_holds
end Go.Proofs.Ytdhnpbfoeohhmaa
