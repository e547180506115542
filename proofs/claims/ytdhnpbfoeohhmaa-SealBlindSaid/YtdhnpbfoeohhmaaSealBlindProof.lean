/- SealBlind answers true for any row of steps and any texts, and leaves them as they were. No conditions. -/
import Derived.Test.YtdhnpbfoeohhmaaSealBlindLift
import Derived.Test.YtdhnpbfoeohhmaaSealMade
namespace Go.Proofs.Ytdhnpbfoeohhmaa
open Go.ChangeShapes Go.WideShapes Go.ChangeAt Go.RowKit

theorem vblind_holds : Rows.SealBlindSaid :=
  OpenClaim.holds_of_wide 7 Try.f7 rfl rfl rfl rfl rfl rfl rfl ⟨rfl, rfl, rfl, rfl, rfl⟩ rfl rfl rfl rfl rfl (by kernel_rfl) Try.func7 (by kernel_rfl)
    (of_decide_eq_true (by kernel_rfl)) (by unfold Func.isWrapper; first | (rw [if_pos (by decide +kernel)]; kernel_rfl) | (rw [if_neg (by decide +kernel)]; exact ⟨rfl, rfl⟩))
    (fun os started H enc _ => vblind_lifted sealApi (by exact sealApi_lim) os started H enc)
#print axioms vblind_holds
end Go.Proofs.Ytdhnpbfoeohhmaa
