/- SignMany answers true for any numbers, and leaves them as they were. No conditions. -/
import Derived.Test.YtalcncfgfehkdaaSignManyLift
import Derived.Test.YtalcncfgfehkdaaSignMade
namespace Go.Proofs.Ytalcncfgfehkdaa
open Go.ChangeShapes Go.WideShapes Go.ChangeAt Go.RowKit

theorem smany_holds : Rows.SignManySaid :=
  OpenClaim.holds_of_wide 4 Try.f4 rfl rfl rfl rfl rfl rfl rfl ⟨rfl, rfl, rfl, rfl, rfl⟩ rfl rfl rfl rfl rfl (by kernel_rfl) Try.func4 (by kernel_rfl)
    (of_decide_eq_true (by kernel_rfl)) (by unfold Func.isWrapper; first | (rw [if_pos (by decide +kernel)]; kernel_rfl) | (rw [if_neg (by decide +kernel)]; exact ⟨rfl, rfl⟩))
    (fun os started H enc _ => smany_lifted signApi os started H enc)
#print axioms smany_holds
end Go.Proofs.Ytalcncfgfehkdaa
