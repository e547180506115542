/- SignApart answers true for any row of numbers and any two numbers, and leaves them as they were. No conditions. -/
import Derived.Test.YtalcncfgfehkdaaSignApartLift
import Derived.Test.YtalcncfgfehkdaaSignMade
namespace Go.Proofs.Ytalcncfgfehkdaa
open Go.ChangeShapes Go.WideShapes Go.ChangeAt Go.RowKit

theorem sapart_holds : Rows.SignApartSaid :=
  OpenClaim.holds_of_wide 3 Try.f3 rfl rfl rfl rfl rfl rfl rfl ⟨rfl, rfl, rfl, rfl, rfl⟩ rfl rfl rfl rfl rfl (by kernel_rfl) Try.func3 (by kernel_rfl)
    (of_decide_eq_true (by kernel_rfl)) (by unfold Func.isWrapper; first | (rw [if_pos (by decide +kernel)]; kernel_rfl) | (rw [if_neg (by decide +kernel)]; exact ⟨rfl, rfl⟩))
    (fun os started H enc _ => sapart_lifted signApi os started H enc)
#print axioms sapart_holds
end Go.Proofs.Ytalcncfgfehkdaa
