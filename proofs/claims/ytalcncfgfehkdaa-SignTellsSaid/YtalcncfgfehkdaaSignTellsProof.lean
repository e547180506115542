/- SignTells answers true for any rows of numbers, and leaves them as they were. No conditions. -/
import Derived.Test.YtalcncfgfehkdaaSignTellsLift
import Derived.Test.YtalcncfgfehkdaaSignMade
namespace Go.Proofs.Ytalcncfgfehkdaa
open Go.ChangeShapes Go.WideShapes Go.ChangeAt Go.RowKit

theorem stells_holds : Rows.SignTellsSaid :=
  OpenClaim.holds_of_wide 5 Try.f5 rfl rfl rfl rfl rfl rfl rfl ⟨rfl, rfl, rfl, rfl, rfl⟩ rfl rfl rfl rfl rfl (by kernel_rfl) Try.func5 (by kernel_rfl)
    (of_decide_eq_true (by kernel_rfl)) (by unfold Func.isWrapper; first | (rw [if_pos (by decide +kernel)]; kernel_rfl) | (rw [if_neg (by decide +kernel)]; exact ⟨rfl, rfl⟩))
    (fun os started H enc _ => stells_lifted signApi os started H enc)
#print axioms stells_holds
end Go.Proofs.Ytalcncfgfehkdaa
