/- WireUnlike answers true for any two rows of rows of bytes and any two numbers, and leaves them as they were. No conditions. -/
import Derived.Test.YtcnnfmooigfeiaaWireUnlikeLift
import Derived.Test.YtcnnfmooigfeiaaWireMade
namespace Go.Proofs.Ytcnnfmooigfeiaa
open Go.ChangeShapes Go.WideShapes Go.ChangeAt Go.RowKit

theorem unlike_holds : Rows.WireUnlikeSaid :=
  OpenClaim.holds_of_wide 3 Try.f3 rfl rfl rfl rfl rfl rfl rfl ⟨rfl, rfl, rfl, rfl, rfl⟩ rfl rfl rfl rfl rfl (by kernel_rfl) Try.func3 (by kernel_rfl)
    (of_decide_eq_true (by kernel_rfl)) (by unfold Func.isWrapper; first | (rw [if_pos (by decide +kernel)]; kernel_rfl) | (rw [if_neg (by decide +kernel)]; exact ⟨rfl, rfl⟩))
    (fun os started H enc _ => unlike_lifted wireApi os started H enc)
#print axioms unlike_holds
end Go.Proofs.Ytcnnfmooigfeiaa
