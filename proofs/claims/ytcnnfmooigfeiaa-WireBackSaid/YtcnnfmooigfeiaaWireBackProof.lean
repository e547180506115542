/- WireBack answers true for any row of parts and any number, and leaves them as they were. No conditions. -/
import Derived.Test.YtcnnfmooigfeiaaWireBackLift
import Derived.Test.YtcnnfmooigfeiaaWireMade
namespace Go.Proofs.Ytcnnfmooigfeiaa
open Go.ChangeShapes Go.WideShapes Go.ChangeAt Go.RowKit

theorem back_holds : Rows.WireBackSaid :=
  OpenClaim.holds_of_wide 6 Try.f6 rfl rfl rfl rfl rfl rfl rfl ⟨rfl, rfl, rfl, rfl, rfl⟩ rfl rfl rfl rfl rfl (by kernel_rfl) Try.func6 (by kernel_rfl)
    (of_decide_eq_true (by kernel_rfl)) (by unfold Func.isWrapper; first | (rw [if_pos (by decide +kernel)]; kernel_rfl) | (rw [if_neg (by decide +kernel)]; exact ⟨rfl, rfl⟩))
    (fun os started H enc _ => back_lifted wireApi os started H enc)
#print axioms back_holds
end Go.Proofs.Ytcnnfmooigfeiaa
