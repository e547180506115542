/- WireLong answers true for any row of parts, and leaves it as it was. No conditions. -/
import Derived.Test.YtcnnfmooigfeiaaWireLongLift
import Derived.Test.YtcnnfmooigfeiaaWireMade
namespace Go.Proofs.Ytcnnfmooigfeiaa
open Go.ChangeShapes Go.WideShapes Go.ChangeAt Go.RowKit

theorem long_holds : Rows.WireLongSaid :=
  OpenClaim.holds_of_wide 5 Try.f5 rfl rfl rfl rfl rfl rfl rfl ⟨rfl, rfl, rfl, rfl, rfl⟩ rfl rfl rfl rfl rfl (by kernel_rfl) Try.func5 (by kernel_rfl)
    (of_decide_eq_true (by kernel_rfl)) (by unfold Func.isWrapper; first | (rw [if_pos (by decide +kernel)]; kernel_rfl) | (rw [if_neg (by decide +kernel)]; exact ⟨rfl, rfl⟩))
    (fun os started H enc _ => long_lifted wireApi os started H enc)
#print axioms long_holds
end Go.Proofs.Ytcnnfmooigfeiaa
