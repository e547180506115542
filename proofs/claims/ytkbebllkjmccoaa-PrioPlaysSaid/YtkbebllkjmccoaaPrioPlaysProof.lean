/- PrioPlays answers true for any arguments, and leaves them as they were. No conditions. -/
import Derived.Test.YtkbebllkjmccoaaPrioPlaysLift
import Derived.Test.YtkbebllkjmccoaaPrioMade
namespace Go.Proofs.Ytkbebllkjmccoaa
open Go.ChangeShapes Go.WideShapes Go.ChangeAt Go.RowKit

theorem pplays_holds : Rows.PrioPlaysSaid :=
  OpenClaim.holds_of_wide 6 Try.f6 rfl rfl rfl rfl rfl rfl rfl ⟨rfl, rfl, rfl, rfl, rfl⟩ rfl rfl rfl rfl rfl (by kernel_rfl) Try.func6 (by kernel_rfl)
    (of_decide_eq_true (by kernel_rfl)) (by unfold Func.isWrapper; first | (rw [if_pos (by decide +kernel)]; kernel_rfl) | (rw [if_neg (by decide +kernel)]; exact ⟨rfl, rfl⟩))
    (fun os started H enc _ => pplays_lifted prioApi os started H enc)
#print axioms pplays_holds
end Go.Proofs.Ytkbebllkjmccoaa
