/- PrioSorts answers true for any arguments, and leaves them as they were. No conditions. -/
import Derived.Test.YtkbebllkjmccoaaPrioSortsLift
import Derived.Test.YtkbebllkjmccoaaPrioMade
namespace Go.Proofs.Ytkbebllkjmccoaa
open Go.ChangeShapes Go.WideShapes Go.ChangeAt Go.RowKit

theorem psorts_holds : Rows.PrioSortsSaid :=
  OpenClaim.holds_of_wide 3 Try.f3 rfl rfl rfl rfl rfl rfl rfl ⟨rfl, rfl, rfl, rfl, rfl⟩ rfl rfl rfl rfl rfl (by kernel_rfl) Try.func3 (by kernel_rfl)
    (of_decide_eq_true (by kernel_rfl)) (by unfold Func.isWrapper; first | (rw [if_pos (by decide +kernel)]; kernel_rfl) | (rw [if_neg (by decide +kernel)]; exact ⟨rfl, rfl⟩))
    (fun os started H enc _ => psorts_lifted prioApi os started H enc)
#print axioms psorts_holds
end Go.Proofs.Ytkbebllkjmccoaa
