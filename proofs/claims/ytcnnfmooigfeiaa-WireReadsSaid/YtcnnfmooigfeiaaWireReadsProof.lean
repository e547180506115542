/- WireReads answers true for any bytes and any row of kinds, and leaves them as they were. No conditions. -/
import Derived.Test.YtcnnfmooigfeiaaWireReadsLift
import Derived.Test.YtcnnfmooigfeiaaWireMade
namespace Go.Proofs.Ytcnnfmooigfeiaa
open Go.ChangeShapes Go.WideShapes Go.ChangeAt Go.RowKit

theorem reads_holds : Rows.WireReadsSaid :=
  OpenClaim.holds_of_wide 7 Try.f7 rfl rfl rfl rfl rfl rfl rfl ⟨rfl, rfl, rfl, rfl, rfl⟩ rfl rfl rfl rfl rfl (by kernel_rfl) Try.func7 (by kernel_rfl)
    (of_decide_eq_true (by kernel_rfl)) (by unfold Func.isWrapper; first | (rw [if_pos (by decide +kernel)]; kernel_rfl) | (rw [if_neg (by decide +kernel)]; exact ⟨rfl, rfl⟩))
    (fun os started H enc _ => reads_lifted wireApi os started H enc)
#print axioms reads_holds
end Go.Proofs.Ytcnnfmooigfeiaa
