/- TermLong answers true for any bytes, any number and any byte, and leaves them as they were. No conditions. -/
import Derived.Test.YtlodklmcamanpaaTermLongLift
import Derived.Test.YtlodklmcamanpaaTermMade
namespace Go.Proofs.Ytlodklmcamanpaa
open Go.ChangeShapes Go.WideShapes Go.ChangeAt Go.RowKit

theorem long_holds : Rows.TermLongSaid :=
  OpenClaim.holds_of_wide 4 Try.f4 rfl rfl rfl rfl rfl rfl rfl ⟨rfl, rfl, rfl, rfl, rfl⟩ rfl rfl rfl rfl rfl (by kernel_rfl) Try.func4 (by kernel_rfl)
    (of_decide_eq_true (by kernel_rfl)) (by unfold Func.isWrapper; first | (rw [if_pos (by decide +kernel)]; kernel_rfl) | (rw [if_neg (by decide +kernel)]; exact ⟨rfl, rfl⟩))
    (fun os started H enc _ => long_lifted termApi os started H enc)
#print axioms long_holds
end Go.Proofs.Ytlodklmcamanpaa
