/- TermOwn answers true for any row of parts, and leaves it as it was. No conditions. -/
import Derived.Test.YtlodklmcamanpaaTermOwnLift
import Derived.Test.YtlodklmcamanpaaTermMade
namespace Go.Proofs.Ytlodklmcamanpaa
open Go.ChangeShapes Go.WideShapes Go.ChangeAt Go.RowKit

theorem own_holds : Rows.TermOwnSaid :=
  OpenClaim.holds_of_wide 6 Try.f6 rfl rfl rfl rfl rfl rfl rfl ⟨rfl, rfl, rfl, rfl, rfl⟩ rfl rfl rfl rfl rfl (by kernel_rfl) Try.func6 (by kernel_rfl)
    (of_decide_eq_true (by kernel_rfl)) (by unfold Func.isWrapper; first | (rw [if_pos (by decide +kernel)]; kernel_rfl) | (rw [if_neg (by decide +kernel)]; exact ⟨rfl, rfl⟩))
    (fun os started H enc _ => own_lifted termApi os started H enc)
#print axioms own_holds
end Go.Proofs.Ytlodklmcamanpaa
