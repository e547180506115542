/- AcctErrors answers true for any number, and leaves it as it was. Conditions: acct's calls are as their contracts say. -/
import Derived.Test.YtemfidjbmophfaaAcctErrors
import Derived.Test.YtemfidjbmophfaaIntArg
namespace Go.Proofs.Ytemfidjbmophfaa
open Go.ChangeShapes Go.WideShapes Go.ChangeAt Go.RowKit

set_option maxRecDepth 100000 in
theorem aerrors_lifted (T : AcctApi) (os : Os) (started : os.Started) (H : Type) (enc : TypeId × Value → H) :
    ReturnsInHanded {} Try.checked os 3 .any (Rows.acctErrorsSpec.pre6 enc Try.prog Try.f3 Rows.acctErrorsRow.domain false) (Rows.acctErrorsSpec.post enc Try.prog Try.f3 false true false false) := by
  refine law_lifted (tb := 4) (by kernel_rfl) started (by kernel_rfl) Try.func3
    (ChangeSpec.witness6 (enc := enc) (C := Try.checked) false ⟨#[], #[.int .i64 0], []⟩ 8 (by kernel_rfl) (by kernel_rfl) (by kernel_rfl) (by kernel_rfl))
    (by kernel_rfl) (by kernel_rfl) (by kernel_rfl) Try.underlying4 rfl (fun ds h => ?_) (fun W base args ds before hval hA hlt => ?_)
  · rcases ds with _ | ⟨d1, _ | ⟨d2, r⟩⟩ <;> first | rfl | (exfalso; rw [Try.params3] at h; simp at h)
  · rw [Try.params3] at hA hval
    obtain ⟨v0, d0, rfl, rfl, h0⟩ := trodAll_one hA
    obtain ⟨n, rfl, _, _, _⟩ := open_int Try.underlying3 (hval 0 3 v0 rfl rfl) h0
    exact errors_any T n W
end Go.Proofs.Ytemfidjbmophfaa
