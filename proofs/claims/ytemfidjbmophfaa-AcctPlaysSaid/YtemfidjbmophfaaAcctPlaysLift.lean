/- AcctPlays answers true for any number of clients and any steps, and leaves them as they were. Conditions: acct's calls are as their contracts say. -/
import Derived.Test.YtemfidjbmophfaaAcctPlays
import Derived.Test.YtemfidjbmophfaaIntArg
namespace Go.Proofs.Ytemfidjbmophfaa
open Go.ChangeShapes Go.WideShapes Go.ChangeAt Go.RowKit

set_option maxRecDepth 100000 in
theorem aplays_lifted (T : AcctApi) (os : Os) (started : os.Started) (H : Type) (enc : TypeId × Value → H) :
    ReturnsInHanded {} Try.checked os 6 .any (Rows.acctPlaysSpec.pre6 enc Try.prog Try.f6 Rows.acctPlaysRow.domain false) (Rows.acctPlaysSpec.post enc Try.prog Try.f6 false true false false) := by
  refine law_lifted (tb := 4) (by kernel_rfl) started (by kernel_rfl) Try.func6
    (ChangeSpec.witness6 (enc := enc) (C := Try.checked) false ⟨#[], #[.int .i64 0, .slice none 0 0, .bool false, .int .i64 0], []⟩ 8 (by kernel_rfl) (by kernel_rfl) (by kernel_rfl) (by kernel_rfl))
    (by kernel_rfl) (by kernel_rfl) (by kernel_rfl) Try.underlying4 rfl (fun ds h => ?_) (fun W base args ds before hval hA hlt => ?_)
  · rcases ds with _ | ⟨q0, _ | ⟨q1, _ | ⟨q2, _ | ⟨q3, _ | ⟨q4, r⟩⟩⟩⟩⟩ <;> first | rfl | (exfalso; rw [Try.params6] at h; simp at h)
  · rw [Try.params6] at hA hval
    obtain ⟨v0, v1, v2, v3, d0, d1, d2, d3, p0, p1, p2, p3, rfl, rfl, rfl, h0, h1, h2, h3⟩ := trodAll_four hA
    obtain ⟨x0, rfl, _, _, w0⟩ := open_int Try.underlying3 (hval 0 3 v0 rfl rfl) h0
    obtain ⟨a1, n1, c1, rfl⟩ := okWide_slice Try.underlying34 (hval 1 34 v1 rfl rfl)
    obtain ⟨f1, g1⟩ := h1
    obtain ⟨A1, k1, x1, e1, l1, y1⟩ := moves_view Try.underlying34 Try.underlying37 (by kernel_rfl) (by kernel_rfl) (by kernel_rfl) Try.underlying4 Try.underlying3 Try.underlying26 g1
    obtain ⟨x2, rfl⟩ := okWide_bool Try.underlying4 (hval 2 4 v2 rfl rfl)
    obtain ⟨x3, rfl, _, _, w3⟩ := open_int Try.underlying3 (hval 3 3 v3 rfl rfl) h3
    rw [e1]
    exact aplays_some T x0 A1 k1 x1 x2 x3 W (i64_wf w0) l1 y1 (i64_wf w3)
end Go.Proofs.Ytemfidjbmophfaa
