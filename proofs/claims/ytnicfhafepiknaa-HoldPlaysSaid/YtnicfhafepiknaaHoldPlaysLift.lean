/- HoldPlays answers true for any number of clients and any steps, and leaves them as they were. Conditions: acct's and hold's calls are as their contracts say. -/
import Derived.Test.YtnicfhafepiknaaHoldPlays
import Derived.Test.YtnicfhafepiknaaIntArg
namespace Go.Proofs.Ytnicfhafepiknaa
open Go.ChangeShapes Go.WideShapes Go.ChangeAt Go.RowKit

set_option maxRecDepth 100000 in
theorem hplays_lifted {T0 : AcctApi} (T : HoldApi T0) (os : Os) (started : os.Started) (H : Type) (enc : TypeId × Value → H) :
    ReturnsInHanded {} Try.checked os 9 .any (Rows.holdPlaysSpec.pre6 enc Try.prog Try.f9 Rows.holdPlaysRow.domain false) (Rows.holdPlaysSpec.post enc Try.prog Try.f9 false true false false) := by
  refine law_lifted (tb := 4) (by kernel_rfl) started (by kernel_rfl) Try.func9
    (ChangeSpec.witness6 (enc := enc) (C := Try.checked) false ⟨#[], #[.int .i64 0, .slice none 0 0, .bool false], []⟩ 8 (by kernel_rfl) (by kernel_rfl) (by kernel_rfl) (by kernel_rfl))
    (by kernel_rfl) (by kernel_rfl) (by kernel_rfl) Try.underlying4 rfl (fun ds h => ?_) (fun W base args ds before hval hA hlt => ?_)
  · rcases ds with _ | ⟨q0, _ | ⟨q1, _ | ⟨q2, _ | ⟨q3, r⟩⟩⟩⟩ <;> first | rfl | (exfalso; rw [Try.params9] at h; simp at h)
  · rw [Try.params9] at hA hval
    obtain ⟨v0, v1, v2, d0, d1, d2, p0, p1, p2, rfl, rfl, rfl, h0, h1, h2⟩ := trodAll_three hA
    obtain ⟨x0, rfl, _, _, w0⟩ := open_int Try.underlying3 (hval 0 3 v0 rfl rfl) h0
    obtain ⟨a1, n1, c1, rfl⟩ := okWide_slice Try.underlying45 (hval 1 45 v1 rfl rfl)
    obtain ⟨f1, g1⟩ := h1
    obtain ⟨A1, k1, x1, e1, l1, y1⟩ := flat_view (ks := [.i, .i, .u]) Try.underlying45 Try.underlying49 (by kernel_rfl) (by kernel_rfl) (by decide) (all2_mk Try.underlying3 (all2_mk Try.underlying3 (all2_mk Try.underlying26 (trivial)))) g1
    obtain ⟨x2, rfl⟩ := okWide_bool Try.underlying4 (hval 2 4 v2 rfl rfl)
    rw [e1]
    exact hplays_some T x0 A1 k1 x1 x2 W (i64_wf w0) l1 y1
end Go.Proofs.Ytnicfhafepiknaa
