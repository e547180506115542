/- PrioOwn answers true for any arguments, and leaves them as they were. Conditions: prio's calls are as their contracts say. -/
import Derived.Test.YtkbebllkjmccoaaPrioOwn
import Derived.Test.YtkbebllkjmccoaaIntArg
namespace Go.Proofs.Ytkbebllkjmccoaa
open Go.ChangeShapes Go.WideShapes Go.ChangeAt Go.RowKit

set_option maxRecDepth 100000 in
theorem pown_lifted (T : PrioApi) (os : Os) (started : os.Started) (H : Type) (enc : TypeId × Value → H) :
    ReturnsInHanded {} Try.checked os 5 .any (Rows.prioOwnSpec.pre6 enc Try.prog Try.f5 Rows.prioOwnRow.domain false) (Rows.prioOwnSpec.post enc Try.prog Try.f5 false true false false) := by
  refine law_lifted (tb := 4) (by kernel_rfl) started (by kernel_rfl) Try.func5
    (ChangeSpec.witness6 (enc := enc) (C := Try.checked) false ⟨#[], #[.bool false, .slice none 0 0, .int .u64 0], []⟩ 8 (by kernel_rfl) (by kernel_rfl) (by kernel_rfl) (by kernel_rfl))
    (by kernel_rfl) (by kernel_rfl) (by kernel_rfl) Try.underlying4 rfl (fun ds h => ?_) (fun W base args ds before hval hA hlt => ?_)
  · rcases ds with _ | ⟨q0, _ | ⟨q1, _ | ⟨q2, _ | ⟨q3, r⟩⟩⟩⟩ <;> first | rfl | (exfalso; rw [Try.params5] at h; simp at h)
  · rw [Try.params5] at hA hval
    obtain ⟨v0, v1, v2, d0, d1, d2, p0, p1, p2, rfl, rfl, rfl, h0, h1, h2⟩ := trodAll_three hA
    obtain ⟨x0, rfl⟩ := okWide_bool Try.underlying4 (hval 0 4 v0 rfl rfl)
    obtain ⟨a1, n1, c1, rfl⟩ := okWide_slice Try.underlying22 (hval 1 22 v1 rfl rfl)
    obtain ⟨f1, g1⟩ := h1
    obtain ⟨A1, k1, x1, e1, l1, y1⟩ := numsAt_view Try.underlying22 Try.underlying26 (by kernel_rfl) g1
    obtain ⟨x2, rfl, _, _, w2⟩ := open_int Try.underlying26 (hval 2 26 v2 rfl rfl) h2
    rw [e1]
    exact pown_some T x0 A1 k1 x1 x2 W l1 y1 (u64_wf w2)
end Go.Proofs.Ytkbebllkjmccoaa
