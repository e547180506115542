/- PrioRemoves answers true for any arguments, and leaves them as they were. Conditions: prio's calls are as their contracts say. -/
import Derived.Test.YtkbebllkjmccoaaPrioRemoves
import Derived.Test.YtkbebllkjmccoaaIntArg
namespace Go.Proofs.Ytkbebllkjmccoaa
open Go.ChangeShapes Go.WideShapes Go.ChangeAt Go.RowKit

set_option maxRecDepth 100000 in
theorem premoves_lifted (T : PrioApi) (os : Os) (started : os.Started) (H : Type) (enc : TypeId × Value → H) :
    ReturnsInHanded {} Try.checked os 4 .any (Rows.prioRemovesSpec.pre6 enc Try.prog Try.f4 Rows.prioRemovesRow.domain false) (Rows.prioRemovesSpec.post enc Try.prog Try.f4 false true false false) := by
  refine law_lifted (tb := 4) (by kernel_rfl) started (by kernel_rfl) Try.func4
    (ChangeSpec.witness6 (enc := enc) (C := Try.checked) false ⟨#[], #[.bool false, .slice none 0 0, .int .i64 0, .int .u64 0], []⟩ 8 (by kernel_rfl) (by kernel_rfl) (by kernel_rfl) (by kernel_rfl))
    (by kernel_rfl) (by kernel_rfl) (by kernel_rfl) Try.underlying4 rfl (fun ds h => ?_) (fun W base args ds before hval hA hlt => ?_)
  · rcases ds with _ | ⟨q0, _ | ⟨q1, _ | ⟨q2, _ | ⟨q3, _ | ⟨q4, r⟩⟩⟩⟩⟩ <;> first | rfl | (exfalso; rw [Try.params4] at h; simp at h)
  · rw [Try.params4] at hA hval
    obtain ⟨v0, v1, v2, v3, d0, d1, d2, d3, p0, p1, p2, p3, rfl, rfl, rfl, h0, h1, h2, h3⟩ := trodAll_four hA
    obtain ⟨x0, rfl⟩ := okWide_bool Try.underlying4 (hval 0 4 v0 rfl rfl)
    obtain ⟨a1, n1, c1, rfl⟩ := okWide_slice Try.underlying22 (hval 1 22 v1 rfl rfl)
    obtain ⟨f1, g1⟩ := h1
    obtain ⟨A1, k1, x1, e1, l1, y1⟩ := numsAt_view Try.underlying22 Try.underlying26 (by kernel_rfl) g1
    obtain ⟨x2, rfl, _, _, w2⟩ := open_int Try.underlying3 (hval 2 3 v2 rfl rfl) h2
    obtain ⟨x3, rfl, _, _, w3⟩ := open_int Try.underlying26 (hval 3 26 v3 rfl rfl) h3
    rw [e1]
    exact premoves_some T x0 A1 k1 x1 x2 x3 W l1 y1 (i64_wf w2) (u64_wf w3)
end Go.Proofs.Ytkbebllkjmccoaa
