/- PrioPlays answers true for any row of steps, and leaves it as it was. Conditions: prio's calls are as their contracts say. -/
import Derived.Test.YtkbebllkjmccoaaPrioPlays
import Derived.Test.YtkbebllkjmccoaaFlat
import Derived.Test.YtkbebllkjmccoaaIntArg
import Derived.Test.YtkbebllkjmccoaaLaw
import Derived.Test.YtkbebllkjmccoaaView
namespace Go.Proofs.Ytkbebllkjmccoaa
open Go.ChangeShapes Go.WideShapes Go.ChangeAt Go.RowKit

set_option maxRecDepth 100000 in
theorem pplays_lifted (T : PrioApi) (os : Os) (started : os.Started) (H : Type) (enc : TypeId × Value → H) :
    ReturnsInHanded {} Try.checked os 6 .any (Rows.prioPlaysSpec.pre6 enc Try.prog Try.f6 Rows.prioPlaysRow.domain false) (Rows.prioPlaysSpec.post enc Try.prog Try.f6 false true false false) := by
  refine law_lifted (tb := 4) (by kernel_rfl) started (by kernel_rfl) Try.func6
    (ChangeSpec.witness6 (enc := enc) (C := Try.checked) false ⟨#[], #[.bool false, .slice none 0 0, .bool false], []⟩ 8 (by kernel_rfl) (by kernel_rfl) (by kernel_rfl) (by kernel_rfl))
    (by kernel_rfl) (by kernel_rfl) (by kernel_rfl) Try.underlying4 rfl (fun ds h => ?_) (fun W base args ds before hval hA hlt => ?_)
  · rcases ds with _ | ⟨q0, _ | ⟨q1, _ | ⟨q2, _ | ⟨q3, r⟩⟩⟩⟩ <;> first | rfl | (exfalso; rw [Try.params6] at h; simp at h)
  · rw [Try.params6] at hA hval
    obtain ⟨v0, v1, v2, d0, d1, d2, p0, p1, p2, rfl, rfl, rfl, h0, h1, h2⟩ := trodAll_three hA
    obtain ⟨x0, rfl⟩ := okWide_bool Try.underlying4 (hval 0 4 v0 rfl rfl)
    obtain ⟨a1, n1, c1, rfl⟩ := okWide_slice Try.underlying41 (hval 1 41 v1 rfl rfl)
    obtain ⟨f1, g1⟩ := h1
    obtain ⟨A1, k1, x1, e1, l1, y1⟩ := flat_view (ks := [.i, .i, .u, .u]) Try.underlying41 Try.underlying46 (by kernel_rfl) (by kernel_rfl) (by decide) (all2_mk Try.underlying3 (all2_mk Try.underlying3 (all2_mk Try.underlying26 (all2_mk Try.underlying26 (trivial))))) g1
    obtain ⟨x2, rfl⟩ := okWide_bool Try.underlying4 (hval 2 4 v2 rfl rfl)
    rw [e1]
    exact pplays_some T x0 A1 k1 x1 x2 W l1 y1
end Go.Proofs.Ytkbebllkjmccoaa
