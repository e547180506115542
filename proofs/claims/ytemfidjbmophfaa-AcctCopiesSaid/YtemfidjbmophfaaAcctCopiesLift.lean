/- AcctCopies answers true for any amounts and any steps, and leaves them as they were. Conditions: acct's calls are as their contracts say. -/
import Derived.Test.YtemfidjbmophfaaAcctCopies
import Derived.Test.YtemfidjbmophfaaIntArg
namespace Go.Proofs.Ytemfidjbmophfaa
open Go.ChangeShapes Go.WideShapes Go.ChangeAt Go.RowKit

set_option maxRecDepth 100000 in
theorem acopies_lifted (T : AcctApi) (os : Os) (started : os.Started) (H : Type) (enc : TypeId × Value → H) :
    ReturnsInHanded {} Try.checked os 5 .any (Rows.acctCopiesSpec.pre6 enc Try.prog Try.f5 Rows.acctCopiesRow.domain false) (Rows.acctCopiesSpec.post enc Try.prog Try.f5 false true false false) := by
  refine law_lifted (tb := 4) (by kernel_rfl) started (by kernel_rfl) Try.func5
    (ChangeSpec.witness6 (enc := enc) (C := Try.checked) false ⟨#[], #[.slice none 0 0, .slice none 0 0], []⟩ 8 (by kernel_rfl) (by kernel_rfl) (by kernel_rfl) (by kernel_rfl))
    (by kernel_rfl) (by kernel_rfl) (by kernel_rfl) Try.underlying4 rfl (fun ds h => ?_) (fun W base args ds before hval hA hlt => ?_)
  · rcases ds with _ | ⟨d1, _ | ⟨d2, _ | ⟨d3, r⟩⟩⟩ <;> first | rfl | (exfalso; rw [Try.params5] at h; simp at h)
  · rw [Try.params5] at hA hval
    obtain ⟨v0, v1, d0, d1, p0, p1, rfl, rfl, rfl, h0, h1⟩ := trodAll_two hA
    obtain ⟨a0, len0, cap0, rfl⟩ := okWide_slice Try.underlying33 (hval 0 33 v0 rfl rfl)
    obtain ⟨a1, len1, cap1, rfl⟩ := okWide_slice Try.underlying34 (hval 1 34 v1 rfl rfl)
    obtain ⟨fuel0, hf0⟩ := h0
    obtain ⟨fuel1, hf1⟩ := h1
    obtain ⟨A0, cap0', hs, e0, hl0, hh⟩ := nums_view Try.underlying33 Try.underlying26 (by kernel_rfl) hf0
    obtain ⟨A1, cap1', ps, e1, hl1, hp⟩ := moves_view Try.underlying34 Try.underlying37 (by kernel_rfl) (by kernel_rfl) (by kernel_rfl) Try.underlying4 Try.underlying3 Try.underlying26 hf1
    rw [e0, e1]
    exact copies_some T A0 A1 cap0' cap1' hs ps W hl0 hh hl1 hp
end Go.Proofs.Ytemfidjbmophfaa
