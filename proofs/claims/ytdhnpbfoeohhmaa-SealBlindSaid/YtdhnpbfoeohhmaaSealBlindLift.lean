/- SealBlind answers true for any row of steps and any texts, and leaves them as they were. Conditions: seal's calls are as their contracts say. -/
import Derived.Test.YtdhnpbfoeohhmaaSealBlind
import Derived.Test.YtdhnpbfoeohhmaaStepsSized
namespace Go.Proofs.Ytdhnpbfoeohhmaa
open Go.ChangeShapes Go.WideShapes Go.ChangeAt Go.RowKit

set_option maxRecDepth 100000 in
theorem vblind_lifted (S : SealApi) (hlim : 140737488351232 ≤ S.lim) (os : Os) (started : os.Started) (H : Type) (enc : TypeId × Value → H) :
    ReturnsInHanded {} Try.checked os 7 .any (Rows.sealBlindSpec.pre6 enc Try.prog Try.f7 Rows.sealBlindRow.domain false) (Rows.sealBlindSpec.post enc Try.prog Try.f7 false true false false) := by
  refine law_sized (tb := 4) (by kernel_rfl) started (by kernel_rfl) Try.func7
    (ChangeSpec.witness6 (enc := enc) (C := Try.checked) false ⟨#[], #[.slice none 0 0, .slice none 0 0], []⟩ 8 (by kernel_rfl) (by kernel_rfl) (by kernel_rfl) (by kernel_rfl))
    (by kernel_rfl) (by kernel_rfl) (by kernel_rfl) Try.underlying4 rfl (fun ds h => ?_) (fun W base args ds before hval hA hlt hsz => ?_)
  · rcases ds with _ | ⟨d1, _ | ⟨d2, _ | ⟨d3, r⟩⟩⟩ <;> first | rfl | (exfalso; rw [Try.params7] at h; simp at h)
  · rw [Try.params7] at hA hval hsz
    obtain ⟨v0, v1, d0, d1, p0, p1, rfl, rfl, rfl, h0, h1⟩ := trodAll_two hA
    obtain ⟨a0, len0, cap0, rfl⟩ := okWide_slice Try.underlying39 (hval 0 39 v0 rfl rfl)
    obtain ⟨a1, len1, cap1, rfl⟩ := okWide_slice Try.underlying36 (hval 1 36 v1 rfl rfl)
    obtain ⟨fuel0, hf0⟩ := h0
    obtain ⟨fuel1, hf1⟩ := h1
    have f0 := Fits.arg hsz (j := 0) (t := 39) (d := d0) rfl rfl
    have f1 := Fits.arg hsz (j := 1) (t := 36) (d := d1) rfl rfl
    obtain ⟨A0, cap0', ps, e0, hl0, hp, hps⟩ := steps_sized (x := (d0, p0)) Try.underlying39 Try.underlying48 (by kernel_rfl) (by kernel_rfl) (by kernel_rfl) Try.underlying3 Try.underlying23 Try.underlying5 (by kernel_rfl) (by decide +kernel) f0 hf0
    obtain ⟨A1, cap1', rs, e1, hl1, hr, hrs⟩ := rows_sized (x := (d1, p1)) Try.underlying36 Try.underlying23 Try.underlying5 (by kernel_rfl) (by kernel_rfl) (by decide +kernel) f1 hf1
    rw [e0, e1]
    exact blind_some S hlim A0 A1 cap0' cap1' ps rs W hl0 hp hr hps hrs
end Go.Proofs.Ytdhnpbfoeohhmaa
