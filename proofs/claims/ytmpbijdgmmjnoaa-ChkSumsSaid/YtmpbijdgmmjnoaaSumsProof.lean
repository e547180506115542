/- ChkSums answers true for any row of numbers and any two numbers, and leaves them as they were. No conditions. -/
import Derived.Test.YtmpbijdgmmjnoaaSums0
import Derived.Test.YtmpbijdgmmjnoaaLaw
namespace Go.Proofs.Ytmpbijdgmmjnoaa
open Go.ChangeShapes Go.WideShapes Go.ChangeAt Go.RowKit

/-- What is handed over of a uint64. -/
theorem word_of_wf {x : Int} (h : (Lit.int .u64 x).wf = true) : Word x := by
  simp [Lit.wf, IntKind.min, IntKind.max, IntKind.signed, IntKind.bits] at h
  exact ⟨by omega, by omega⟩

theorem sums_all (at_ m : Int) (hm : Word m) (A : Option Addr) (len cap : Nat) (W : World)
    (h : (A = none ∧ len = 0 ∧ cap = 0) ∨ ∃ (ad : Addr) (zs : List Int), A = some ad ∧ len ≤ cap ∧ cap ≤ maxLen ∧ zs.length = cap ∧ (∀ i, i < zs.length → W.cell? (ad.add i) = some (.int .u64 (zs.getD i 0))) ∧ (∀ z ∈ zs, (Lit.int .u64 z).wf = true)) :
    Calls Try.prog 4 #[.slice A len cap, .int .i64 at_, .int .u64 m] W fun e w' => e = .returned (.bool true) ∧ Below W.heap.size W w' := by
  rcases h with ⟨rfl, rfl, rfl⟩ | ⟨ad, zs, rfl, hl, hmax, hz, hc, hw⟩
  · exact sums_none at_ m hm none 0 (fun _ => rfl) W
  · by_cases h0 : len = 0
    · subst h0
      exact sums_none at_ m hm (some ad) cap (fun h => by cases h) W
    · by_cases hlen : len ≤ 60
      · obtain ⟨b, off, spot⟩ := ad
        have hspot : spot = none := by simpa [Addr.add] using World.cell?_spot (hc 0 (by omega))
        subst hspot
        refine sums_some at_ m hm b off len cap (zs.take len) (by rw [List.length_take]; omega) (fun x hx => word_of_wf (hw x (List.mem_of_mem_take hx))) (by omega) hlen hl W (fun j hj => ?_)
        have e := hc j (by omega)
        rw [add_plain] at e
        rw [e]
        simp [List.getD, hj]
      · exact sums_long at_ m (some ad) len cap (by omega) (by unfold maxLen at hmax; omega) W

set_option maxRecDepth 100000 in
theorem sums_lifted (os : Os) (started : os.Started) (H : Type) (enc : TypeId × Value → H) :
    ReturnsInHanded {} Try.checked os 4 .any (Rows.chkSumsSpec.pre6 enc Try.prog Try.f4 Rows.chkSumsRow.domain false) (Rows.chkSumsSpec.post enc Try.prog Try.f4 false true false false) := by
  refine law_lifted (tb := 4) (by kernel_rfl) started (by kernel_rfl) Try.func4
    (ChangeSpec.witness6 (enc := enc) (C := Try.checked) false ⟨#[], #[.slice none 0 0, .int .i64 0, .int .u64 0], []⟩ 8 (by kernel_rfl) (by kernel_rfl) (by kernel_rfl) (by kernel_rfl))
    (by kernel_rfl) (by kernel_rfl) (by kernel_rfl) Try.underlying4 rfl (fun ds h => ?_) (fun W base args ds before hval hA hlt => ?_)
  · rcases ds with _ | ⟨d1, _ | ⟨d2, _ | ⟨d3, _ | ⟨d4, r⟩⟩⟩⟩ <;> first | rfl | (exfalso; rw [Try.params4] at h; simp at h)
  · rw [Try.params4] at hA hval
    obtain ⟨v0, v1, v2, d0, d1, d2, p0, p1, p2, rfl, rfl, rfl, h0, h1, h2⟩ := trodAll_three hA
    obtain ⟨at_, rfl, rfl, rfl, w1⟩ := open_int Try.underlying3 (hval 1 3 v1 rfl rfl) h1
    obtain ⟨m, rfl, rfl, rfl, w2⟩ := open_int Try.underlying22 (hval 2 22 v2 rfl rfl) h2
    obtain ⟨a0, len, cap, rfl⟩ := okWide_slice Try.underlying29 (hval 0 29 v0 rfl rfl)
    obtain ⟨fuel, hf⟩ := h0
    refine sums_all at_ m (word_of_wf w2) a0 len cap W ?_
    rcases open_ints Try.underlying29 Try.underlying22 (by kernel_rfl) hf with ⟨hcs, hx⟩ | ⟨ad, len', cap', zs, hcs, _, hl, hm, hz, hx, hcell, hwz⟩
    · simp [Value.cells] at hcs
      exact Or.inl hcs
    · simp [Value.cells] at hcs
      obtain ⟨rfl, rfl, rfl⟩ := hcs
      exact Or.inr ⟨ad, zs, rfl, hl, hm, by simpa using hz, hcell, hwz⟩

theorem sums_holds : Rows.ChkSumsSaid :=
  OpenClaim.holds_of_wide 4 Try.f4 rfl rfl rfl rfl rfl rfl rfl ⟨rfl, rfl, rfl, rfl, rfl⟩ rfl rfl rfl rfl rfl (by kernel_rfl) Try.func4 (by kernel_rfl)
    (of_decide_eq_true (by kernel_rfl)) (by unfold Func.isWrapper; first | (rw [if_pos (by decide +kernel)]; kernel_rfl) | (rw [if_neg (by decide +kernel)]; exact ⟨rfl, rfl⟩))
    (fun os started H enc _ => sums_lifted os started H enc)
#print axioms sums_holds
end Go.Proofs.Ytmpbijdgmmjnoaa
