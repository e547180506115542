/- ChkTells answers true for any two numbers and any row of numbers, and leaves them as they were. No conditions. -/
import Derived.Test.YtmpbijdgmmjnoaaTells
import Derived.ProofKit
namespace Go.Proofs.Ytmpbijdgmmjnoaa
open Go.ChangeShapes Go.WideShapes Go.ChangeAt Go.RowKit

theorem Tells.own : ownKnob Try.prog.godebug = none := by kernel_rfl
theorem Tells.cells : Try.prog.cellsOf 22 = 1 := by kernel_rfl
/-- What is handed over of a uint64. -/
theorem word_of_wf {x : Int} (h : (Lit.int .u64 x).wf = true) : Word x := by
  simp [Lit.wf, IntKind.min, IntKind.max, IntKind.signed, IntKind.bits] at h
  exact ⟨by omega, by omega⟩

/-- A row that came in lies in memory. -/
theorem lies_of_cells {W : World} {a : Addr} {zs : List Int} {n : Nat} (hn : n ≤ zs.length) (hc : ∀ i, i < zs.length → W.cell? (a.add i) = some (.int .u64 (zs.getD i 0))) : Lies W (some a) (zs.take n) := by
  by_cases h0 : n = 0
  · subst h0; exact Or.inl (by simp)
  · obtain ⟨b, off, spot⟩ := a
    have hspot : spot = none := by simpa [Addr.add] using World.cell?_spot (hc 0 (by omega))
    subst hspot
    refine Or.inr ⟨b, off, rfl, fun j hj => ?_⟩
    rw [List.length_take] at hj
    have e := hc j (by omega)
    rw [add_plain] at e
    rw [e]
    simp [List.getD, show j < n by omega]

/-- What was there stays, where only new memory is made. -/
theorem cell_grown {W W' : World} (hg : Grown W W') {a : Addr} {u : Value} (h : W.cell? a = some u) : W'.cell? a = some u := by
  have hb := World.block_lt_of_cell? W a h
  have hs := World.cell?_spot h
  obtain ⟨b, off, spot⟩ := a
  simp only at hs
  subst hs
  exact (hg.1.cell hb (fun x => x)).trans h

set_option maxRecDepth 100000 in
theorem tells_lifted (os : Os) (started : os.Started) (H : Type) (enc : TypeId × Value → H) :
    ReturnsInHanded {} Try.checked os 6 .any (Rows.chkTellsSpec.pre6 enc Try.prog Try.f6 Rows.chkTellsRow.domain false) (Rows.chkTellsSpec.post enc Try.prog Try.f6 false true false false) := by
  refine returnsInHanded_of_change (C := Try.checked) Tells.own started (by kernel_rfl) Try.func6
    (ChangeSpec.witness6 (enc := enc) (C := Try.checked) false ⟨#[], #[.int .u64 0, .int .u64 0, .slice none 0 0], []⟩ 8 (by kernel_rfl) (by kernel_rfl) (by kernel_rfl) (by kernel_rfl)) ?_
  intro W base args ds gs before hval0 hW hcnd _
  have hval : ∀ (j : Nat) t v, Try.f6.params[j]? = some t → args[j]? = some v → Value.okWide Try.prog W .any base t v := hval0
  have hW' := hW
  obtain ⟨p, q, hA0, hV, rfl, hfz, hnd⟩ := hW
  have hA : DataW.TrodAll enc Try.prog W 0 (fun _ => true) true Try.f6.params.toList args.toList ds p := hA0
  rw [Try.params6] at hA hval
  obtain ⟨v0, v1, v2, d0, d1, d2, p0, p1, p2, rfl, rfl, rfl, h0, h1, h2⟩ := trodAll_three hA
  obtain ⟨rfl, rfl⟩ := trodVars_none hV
  obtain ⟨a, rfl, rfl, rfl, w0⟩ := open_int Try.underlying22 (hval 0 22 v0 rfl rfl) h0
  obtain ⟨b, rfl, rfl, rfl, w1⟩ := open_int Try.underlying22 (hval 1 22 v1 rfl rfl) h1
  obtain ⟨a0, len, cap, rfl⟩ := okWide_slice Try.underlying29 (hval 2 29 v2 rfl rfl)
  obtain ⟨fuel, hf⟩ := h2
  clear hA0 hval0
  simp only [List.append_nil, List.nil_append] at hW'
  rcases open_ints Try.underlying29 Try.underlying22 Tells.cells hf with ⟨hcs, hx⟩ | ⟨ad, len', cap', zs, hcs, _, hl, hm, hz, hx, hcell, hwz⟩
  · simp [Value.cells] at hcs
    obtain ⟨rfl, rfl, rfl⟩ := hcs
    simp only [Prod.mk.injEq] at hx
    obtain ⟨rfl, rfl⟩ := hx
    refine (tells_any a b (word_of_wf w0) (word_of_wf w1) none 0 0 [] rfl (by intro x hx; cases hx) (by omega) W (Or.inl rfl)).mono fun e W' ⟨he, hg⟩ => ?_
    subst he
    exact ⟨_, rfl, post_of_same (pa := []) (pv := []) hW' (fun _ _ _ => trodAll_mk1 (shut_bool Try.underlying4 _)) (fun sp _ => trodAll_mk3 (shut_int Try.underlying22 w0) (shut_int Try.underlying22 w1) (shut_slice_nil Try.underlying29)) (fun _ _ => rfl) rfl
      (hg.frame _) hg.2.1 (ok_one (by kernel_rfl) rfl (okWide_bool_mk Try.underlying4 _))⟩
  · simp [Value.cells] at hcs
    obtain ⟨rfl, rfl, rfl⟩ := hcs
    simp only [Prod.mk.injEq] at hx
    obtain ⟨rfl, rfl⟩ := hx
    simp only [if_true] at hz
    have again : ∀ (W' : World) (sp : Nat → Bool), Grown W W' → (∀ p ∈ MemPlace.row ad zs.length, sp p.block = true) → DataW.Trod enc Try.prog W' 0 sp true 29 (.slice (some ad) len cap) (.slice (lits .u64 (zs.take len)) (lits .u64 (zs.drop len))) (MemPlace.row ad zs.length) := by
      intro W' sp hg hsp
      have hc' : ∀ i, i < zs.length → W'.cell? (ad.add i) = some (.int .u64 (zs.getD i 0)) := fun i hi => cell_grown hg (hcell i hi)
      by_cases hz0 : zs.length = 0
      · have hc0 : cap = 0 := by omega
        have hl0 : len = 0 := by omega
        subst hc0; subst hl0
        have t0 := shut_ints (enc := enc) (w := W') (base := 0) (spare := sp) (held := true) (a := ad) (len := 0) (cap := 0) (zs := zs) 0 Try.underlying29 Try.underlying22 Tells.cells (Nat.zero_le _) (Nat.le_refl _) hm (by simp [hz0]) hc' hwz
        exact ⟨2, by simpa [Value.cells] using t0⟩
      · have hspb : sp ad.block = true := by
          have := hsp (.cell ad.block ad.off) (MemPlace.mem_row.2 ⟨0, by omega, by simp⟩)
          exact this
        have t0 := shut_ints (enc := enc) (w := W') (base := 0) (spare := sp) (held := true) (a := ad) (len := len) (cap := cap) (zs := zs) 0 Try.underlying29 Try.underlying22 Tells.cells (Nat.zero_le _) hl hm (by simp [hspb, hz]) hc' hwz
        exact ⟨2, by simpa [Value.cells] using t0⟩
    have fin : Calls Try.prog 6 #[.int .u64 a, .int .u64 b, .slice (some ad) len cap] W fun e w' => e = .returned (.bool true) ∧ Grown W w' := by
      by_cases hlen : len ≤ 100
      · exact tells_any a b (word_of_wf w0) (word_of_wf w1) (some ad) len cap (zs.take len) (by rw [List.length_take]; omega) (fun x hx => word_of_wf (hwz x (List.mem_of_mem_take hx))) hlen W (lies_of_cells (by omega) hcell)
      · exact tells_long a b (some ad) len cap (by omega) (by unfold maxLen at hm; omega) W
    refine fin.mono fun e W' ⟨he, hg⟩ => ?_
    subst he
    exact ⟨_, rfl, post_of_same (pa := MemPlace.row ad zs.length) (pv := []) hW' (fun _ _ _ => trodAll_mk1 (shut_bool Try.underlying4 _)) (fun sp hsp => trodAll_mk3 (shut_int Try.underlying22 w0) (shut_int Try.underlying22 w1) (again W' sp hg (by simpa using hsp))) (fun _ _ => rfl) (by simp)
      (hg.frame _) hg.2.1 (ok_one (by kernel_rfl) rfl (okWide_bool_mk Try.underlying4 _))⟩

theorem tells_holds : Rows.ChkTellsSaid :=
  OpenClaim.holds_of_wide 6 Try.f6 rfl rfl rfl rfl rfl rfl rfl ⟨rfl, rfl, rfl, rfl, rfl⟩ rfl rfl rfl rfl rfl (by kernel_rfl) Try.func6 (by kernel_rfl)
    (of_decide_eq_true (by kernel_rfl)) (by unfold Func.isWrapper; first | (rw [if_pos (by decide +kernel)]; kernel_rfl) | (rw [if_neg (by decide +kernel)]; exact ⟨rfl, rfl⟩))
    (fun os started H enc _ => tells_lifted os started H enc)
#print axioms tells_holds
end Go.Proofs.Ytmpbijdgmmjnoaa
