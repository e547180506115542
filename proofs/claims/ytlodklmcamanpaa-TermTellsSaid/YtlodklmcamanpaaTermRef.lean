/- The document's own arena: a row has the number of its place. Conditions: the bytes lie in memory and are fewer than 2^30. -/
import Derived.Test.YtlodklmcamanpaaTermAwake
import Derived.Test.YtlodklmcamanpaaBox
import Derived.LoopTactic
import Derived.RegionTactic
import Derived.Deep.RegionLaw
import Derived.WalkSmall
namespace Go.Proofs.Ytlodklmcamanpaa
open Go.RowKit Go.WideShapes

/-- The cells of a row of strings. -/
def cellsS (L : List (List UInt8)) : List Value := L.map fun t => .string ⟨t.toArray⟩
theorem cellsS_length (L : List (List UInt8)) : (cellsS L).length = L.length := by simp [cellsS]
theorem cellsS_at {L : List (List UInt8)} {j : Nat} (h : j < L.length) : (cellsS L)[j]'(by rw [cellsS_length]; exact h) = .string ⟨L[j].toArray⟩ := by simp [cellsS]
/-- v points to the document's arena that has the rows L. -/
def IsRef (v : Value) (L : List (List UInt8)) : HP := Box1 38 9 v (cellsS L)
instance ref_stable (v : Value) (L : List (List UInt8)) : Stable (IsRef v L) := Box1.stable _ _ _ _
theorem str_info : (Try.prog.info? 9).map (fun i => (i.zero, i.size, i.bytes)) = some (some (.string ByteArray.empty), 1, 16) := by kernel_rfl

theorem str_eq {s t : List UInt8} {x y : ByteArray} (hx : x = ⟨s.toArray⟩) (hy : y = ⟨t.toArray⟩) : (x.toList == y.toList) = decide (s = t) := by
  subst hx; subst hy
  rw [ByteArray.toList_eq, ByteArray.toList_eq, Bool.eq_iff_iff]
  simp
theorem ref_found {L : List (List UInt8)} {t : List UInt8} {i : Nat} (hi : i < L.length) (hno : ∀ j (h : j < L.length), j < i → L[j] ≠ t) (he : L[i] = t) : digOf L t = (i : Int) + 1 ∧ digAdd L t = L := by
  have hmem : t ∈ L := by rw [← he]; exact List.getElem_mem hi
  refine ⟨?_, digAdd_old hmem⟩
  have hn : t ∉ L.take i := by
    intro h
    obtain ⟨j, hj, e⟩ := List.getElem_of_mem h
    rw [List.length_take] at hj
    rw [List.getElem_take] at e
    exact hno j (by omega) (by omega) e
  have h2 : L.idxOf t = i := by
    conv => lhs; rw [← List.take_append_drop i L]
    rw [List.idxOf_append, if_neg hn, List.drop_eq_getElem_cons hi, he, List.idxOf_cons_self, List.length_take]
    omega
  rw [digOf, h2]
theorem Chg.of_drewN {F : Nat → Prop} {a b : World} (h : Chg F a b) (q : Nat) : Chg F a (b.drewN q) := ⟨h.os, h.tape, h.output, h.size, h.block⟩
theorem ref_none {L : List (List UInt8)} {t : List UInt8} (hno : ∀ j (h : j < L.length), L[j] ≠ t) : t ∉ L := by
  intro h
  obtain ⟨j, hj, e⟩ := List.getElem_of_mem h
  exact hno j hj e

set_option maxRecDepth 100000 in
set_option maxHeartbeats 4000000 in
theorem rdigest_any {w : World} {v : Value} {L : List (List UInt8)} {F : Nat → Prop} (A : Option Addr) (n cap : Nat) (t : List UInt8) (h : IsRef v L w F) (hL : L.length ≤ 1000000) (ht : t.length = n) (hn : n ≤ 1073741824) (hnc : n ≤ cap) (hA : A = none → cap = 0) (hl : Lie8 w (fun _ => False) A t) :
    Calls Try.prog 12 #[v, .slice A n cap] w fun e w' => e = .returned (.int .i64 (digOf L t)) ∧ Turns F w w' (IsRef v (digAdd L t)) := by
  obtain ⟨i0, hi, hz0, hz1, hz2⟩ := info_parts str_info
  obtain ⟨b, s, rfl, hb, ho, hne, hF⟩ := h
  obtain ⟨x, hx⟩ : ∃ x : ByteArray, x = ⟨t.toArray⟩ := ⟨_, rfl⟩
  have cv : ∀ q : Nat, (convert 26 9 (.slice A n cap)).run Try.prog (w.drewN q) = .ok (.string x) (w.drewN q) := fun q => by
    rw [hx]; exact conv8 Try.underlying26 Try.underlying5 Try.underlying9 ht (fun h => by have := hA h; omega) (hl.below (below_drewN (Below.refl _ _) q))
  obtain ⟨As, cs, rfl⟩ := row_form ho
  rw [cellsS_length] at ho hb hne hF
  have c0 := cell_of_one hb
  have f0 := free_of_one hb
  have hlt := lt_of_block hb
  have HB := Lib.hid hb; have HO := Lib.hid ho; have HNE := Lib.hid hne; have HF := Lib.hid hF; have HX := Lib.hid hx; have HCV := Lib.hid cv
  clear hb ho hne hF hx cv hl
  obtain ⟨nl, hnl⟩ : ∃ k, L.length = k := ⟨_, rfl⟩
  rw [hnl] at hL c0
  have HNL := Lib.hid hnl
  clear hnl
  go_enter Try.func12, Try.ntmps12
  go_wp2_with fail
  go_loopw [5] (fun i wr => ∃ k q : Nat, k ≤ nl ∧ i = .int .i64 k ∧ wr = w.drewN q ∧ ∀ j (h : j < L.length), j < k → L[j] ≠ t) (fun i _ => nl - (intOf i).toNat)
  case atStart => exact ⟨0, 0, by omega, rfl, rfl, fun j h hj => by omega⟩
  case round =>
    obtain ⟨k, q, hk, rfl, rfl, hno⟩ := hrel
    have HNO := Lib.hid hno
    clear hno
    by_cases hk' : k < nl
    · have hkL : k < L.length := by rw [HNL.out]; exact hk'
      obtain ⟨g, cg, e, hcell⟩ := row_cell HO.out (j := k) (by rw [cellsS_length]; exact hkL)
      injection e with e1 _ e2
      subst e1; subst e2
      rw [cellsS_at hkL] at hcell
      have hq := HCV.out q
      obtain ⟨y, hy⟩ : ∃ y : ByteArray, y = ⟨L[k].toArray⟩ := ⟨_, rfl⟩
      rw [← hy] at hcell
      obtain ⟨eqb, heq⟩ : ∃ q, decide (L[k] = t) = q := ⟨_, rfl⟩
      have hse := str_eq hy HX.out
      rw [heq] at hse
      have HEQ := Lib.hid heq
      clear heq hy
      have hcq := fun m => HCV.out (q + m)
      go_wp2_with fail
      go_quiet (fail)
      clear hq hcq hse
      rcases eqb with _ | _
      · have hno2 : ∀ j (h : j < L.length), j < k + 1 → L[j] ≠ t := fun j h hj => by
          by_cases e : j = k
          · subst e; simpa using HEQ.out
          · exact HNO.out j h (by omega)
        have HN2 := Lib.hid hno2
        clear hno2
        go_wp2_with fail
        go_roundw
        case rel => exact ⟨k + 1, _, hk', by go_num, rfl, HN2.out⟩
        case measure => simp [intOf]; omega
      · obtain ⟨r1, r2⟩ := ref_found hkL HNO.out (by simpa using HEQ.out)
        have R1 := Lib.hid r1; have R2 := Lib.hid r2
        clear r1 r2
        go_wp2_with fail
        go_ret
        exact ⟨by rw [R1.out]; rfl, F, by rw [R2.out]; exact ⟨b, _, rfl, HB.out, by rw [cellsS_length]; exact HO.out, HNE.out, HF.out⟩, (Chg.refl _ _).of_drewN _, fun k hk => Or.inl hk⟩
    · obtain rfl : k = nl := by omega
      obtain ⟨r1, r2⟩ : digOf L t = (k : Int) + 1 ∧ digAdd L t = L ++ [t] := by
        have hmem := ref_none (L := L) (t := t) (fun j h => HNO.out j h (by rw [← HNL.out]; exact h))
        exact ⟨by rw [digOf_new hmem, HNL.out], digAdd_new hmem⟩
      have R1 := Lib.hid r1; have R2 := Lib.hid r2
      clear r1 r2
      have hq0 : (convert 26 9 (.slice A n cap)).run Try.prog (w.drewN q).drew = .ok (.string x) (w.drewN q).drew := HCV.out (q + 1)
      have HC0 : Hid (Chg F w (w.drewN q)) := Lib.hid ((Chg.refl _ _).of_drewN _)
      have HBq : Hid ((w.drewN q).heap[b]? = some (.cells #[.slice As k cs] 38 (0, 0))) := Lib.hid (HNL.out ▸ HB.out)
      have HOq : Hid ((w.drewN q).ownsRow 0 9 1 (.slice As k cs) k (cellsS L)) := Lib.hid (HNL.out ▸ HO.out)
      have HNq : Hid ((Value.slice As k cs).ownBlock ≠ some b) := Lib.hid (HNL.out ▸ HNE.out)
      have HFq : Hid (∀ j, F j ↔ (j = b ∨ (Value.slice As k cs).ownBlock = some j)) := Lib.hid (HNL.out ▸ HF.out)
      have cq : (w.drewN q).cell? ⟨b, 0, none⟩ = some (.slice As k cs) := cell_of_one HBq.out
      have fq : (w.drewN q).frozen? ⟨b, 0, none⟩ = false := free_of_one HBq.out
      have lq : b < (w.drewN q).heap.size := lt_of_block HBq.out
      have hsz : w.heap.size ≤ (w.drewN q).heap.size := HC0.out.size
      have HSZ := Lib.hid hsz
      clear c0 f0 hlt HB HO HNE HF HCV hsz
      generalize w.drewN q = wq at *
      have c1 : k + 1 ≤ maxLen := by unfold maxLen; omega
      have c2 : (k + 1) * 16 ≤ 140737488355328 := by omega
      go_wp2_with fail
      go_region_law ((refine step_append_here rfl (.tmp 31) (.tmp 34) 36 rfl 0 9 i0 (.string ByteArray.empty) 1 16 Try.underlying36 hi hz0 hz1 hz2 rfl (by decide) (.slice As k cs) k (cellsS L) rfl (World.ownsRow.alloc (w := wq.drew) HOq.out _) ⟨wq.heap.size, 0, none⟩ 1 1 [.string x] rfl rfl (new_cell wq.drew _ _) (by intro u hu; simp at hu; subst hu; rfl) c1 c2 (Nat.zero_le _) ?_; intro v' w1 hown hgr hfr; obtain ⟨g, cap', rfl⟩ := own_shape hown (Nat.succ_ne_zero _); have hb1 := grown_keeps (grown_ahead hgr) HBq.out HNq.out; have hc1 := cell_of_one hb1; have hf1 := free_of_one hb1; have HO := Lib.hid hown; have HG := Lib.hid hgr; have HR := Lib.hid hfr; have HB1 := Lib.hid hb1; clear hown hgr hfr hb1))
      all_goals
        go_wp2
        go_ret
        refine ⟨by rw [R1.out]; rfl, ?_⟩
        rw [R2.out]
        have hg := Box1.grown (more := [.string x]) HBq.out HNq.out rfl HFq.out (by rw [cellsS_length, HNL.out]; exact HO.out) (grown_ahead HG.out) (fun j hj => (HR.out j hj).imp id (fun h => by simp at h; omega))
        have e : cellsS (L ++ [t]) = cellsS L ++ [.string x] := by simp [cellsS, HX.out]
        rw [IsRef, e]
        exact Turns.after HC0.out hg
end Go.Proofs.Ytlodklmcamanpaa
