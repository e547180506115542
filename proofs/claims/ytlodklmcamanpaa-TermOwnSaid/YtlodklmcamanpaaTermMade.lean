/- The arena's calls keep their contracts: rows as strings, with a map from each to its number. Conditions: an arena that New made. -/
import Derived.Test.YtlodklmcamanpaaTermRef
import Derived.Test.YtlodklmcamanpaaMapI
import Derived.Test.YtlodklmcamanpaaBlk
import Derived.StillTailTactics
import Derived.Lib.AppendStr
import Derived.IntWalk
import Derived.Deep.QuietTactic
import Derived.BigQuiet
namespace Go.Proofs.Ytlodklmcamanpaa
open Go.RowKit Go.WideShapes

/-- What the map has of each row. -/
def numsOf (L : List (List UInt8)) : Lit → Option Int
  | .string l => if l ∈ L then some ((L.idxOf l : Int) + 1) else none
  | _ => none
def Arena (b : Nat) (s : Value) (mb : Nat) (f : Lit → Option Int) (L : List (List UInt8)) : HP :=
  star (Blk b #[s, .map (some mb)] 43) (star (RowW 9 s (cellsS L)) (MI 9 mb f L.length))
def IsArena (v : Value) (L : List (List UInt8)) : HP := fun w F =>
  ∃ b s mb f, (v = .pointer (some ⟨b, 0, none⟩) ∧ (∀ l : List UInt8, f (.string l) = numsOf L (.string l)) ∧ ∀ r ∈ L, r.length ≤ 1073741824) ∧ Arena b s mb f L w F
instance Arena.stable (b : Nat) (s : Value) (mb : Nat) (f : Lit → Option Int) (L : List (List UInt8)) : Stable (Arena b s mb f L) := by unfold Arena; infer_instance
instance IsArena.stable (v : Value) (L : List (List UInt8)) : Stable (IsArena v L) := by unfold IsArena; infer_instance

theorem ar_new (w : World) : Calls Try.prog 7 #[] w fun e w' => ∃ v F, e = .returned v ∧ IsArena v [] w' F ∧ (∀ k, F k → w.heap.size ≤ k) ∧ Below w.heap.size w w' := by
  have hmm := @run_makeMap Try.prog
  have h1 : St w (w.alloc (.map #[] 0)) (star (MI 9 w.heap.size (fun _ => none) 0) nothing) := (St.start w w (Below.refl _ _)).add ((Below.refl _ _).alloc (Nat.le_refl _) _) (MI.made w _) (fun k hk => by rw [hk]; exact Nat.le_refl _)
  have h2 : St w (w.alloc (.map #[] 0)) (star (RowW 9 (.slice none 0 0) []) (MI 9 w.heap.size (fun _ => none) 0)) := h1.one.add (Below.refl _ _) (RowW.none _ _) (fun _ h => h.elim)
  have h3 := h2.add (w' := (w.alloc (.map #[] 0)).alloc (.cells #[.slice none 0 0, .map (some w.heap.size)] 43)) ((Below.refl _ _).alloc (Nat.le_refl _) _) (Blk.made _ _ _) (fun k hk => by rw [hk]; exact Nat.le_refl _)
  have H3 := Lib.hid h3
  clear h1 h2 h3
  go_enter Try.func7, Try.ntmps7
  go_wp2
  go_ret
  obtain ⟨F, h, hc, hF⟩ := H3.out
  have e : (w.alloc (.map #[] 0)).heap.size = w.heap.size + 1 := by simp
  rw [e] at h
  refine ⟨_, F, rfl, ⟨_, .slice none 0 0, w.heap.size, fun _ => none, ⟨rfl, fun l => by simp [numsOf], by simp⟩, h⟩, fun k hk => (hF k hk).elim (fun h => h.elim) id, H3.out.below⟩

theorem ar_len {w : World} {v : Value} {L : List (List UInt8)} {F : Nat → Prop} (h : IsArena v L w F) : Calls Try.prog 9 #[v] w fun e w' => e = .returned (.int .i64 L.length) ∧ Below w.heap.size w w' := by
  obtain ⟨b, s, mb, f, ⟨rfl, _, _⟩, ha⟩ := h
  have h := Turns.begin ha
  obtain ⟨_, _, hc, _⟩ := h.blk
  obtain ⟨A, cap, rfl⟩ := row_form h.swap.row
  have c0 := hc 0 _ rfl
  rw [cellsS_length] at c0
  clear h hc
  go_enter Try.func9, Try.ntmps9
  go_wp2
  go_ret
  exact ⟨rfl, Below.refl _ _⟩

theorem numsOf_old {L : List (List UInt8)} {t : List UInt8} (h : t ∈ L) : numsOf L (.string t) = some (digOf L t) := by simp only [numsOf, if_pos h]; rfl
theorem numsOf_new {L : List (List UInt8)} {t : List UInt8} (h : t ∉ L) : numsOf L (.string t) = none := by simp only [numsOf, if_neg h]
theorem numsOf_add {L : List (List UInt8)} {t : List UInt8} (h : t ∉ L) (l : List UInt8) : numsOf (L ++ [t]) (.string l) = if l = t then some ((L.length : Int) + 1) else numsOf L (.string l) := by
  simp only [numsOf, List.mem_append, List.mem_singleton, List.idxOf_append]
  by_cases e : l = t
  · subst e
    rw [if_pos (Or.inr rfl), if_neg h, if_pos rfl]
    simp
  · rw [if_neg e]
    by_cases hm : l ∈ L
    · rw [if_pos (Or.inl hm), if_pos hm, if_pos hm]
    · rw [if_neg (by simp [hm, e]), if_neg hm]

set_option maxRecDepth 100000 in
set_option maxHeartbeats 4000000 in
theorem ar_digest {w : World} {v : Value} {L : List (List UInt8)} {F : Nat → Prop} (A : Option Addr) (n cap : Nat) (t : List UInt8) (h : IsArena v L w F) (hL : L.length ≤ 1000000) (ht : t.length = n) (hn : n ≤ 1073741824) (hnc : n ≤ cap) (hA : A = none → cap = 0) (hl : Lie8 w (fun _ => False) A t) :
    Calls Try.prog 8 #[v, .slice A n cap] w fun e w' => e = .returned (.int .i64 (digOf L t)) ∧ Turns F w w' (IsArena v (digAdd L t)) := by
  obtain ⟨i0, hi, hz0, hz1, hz2⟩ := info_parts str_info
  obtain ⟨b, s, mb, f, ⟨rfl, hf, hr⟩, ha⟩ := h
  have h0 := Turns.begin ha
  obtain ⟨hb, hlt, hc, hfz⟩ := h0.blk
  have c1 := hc 1 _ rfl
  have c0 := hc 0 _ rfl
  have f0 := hfz 0
  obtain ⟨x, hx⟩ : ∃ x : ByteArray, x = ⟨t.toArray⟩ := ⟨_, rfl⟩
  have cv : ∀ m, (convert 26 9 (.slice A n cap)).run Try.prog (w.drewN m) = .ok (.string x) (w.drewN m) := fun m => by
    rw [hx]; exact conv8 Try.underlying26 Try.underlying5 Try.underlying9 ht (fun h => by have := hA h; omega) (show Lie8 (w.drewN m) (fun _ => False) A t from hl)
  have hN : ∀ m, Turns F w (w.drewN m) (Arena b s mb f L) := fun m => h0.more (below_drewN (Below.refl _ _) m)
  have hkey : keyOf Try.prog 9 (.string x) = some (.string t) := by
    have := WideMaps.keyOf_string_mk (P := Try.prog) (k := 9) Try.underlying9 (s := x) (by rw [hx]; show t.toArray.size ≤ maxLen; rw [List.size_toArray]; unfold maxLen; omega)
    rw [this, hx]
  have hlk := fun m => (hN m).assoc'.comm.mi_lookok (tm := 41) (Maps.string_keyed Try.underlying9) Try.underlying41 hkey True.intro
  rw [hf t] at hlk
  have HN := Lib.hid hN; have HCV := Lib.hid cv
  have HH := Lib.hid h0; have HF := Lib.hid hf; have HR := Lib.hid hr; have HX := Lib.hid hx; have HA := Lib.hid ha; have HT := Lib.hid ht
  clear ha hc hfz h0 hl hA hr hf hx ht hb hN
  by_cases hm : t ∈ L
  · rw [numsOf_old hm] at hlk
    simp only [Option.getD_some, Option.isSome_some] at hlk
    rw [digAdd_old hm]
    generalize digOf L t = d at hlk ⊢
    clear hm hkey
    go_enter Try.func8, Try.ntmps8
    go_wp2
    go_quiet (fail)
    go_wp2
    go_ret
    exact ⟨rfl, (HN.out _).imp fun F' hp => ⟨b, s, mb, f, ⟨rfl, HF.out, HR.out⟩, hp⟩⟩
  · rw [numsOf_new hm] at hlk
    simp only [Option.getD_none, Option.isSome_none] at hlk
    have HM := Lib.hid hm
    rw [digAdd_new hm, digOf_new hm]
    clear hm
    go_enter Try.func8, Try.ntmps8
    go_wp2
    go_quiet (fail)
    have hcv := HCV.out nq
    have HH := Lib.hid (HN.out nq)
    clear hlk cv c0 c1 f0 HN HCV
    generalize w.drewN nq = wq at hcv HH ⊢
    obtain ⟨_, ltq, hcq, hfq⟩ := HH.out.blk
    have c1 := hcq 1 _ rfl
    have c0 := hcq 0 _ rfl
    have f0 := hfq 0
    clear hcq hfq
    have HRW : Hid (wq.ownsRow 0 9 1 s (cellsS L).length (cellsS L)) := Lib.hid HH.out.swap.row
    have hcl := cellsS_length L
    have g1 : (cellsS L).length + 1 ≤ maxLen := by unfold maxLen; omega
    have g2 : ((cellsS L).length + 1) * 16 ≤ 140737488355328 := by omega
    have HCL := Lib.hid hcl
    clear hcl
    obtain ⟨As, cs, rfl⟩ := row_form HRW.out
    go_wp2_with (at_builtin; refine wpList_append_here rfl (.tmp 26) (.tmp 28) 36 rfl 0 9 i0 (.string ByteArray.empty) 1 16 Try.underlying36 hi hz0 hz1 hz2 rfl (by decide) _ _ (cellsS L) rfl (HRW.out.alloc _) ⟨wq.heap.size, 0, none⟩ 1 1 [.string x] rfl rfl (new_cell wq _ _) (by intro u hu; simp at hu; subst hu; rfl) g1 g2 (Nat.zero_le _) ?_; intro v' w1 hown hgr hfr; have h1 := (HH.out.alloc _).swap.row_grow (more := [.string x]) rfl hown hgr hfr; obtain ⟨g, cap', rfl⟩ := own_shape hown (Nat.succ_ne_zero _); have H1 := Lib.hid h1.swap; obtain ⟨_, lt1, hc1, hf1⟩ := h1.swap.blk; have c01 := hc1 0 _ rfl; have c11 := hc1 1 _ rfl; have f01 := hf1 0; clear h1 hown hgr hfr hc1 hf1)
    have h2 := H1.out.blk_set 0 (.slice (some ⟨g, 0, none⟩) ((cellsS L).length + 1) cap')
    change Turns F w _ (star (Blk b #[.slice (some ⟨g, 0, none⟩) ((cellsS L).length + 1) cap', .map (some mb)] 43) _) at h2
    clear c01 c11 f01 H1 lt1
    generalize w1.setCell ⟨b, 0, none⟩ (.slice (some ⟨g, 0, none⟩) ((cellsS L).length + 1) cap') = w2 at h2 ⊢
    rw [HCL.out] at h2 ⊢
    obtain ⟨_, lt2, hc2, hf2⟩ := h2.blk
    have c02 := hc2 0 _ rfl
    have c12 := hc2 1 _ rfl
    obtain ⟨D, hown, hD⟩ := (h2.drew.assoc'.comm).mi
    have hwf := plainElem_int (H := Unit) Try.underlying3 (WalkArith.wf_i64 (n := (L.length : Int) + 1) (by omega))
    have H2 := Lib.hid h2
    clear h2 hc2 hf2
    go_still_tail 10, (by kernel_rfl)
    refine wpList_mapUpdate_own _ rfl (.tmp 35) (.tmp 36) (.tmp 41) 41 rfl 9 3 (Maps.string_keyed Try.underlying9) Try.underlying41 _ mb _ D rfl hown (by unfold maxLen; omega) _ _ _ rfl rfl hkey _ [] hwf ?_
    intro w3 hown3 hg3
    have h3 := (H2.out.drew.assoc'.comm).mi_put (k := .string t) hD True.intro hown3 hg3
    have h3' := h3.comm.assoc
    obtain ⟨_, lt3, hc3, _⟩ := h3'.blk
    have c03 := hc3 0 _ rfl
    have H3 := Lib.hid h3'
    clear h3 h3' hc3 hown hown3 hg3 hD c02 c12
    go_wp2
    go_ret
    refine ⟨rfl, ?_⟩
    have hfn : f (.string t) = none := by rw [HF.out, numsOf_new HM.out]
    have h4 := H3.out
    rw [hfn] at h4
    refine h4.imp fun F' hp => ⟨b, .slice (some ⟨g, 0, none⟩) (L.length + 1) cap', mb, upM f (.string t) ((L.length : Int) + 1), ⟨rfl, fun l => ?_, fun r hr => ?_⟩, ?_⟩
    · rw [numsOf_add HM.out]
      by_cases e : l = t
      · rw [if_pos e, e, upM_same f (show WideAt.IsKeyLit (.string t) from True.intro)]
      · rw [if_neg e, upM_other f _ (fun h => e (by injection h)), HF.out]
    · rcases List.mem_append.1 hr with h | h
      · exact HR.out r h
      · rw [List.mem_singleton] at h; rw [h, HT.out]; exact hn
    · have e1 : cellsS (L ++ [t]) = cellsS L ++ [.string x] := by simp [cellsS, HX.out]
      rw [Arena, e1]
      simpa using hp

set_option maxRecDepth 100000 in
set_option maxHeartbeats 4000000 in
theorem ar_of {w : World} {v : Value} {L : List (List UInt8)} {F : Nat → Prop} (d : Int) (h : IsArena v L w F) (hL : L.length ≤ 1000000) (hd0 : -9223372036854775808 ≤ d) (hd1 : d < 9223372036854775808) :
    Calls Try.prog 11 #[v, .int .i64 d] w fun e w' => ∃ x, e = .returned (.tuple #[x, .bool (ofOk L d)]) ∧ Turns F w w' (star (R8 x (ofRow L d)) (IsArena v L)) := by
  have hI := h
  obtain ⟨b, s, mb, f, ⟨rfl, _, hr⟩, ha⟩ := h
  have h := Turns.begin ha
  obtain ⟨_, _, hc, _⟩ := h.blk
  have hrow := h.swap.row
  obtain ⟨A, cap, rfl⟩ := row_form hrow
  have c0 := hc 0 _ rfl
  obtain ⟨nl, hnl⟩ : ∃ n, L.length = n := ⟨_, rfl⟩
  rw [cellsS_length, hnl] at c0
  have HI := Lib.hid hI; have HN := Lib.hid hnl; have HR := Lib.hid hr
  by_cases hd : 1 ≤ d ∧ d ≤ nl
  · obtain ⟨j, hj⟩ : ∃ j : Nat, (d - 1).toNat = j := ⟨_, rfl⟩
    have hjl : j < L.length := by omega
    obtain ⟨g, cap', e, hcell⟩ := row_cell hrow (j := j) (by rw [cellsS_length]; exact hjl)
    injection e with e1 _ e2
    subst e1; subst e2
    rw [cellsS_at hjl] at hcell
    have hok : ofOk L d = true := by simp only [ofOk, decide_eq_true_eq, hnl]; exact hd
    have hro : ofRow L d = L[j] := by
      rw [ofRow, if_pos (by omega), hj]
      simp [List.getD, List.getElem?_eq_getElem hjl]
    have hlr := hr L[j] (List.getElem_mem hjl)
    rw [hok, hro]
    obtain ⟨x, hx⟩ : ∃ x : ByteArray, x = ⟨L[j].toArray⟩ := ⟨_, rfl⟩
    rw [← hx] at hcell
    have b1 : decide (d < 1) = false := by simp; omega
    have b2 : decide ((nl : Int) < d) = false := by simp; omega
    have hd1' : 0 ≤ d - 1 := by omega
    have hd2' : d - 1 < nl := by omega
    have hd3' : d - 1 ≤ 9223372036854775807 := by omega
    have hw : IntKind.i64.wrap (d - 1) = d - 1 := IntWalk.i64_in _ (by omega)
    obtain ⟨i0, hi, hz0, hz1, hz2⟩ := info_parts u8_info
    have hxs : x.size = L[j].length := by rw [hx]; show L[j].toArray.size = _; rw [List.size_toArray]
    have HXS := Lib.hid hxs
    clear hxs
    have HX := Lib.hid hx; have HL := Lib.hid hlr
    clear h ha hc hrow hd hok hro hlr hx hnl hr hI hd0 hd1
    go_enter Try.func11, Try.ntmps11
    go_wp2_with (at_builtin; refine Lib.wpList_append_own_string w rfl (.const (.slice none 0 0)) (.tmp 24) 26 9 rfl w.heap.size 5 i0 Try.underlying26 Try.underlying9 hi hz0 hz1 hz2 (.slice none 0 0) 0 [] rfl (World.ownsRow_nil _ _ _ _) x rfl (by have := HXS.out; have := HL.out; unfold maxLen; omega) (by have := HXS.out; have := HL.out; omega) (by first | exact Nat.le_refl _ | simp) ?_; intro v' w' hown hgr _)
    go_ret2
    have e1 : (0 + x.size : Nat) = L[j].length := by rw [Nat.zero_add]; exact HXS.out
    have e2 : ([] ++ Lib.strCells x : List Value) = cells8 L[j] := by rw [HX.out]; rfl
    rw [e1, e2] at hown
    obtain ⟨F8, hr8, hF8⟩ := R8.of hown
    refine ⟨_, rfl, (Turns.begin HI.out).add ⟨hgr.os, hgr.tape, hgr.output, hgr.size, fun k hk => hgr.block k hk (fun h => by cases h)⟩ hr8 fun k hk => ?_⟩
    have hk2 := hF8 k hk
    rcases hown.2 with ⟨rfl, _⟩ | ⟨g2, _, _, rfl, hb2, _⟩
    · cases hk2
    · injection hk2 with hk2; rw [← hk2]; exact hb2
  · have hok : ofOk L d = false := by simp only [ofOk, decide_eq_false_iff_not, hnl]; exact hd
    have hro : ofRow L d = [] := by rw [ofRow, if_neg (by rw [hnl]; exact hd)]
    rw [hok, hro]
    have hend : Turns F w w (star (R8 (.slice none 0 0) []) (IsArena (.pointer (some ⟨b, 0, none⟩)) L)) := (Turns.begin hI).add (Below.refl _ _) (R8.nil w) (fun _ h => h.elim)
    have HE := Lib.hid hend
    clear hend h ha hc hrow hok hro hnl hr hI
    rcases Int.lt_or_le d 1 with hlt | hge
    · have b1 : decide (d < 1) = true := by simp; omega
      clear hd hd0 hd1 hlt
      go_enter Try.func11, Try.ntmps11
      go_wp2
      go_ret2
      exact ⟨_, rfl, HE.out⟩
    · have b1 : decide (d < 1) = false := by simp; omega
      have b2 : decide ((nl : Int) < d) = true := by simp; omega
      clear hd hd0 hd1 hge
      go_enter Try.func11, Try.ntmps11
      go_wp2
      go_ret2
      exact ⟨_, rfl, HE.out⟩

noncomputable def termApi : TermApi where
  IsA := IsArena
  stable := IsArena.stable
  ptr := fun ⟨_, _, _, _, ⟨h, _⟩, _⟩ => ⟨_, h⟩
  new := ar_new
  digest := fun A n cap t h hL ht hn hnc hA hl => ar_digest A n cap t h hL ht hn hnc hA hl
  of := fun d h hL h0 h1 => ar_of d h hL h0 h1
  len := fun h _ => ar_len h
end Go.Proofs.Ytlodklmcamanpaa
