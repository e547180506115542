/- The vault's calls keep their contracts: Share, Shared and Shares. Conditions: a vault that New made, with at most a million ciphers and a million shares. -/
import Derived.Test.YtdhnpbfoeohhmaaSealCalls
import Derived.Lib.AppendStr
namespace Go.Proofs.Ytdhnpbfoeohhmaa
open Go.RowKit Go.WideShapes

theorem OwnV.len {w : World} {tk te tm : TypeId} {b n : Nat} {f : Lit → Option Value} (h : OwnV w tk b f n) (ht : Try.prog.underlying tm = some (.map tk te)) (ty : TypeId) : (Builtin.len_ #[tm] ty #[.map (some b)]).run Try.prog w = .ok (.int .i64 n) w := by
  obtain ⟨D, hown, _, hn, _⟩ := h
  rw [hown.len ht ty, hn]
theorem eql_some (k : Nat) (w : World) : (binOp .eql 55 (.map (some k)) (.map none)).run Try.prog w = .ok (.bool false) w := by kernel_rfl
theorem eql_nil (w : World) : (binOp .eql 55 (.map none) (.map none)).run Try.prog w = .ok (.bool true) w := by kernel_rfl
theorem textM_free {w : World} {g n cap : Nat} {xs : List Value} (hs : w.ownsRow 0 57 3 (.slice (some ⟨g, 0, none⟩) n cap) n xs) (j : Nat) : w.frozen? ⟨g, j, none⟩ = false := by
  rcases hs.2 with ⟨h, _⟩ | ⟨g', cap', cur, h, _, hh, _⟩
  · cases h
  · injection h with h _ _
    injection h with h
    injection h with h
    subst h
    simp [World.frozen?, hh]
theorem isC_cip {M : List TextV} {c : Int} (h : isC (texts M) c = true) : ∃ j, j < M.length ∧ c = cip j := by
  rw [isC_texts] at h
  have h' := of_decide_eq_true h
  exact ⟨(c - 1).toNat, by omega, by unfold cip; omega⟩
theorem isC_yes {M : List TextV} {j : Nat} (h : j < M.length) : isC (texts M) (cip j) = true := by rw [isC_texts]; exact decide_eq_true ⟨by unfold cip; omega, by unfold cip; omega⟩

section
variable {w : World} {b : Nat} {n : Int} {s : Value} {M : List TextV} {L : List (Int × Int)} {F : Nat → Prop}
set_option maxRecDepth 100000 in
set_option maxHeartbeats 8000000 in
theorem vlt_share (who c : Int) (h : VltAt b n s M L w F) (hT : M.length ≤ 1000000) (hL : L.length ≤ 1000000) (hw : I64 who) :
    Calls Try.prog 14 #[.pointer (some ⟨b, 0, none⟩), .int .i64 who, .int .i64 c] w fun e w' => e = .returned (.bool (isC (texts M) c)) ∧ ∃ M', texts M' = texts M ∧ Turns F w w' (VltAt b n s M' (shareAdd (texts M) L who c)) := by
  have h0 := Turns.begin h
  obtain ⟨hb, c0, c1, f1, hs⟩ := VltAt.facts h0.pad
  obtain ⟨q, hq⟩ : ∃ q, isC (texts M) c = q := ⟨_, rfl⟩
  unfold shareAdd
  rcases q with _ | _
  · have K := Lib.hid (vat_no c c1 hs hq)
    have HE := Lib.hid h0
    rw [hq, if_neg (by decide)]
    clear h h0 hs c0 c1 f1 hq hw
    go_enter Try.func14, Try.ntmps14
    go_wp2_with fail
    refine K.out.mono ?_
    rintro e w2 ⟨rfl, rfl⟩
    go_wp2_with fail
    go_ret
    exact ⟨rfl, M, rfl, HE.out⟩
  · rw [hq, if_pos rfl]
    obtain ⟨j, hj, rfl⟩ := isC_cip hq
    obtain ⟨g, cap, rfl, hg, t0, t1, t2⟩ := textM_cells hs hj
    have K := Lib.hid (vat_yes j hT c1 hj)
    have hf := textM_free hs
    have hbk := blkOf_at hj
    obtain ⟨o, ho⟩ : ∃ o, M[j].2.2 = o := ⟨_, rfl⟩
    rw [ho] at t2 hbk
    rcases o with _ | kb
    · have heq := eql_nil w
      have hmm := @run_makeMap Try.prog
      have f2 : (w.alloc (.map #[] 0)).frozen? ⟨g, j * 3 + 2, none⟩ = false := textM_free (Turns.rowN (h0.swap.alloc (.map #[] 0))) _
      have t2' : (w.alloc (.map #[] 0)).cell? ⟨g, j * 3 + 2, none⟩ = some (.map none) := (((Below.refl w.heap.size w).alloc (Nat.le_refl _) (.map #[] 0)).cell (p := ⟨g, j * 3 + 2, none⟩) hg).trans t2
      have h1 := h0.add (w' := w.alloc (.map #[] 0)) ((Below.refl _ _).alloc (Nat.le_refl _) _) (MV.made w 3) (fun k hk => by rw [hk]; exact Nat.le_refl _)
      have h2 := h1.third.rowN_set (j * 3 + 2) (.map (some w.heap.size))
      rw [cellsM_set hj] at h2
      obtain ⟨M', hM'⟩ : ∃ M', M.set j (M[j].1, M[j].2.1, some w.heap.size) = M' := ⟨_, rfl⟩
      have hl : M'.length = M.length := by rw [← hM', List.length_set]
      have hj' : j < M'.length := by omega
      have hto : M'[j].2.2 = some w.heap.size := by subst hM'; simp
      have hbl : blkOf M' = setK (blkOf M) j w.heap.size := by rw [← hM', blkOf_set hj]
      have htx : texts M' = texts M := by rw [← hM', texts_set hj]
      rw [hM', ← hl] at h2
      obtain ⟨g', cap', e', _, k1, k2, t2''⟩ := textM_cells h2.rowN hj'
      injection e' with e1 k3 e2
      injection e1 with e1
      injection e1 with e1 k4 k5
      subst e1
      rw [hto] at t2''
      obtain ⟨w3, hrun3, hown3, hg3⟩ := (h2.swap.mv).put (val := .agg #[]) (te := 64) (tm := 55) (Maps.int_keyed Try.underlying3) Try.underlying55 (by unfold maxLen; omega) (key_int hw) trivial
      have h3 := h2.swap.mv_put hown3 hg3
      rw [World.setCell_alloc_past _ _ _ _ hg] at hrun3
      have h4 := (h3.imp fun _ => star_mono fun _ h => star_comm (star_assoc' h)).setv_new (who := who) hbk (fun x => by
        by_cases e : x = who
        · subst e
          rw [upV_same _ (show WideAt.IsKeyLit (.int .i64 x) from trivial), if_pos rfl]
        · rw [upV_other _ _ (fun h => e (by injection h)), if_neg e])
      rw [← hbl, hl] at h4
      have hend := (h4.comm.assoc).swap
      rw [← hl] at hend
      have HE := Lib.hid hend; have HX := Lib.hid htx; have HL := Lib.hid hl
      clear hend h4 h3 h2 h1 h h0 hs c0 c1 f1 hq hw hown3 hg3 hf hbk hto hbl hM' htx t0 t1 hT hL ho k1 k2 k3 k4 k5 e2 hl hj' hj
      go_enter Try.func14, Try.ntmps14
      go_wp2_with fail
      refine K.out.mono ?_
      rintro e w2 ⟨rfl, rfl⟩
      go_wp2_with fail
      go_ret
      have := HE.out
      exact ⟨rfl, M', HX.out, by rw [VltAt, HL.out]; rw [HL.out] at this; exact this⟩
    · have heq := eql_some kb w
      obtain ⟨w1, hrun, h1⟩ := h0.last.setv_put (who := who) hbk hL hw
      have HE := Lib.hid h1.last'
      clear h1 h h0 hs c0 c1 f1 hq hw hf hbk t0 t1 hT hL ho hj
      go_enter Try.func14, Try.ntmps14
      go_wp2_with fail
      refine K.out.mono ?_
      rintro e w2 ⟨rfl, rfl⟩
      go_wp2_with fail
      go_ret
      exact ⟨rfl, M, rfl, HE.out⟩

set_option maxRecDepth 100000 in
set_option maxHeartbeats 8000000 in
theorem vlt_shared (who c : Int) (h : VltAt b n s M L w F) (hT : M.length ≤ 1000000) (ho : OnlyC (texts M) L) (hw : I64 who) :
    Calls Try.prog 15 #[.pointer (some ⟨b, 0, none⟩), .int .i64 who, .int .i64 c] w fun e w' => e = .returned (.bool (decide ((who, c) ∈ L))) ∧ Below w.heap.size w w' := by
  have h0 := Turns.begin h
  obtain ⟨hb, c0, c1, f1, hs⟩ := VltAt.facts h0.pad
  obtain ⟨q, hq⟩ : ∃ q, isC (texts M) c = q := ⟨_, rfl⟩
  rcases q with _ | _
  · have K := Lib.hid (vat_no c c1 hs hq)
    have hno : decide ((who, c) ∈ L) = false := decide_eq_false fun h => by have := ho _ h; rw [hq] at this; cases this
    rw [hno]
    clear h h0 hs c0 c1 f1 hq hw ho hno
    go_enter Try.func15, Try.ntmps15
    go_wp2_with fail
    refine K.out.mono ?_
    rintro e w2 ⟨rfl, rfl⟩
    go_wp2_with fail
    go_ret
    exact ⟨rfl, Below.refl _ _⟩
  · obtain ⟨j, hj, rfl⟩ := isC_cip hq
    obtain ⟨g, cap, rfl, hg, t0, t1, t2⟩ := textM_cells hs hj
    have K := Lib.hid (vat_yes j hT c1 hj)
    have hbk := blkOf_at hj
    obtain ⟨o, hmo⟩ : ∃ o, M[j].2.2 = o := ⟨_, rfl⟩
    rw [hmo] at t2 hbk
    rcases o with _ | kb
    · have hno : decide ((who, cip j) ∈ L) = false := decide_eq_false (h0.last.setn hbk who)
      have hl := Maps.look_nil (P := Try.prog) (w := w) (t := 55) (e := 64) true (Maps.int_keyed Try.underlying3) Try.underlying55 (zero_unit w) (key_int hw)
      rw [if_pos rfl] at hl
      rw [hno]
      clear h h0 hs c0 c1 f1 hq hw ho hno hbk hmo t0 t1 hT hj
      go_enter Try.func15, Try.ntmps15
      go_wp2_with fail
      refine K.out.mono ?_
      rintro e w2 ⟨rfl, rfl⟩
      go_wp2_with fail
      go_ret
      exact ⟨rfl, (Below.refl _ _).alloc (Nat.le_refl _) _⟩
    · obtain ⟨f, hown, hf⟩ := h0.last.setv hbk
      have hl := hown.lookok (te := 64) (tm := 55) (Maps.int_keyed Try.underlying3) Try.underlying55 (zero_unit w) (key_int hw) trivial
      rw [hf who] at hl
      have e1 : (if (who, cip j) ∈ L then some (Value.agg #[]) else none).getD (.agg #[]) = .agg #[] := by split <;> rfl
      have e2 : (if (who, cip j) ∈ L then some (Value.agg #[]) else none).isSome = decide ((who, cip j) ∈ L) := by split <;> simp [*]
      rw [e1, e2] at hl
      generalize decide ((who, cip j) ∈ L) = r at hl ⊢
      clear h h0 hs c0 c1 f1 hq hw ho hbk hmo t0 t1 hT hj hown hf e1 e2
      go_enter Try.func15, Try.ntmps15
      go_wp2_with fail
      refine K.out.mono ?_
      rintro e w2 ⟨rfl, rfl⟩
      go_wp2_with fail
      go_ret
      exact ⟨rfl, (Below.refl _ _).alloc (Nat.le_refl _) _⟩

set_option maxRecDepth 100000 in
set_option maxHeartbeats 8000000 in
theorem vlt_shares (c : Int) (h : VltAt b n s M L w F) (hT : M.length ≤ 1000000) (hL : L.length ≤ 1000000) (ho : OnlyC (texts M) L) :
    Calls Try.prog 13 #[.pointer (some ⟨b, 0, none⟩), .int .i64 c] w fun e w' => ∃ x, e = .returned x ∧ Turns F w w' (star (RI x (allOf L c)) (VltAt b n s M L)) := by
  have h0 := Turns.begin h
  have HI := Lib.hid h0
  obtain ⟨hb, c0, c1, f1, hs⟩ := VltAt.facts h0.pad
  obtain ⟨q, hq⟩ : ∃ q, isC (texts M) c = q := ⟨_, rfl⟩
  have hfK : Fence.wide.fn 25 := trivial
  have hfS : Fence.wide.fn 24 := trivial
  have hfA : Fence.wide.fn 23 := trivial
  refine (callsIn_wide (n := 6)).1 ?_
  rcases q with _ | _
  · have K := Lib.hid ((callsIn_wide (n := 5)).2 (vat_no c c1 hs hq))
    rw [ho.none hq]
    clear h h0 hs c0 c1 f1 hq ho
    refine callsIn_of_wp Try.func13 rfl trivial ?_ rfl
    simp only [Try.ntmps13, List.size_toArray, List.length_cons, List.length_nil, Nat.reduceAdd, Nat.reduceSub, Array.replicate_succ, Array.replicate_zero, List.push_toArray, List.append_toArray, List.nil_append, List.cons_append]
    gi_wp2_with (gi_at_call 23; refine K.out.mono ?_; rintro e w' ⟨rfl, rfl⟩)
    go_ret
    exact ⟨_, rfl, HI.out.add (Below.refl _ _) (RV.nil _) (fun k hk => hk.elim)⟩
  · obtain ⟨j, hj, rfl⟩ := isC_cip hq
    obtain ⟨g, cap, rfl, hg, t0, t1, t2⟩ := textM_cells hs hj
    have K := Lib.hid ((callsIn_wide (n := 5)).2 (vat_yes j hT c1 hj))
    have hbk := blkOf_at hj
    obtain ⟨o, hmo⟩ : ∃ o, M[j].2.2 = o := ⟨_, rfl⟩
    rw [hmo] at t2 hbk
    rcases o with _ | kb
    · have hS := Lib.hid (sorted_nil_in w)
      have he : allOf L (cip j) = [] := allOf_is List.Pairwise.nil fun x => ⟨fun h => (by cases h), fun h => absurd h (h0.last.setn hbk x)⟩
      rw [he]
      clear h h0 hs c0 c1 f1 hq ho hbk hmo t0 t1 hT hj he
      refine callsIn_of_wp Try.func13 rfl trivial ?_ rfl
      simp only [Try.ntmps13, List.size_toArray, List.length_cons, List.length_nil, Nat.reduceAdd, Nat.reduceSub, Array.replicate_succ, Array.replicate_zero, List.push_toArray, List.append_toArray, List.nil_append, List.cons_append]
      gi_wp2_with (first
        | (gi_at_call 23; refine K.out.mono ?_; rintro e w' ⟨rfl, rfl⟩)
        | (gi_at_call 25; refine (keys_i _ _).mono ?_; rintro e w' ⟨rfl, rfl⟩)
        | (gi_at_call 24; refine hS.out.mono ?_; rintro e w' ⟨rfl, hb⟩))
      go_ret
      exact ⟨_, rfl, HI.out.add (((Below.refl _ _).alloc (Nat.le_refl _) _).trans (hb.mono (by simp))) (RV.nil _) (fun k hk => hk.elim)⟩
    · obtain ⟨f, hown, hf⟩ := h0.last.setv hbk
      have hal := allOf_le L (cip j)
      have hS := Lib.hid (sorted_own hown (by omega))
      have hmem : ∀ x, (f (.int .i64 x)).isSome = true ↔ (x, cip j) ∈ L := fun x => by
        rw [hf x]
        split <;> simp [*]
      have HM := Lib.hid hmem
      generalize cip j = c at HM K ⊢
      clear h h0 hs c0 c1 f1 hq ho hbk hmo t0 t1 hT hj hown hf hal hmem
      refine callsIn_of_wp Try.func13 rfl trivial ?_ rfl
      simp only [Try.ntmps13, List.size_toArray, List.length_cons, List.length_nil, Nat.reduceAdd, Nat.reduceSub, Array.replicate_succ, Array.replicate_zero, List.push_toArray, List.append_toArray, List.nil_append, List.cons_append]
      gi_wp2_with (first
        | (gi_at_call 23; refine K.out.mono ?_; rintro e w' ⟨rfl, rfl⟩)
        | (gi_at_call 25; refine (keys_i _ _).mono ?_; rintro e w' ⟨rfl, rfl⟩)
        | (gi_at_call 24; refine hS.out.mono ?_; rintro e w' ⟨v, l, rfl, hr, hx, hrow, hb⟩))
      go_ret
      have he : allOf L c = l := allOf_is hr fun x => (hx x).trans (HM.out x)
      rw [he]
      obtain ⟨G, hG, hlo⟩ := RV.of hrow
      exact ⟨_, rfl, HI.out.add (((Below.refl _ _).alloc (Nat.le_refl _) _).trans (hb.mono (by simp))) hG (fun k hk => Nat.le_trans (by simp) (hlo k hk))⟩
end
end Go.Proofs.Ytdhnpbfoeohhmaa
