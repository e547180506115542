/- The book's calls keep their contracts: a map from each digest to the set of those who signed it. Conditions: a book that New made. -/
import Derived.Test.YtalcncfgfehkdaaSignSets
import Derived.Test.YtalcncfgfehkdaaIter
import Derived.StillTailTactics
namespace Go.Proofs.Ytalcncfgfehkdaa
open Go.RowKit Go.WideShapes

def Bk (b mb : Nat) (f : Lit → Option Value) (n : Nat) (κ : Int → Nat) (L : List (Int × Int)) : HP :=
  star (Blk b #[.map (some mb)] 40) (star (MV 3 mb f n) (Sets κ L))
def IsBook (v : Value) (L : List (Int × Int)) : HP := fun w F =>
  ∃ b mb f n κ, (v = .pointer (some ⟨b, 0, none⟩) ∧ n ≤ L.length ∧ ∀ d, f (.int .i64 d) = if d ∈ digs L then some (.map (some (κ d))) else none) ∧ Bk b mb f n κ L w F
instance Bk.stable (b mb : Nat) (f : Lit → Option Value) (n : Nat) (κ : Int → Nat) (L : List (Int × Int)) : Stable (Bk b mb f n κ L) := by unfold Bk; infer_instance
instance IsBook.stable (v : Value) (L : List (Int × Int)) : Stable (IsBook v L) := by unfold IsBook; infer_instance

theorem bk_new (w : World) : Calls Try.prog 6 #[] w fun e w' => ∃ v F, e = .returned v ∧ IsBook v [] w' F ∧ (∀ k, F k → w.heap.size ≤ k) ∧ Below w.heap.size w w' := by
  have hmm := @run_makeMap Try.prog
  have h0 : St w w (Sets (fun _ => 0) []) := ⟨fun _ => False, Sets.none w _, Chg.refl _ _, fun _ h => h.elim⟩
  have h1 : St w (w.alloc (.map #[] 0)) (star (MV 3 w.heap.size (fun _ => none) 0) (Sets (fun _ => 0) [])) := h0.add ((Below.refl _ _).alloc (Nat.le_refl _) _) (MV.made w _) (fun k hk => by rw [hk]; exact Nat.le_refl _)
  have h3 := h1.add (w' := (w.alloc (.map #[] 0)).alloc (.cells #[.map (some w.heap.size)] 40)) ((Below.refl _ _).alloc (Nat.le_refl _) _) (Blk.made _ _ _) (fun k hk => by rw [hk]; exact Nat.le_refl _)
  have H3 := Lib.hid h3
  clear h0 h1 h3
  go_enter Try.func6, Try.ntmps6
  go_wp2
  go_ret
  obtain ⟨F, h, hc, hF⟩ := H3.out
  have e : (w.alloc (.map #[] 0)).heap.size = w.heap.size + 1 := by simp
  rw [e] at h
  refine ⟨_, F, rfl, ⟨_, w.heap.size, fun _ => none, 0, fun _ => 0, ⟨rfl, Nat.le_refl _, fun d => by simp [digs]⟩, h⟩, fun k hk => (hF k hk).elim (fun h => h.elim) id, H3.out.below⟩

set_option maxRecDepth 100000 in
set_option maxHeartbeats 4000000 in
theorem bk_has {w : World} {v : Value} {L : List (Int × Int)} {F : Nat → Prop} (who d : Int) (h : IsBook v L w F) (hw : I64 who) (hd : I64 d) :
    Calls Try.prog 8 #[v, .int .i64 who, .int .i64 d] w fun e w' => e = .returned (.bool (decide ((who, d) ∈ L))) ∧ Below w.heap.size w w' := by
  obtain ⟨b, mb, f, n, κ, ⟨rfl, hn, hf⟩, ha⟩ := h
  have h0 := Turns.begin ha
  obtain ⟨_, hlt, hc, _⟩ := h0.blk
  have c0 := hc 0 (.map (some mb)) rfl
  have hl := (h0.swap.mv).look (te := 41) (tm := 38) (Maps.int_keyed Try.underlying3) Try.underlying38 (zero_set w) (key_int hd) trivial
  rw [hf d] at hl
  by_cases hm : d ∈ digs L
  · rw [if_pos hm, Option.getD_some] at hl
    obtain ⟨g, m, hog, _, hg⟩ := h0.last.set_of hm
    have hs := hog.lookok (te := 42) (tm := 41) (Maps.int_keyed Try.underlying3) Try.underlying41 (zero_unit w) (key_int hw) trivial
    rw [hg who] at hs
    have e1 : (if (who, d) ∈ L then some (Value.agg #[]) else none).getD (.agg #[]) = .agg #[] := by split <;> rfl
    have e2 : (if (who, d) ∈ L then some (Value.agg #[]) else none).isSome = decide ((who, d) ∈ L) := by split <;> simp [*]
    rw [e1, e2] at hs
    generalize decide ((who, d) ∈ L) = r at hs ⊢
    generalize κ d = kd at hl hs
    clear e1 e2 hg hog hm hf hn ha h0 hc hw hd
    go_enter Try.func8, Try.ntmps8
    go_wp2
    go_ret
    exact ⟨rfl, (Below.refl _ _).alloc (Nat.le_refl _) _⟩
  · rw [if_neg hm, Option.getD_none] at hl
    have hno : decide ((who, d) ∈ L) = false := decide_eq_false fun h => hm (mem_digs.2 ⟨_, h⟩)
    have hs := Maps.look_nil (P := Try.prog) (w := w) (t := 41) (e := 42) true (Maps.int_keyed Try.underlying3) Try.underlying41 (zero_unit w) (key_int hw)
    rw [if_pos rfl] at hs
    rw [hno]
    clear hno hm hf hn ha h0 hc hw hd
    go_enter Try.func8, Try.ntmps8
    go_wp2
    go_ret
    exact ⟨rfl, (Below.refl _ _).alloc (Nat.le_refl _) _⟩

theorem eql_some (k : Nat) (w : World) : (binOp .eql 41 (.map (some k)) (.map none)).run Try.prog w = .ok (.bool false) w := by kernel_rfl
theorem eql_nil (w : World) : (binOp .eql 41 (.map none) (.map none)).run Try.prog w = .ok (.bool true) w := by kernel_rfl

set_option maxRecDepth 100000 in
set_option maxHeartbeats 4000000 in
theorem bk_sign {w : World} {v : Value} {L : List (Int × Int)} {F : Nat → Prop} (who d : Int) (h : IsBook v L w F) (hL : L.length ≤ 1000000) (hw : I64 who) (hd : I64 d) :
    Calls Try.prog 7 #[v, .int .i64 who, .int .i64 d] w fun e w' => e = .returned (.tuple #[]) ∧ Turns F w w' (IsBook v (signAdd L (who, d))) := by
  obtain ⟨b, mb, f, n, κ, ⟨rfl, hn, hf⟩, ha⟩ := h
  have h0 := Turns.begin ha
  obtain ⟨_, hlt, hc, _⟩ := h0.blk
  have c0 := hc 0 (.map (some mb)) rfl
  have hl := (h0.swap.mv).look (te := 41) (tm := 38) (Maps.int_keyed Try.underlying3) Try.underlying38 (zero_set w) (key_int hd) trivial
  rw [hf d] at hl
  by_cases hm : d ∈ digs L
  · rw [if_pos hm, Option.getD_some] at hl
    obtain ⟨w1, hrun, h1⟩ := h0.last.set_put (who := who) hm hL hw
    have hend : Turns F w w1 (IsBook (.pointer (some ⟨b, 0, none⟩)) (signAdd L (who, d))) := h1.last'.imp fun F' hp => ⟨b, mb, f, n, κ, ⟨rfl, Nat.le_trans hn (by unfold signAdd; split <;> simp), fun x => by
      rw [hf x]; simp only [digs_old hm x]⟩, hp⟩
    have HE := Lib.hid hend
    generalize κ d = kd at hl hrun
    have heq := eql_some kd w
    clear hend h1 hm hf hn ha h0 hc hw hd hL
    go_enter Try.func7, Try.ntmps7
    go_wp2
    go_end0
    exact ⟨rfl, HE.out⟩
  · rw [if_neg hm, Option.getD_none] at hl
    have hmm := @run_makeMap Try.prog
    have heq := eql_nil w
    have h1 := h0.add (w' := w.alloc (.map #[] 0)) ((Below.refl _ _).alloc (Nat.le_refl _) _) (MV.made w 3) (fun k hk => by rw [hk]; exact Nat.le_refl _)
    obtain ⟨w2, hrun2, hown2, hg2⟩ := (h1.third.mv).put (val := .map (some w.heap.size)) (te := 41) (tm := 38) (Maps.int_keyed Try.underlying3) Try.underlying38 (by unfold maxLen; omega) (key_int hd) trivial
    rw [hf d, if_neg hm] at hown2
    have h2 := h1.third.mv_put hown2 hg2
    have hl2 := hown2.look (te := 41) (tm := 38) (Maps.int_keyed Try.underlying3) Try.underlying38 (zero_set w2) (key_int hd) trivial
    rw [upV_same f (show WideAt.IsKeyLit (.int .i64 d) from trivial), Option.getD_some] at hl2
    obtain ⟨_, lt2, hc2, _⟩ := h2.third.blk
    have c2 := hc2 0 (.map (some mb)) rfl
    obtain ⟨w3, hrun3, hown3, hg3⟩ := (h2.swap.mv).put (val := .agg #[]) (te := 42) (tm := 41) (Maps.int_keyed Try.underlying3) Try.underlying41 (by unfold maxLen; omega) (key_int hw) trivial
    have h3 := h2.swap.mv_put hown3 hg3
    have h4 := (h3.imp fun _ => star_mono fun _ h => star_comm (star_assoc' h)).set_new (who := who) hm (by simp) (fun x => by
      by_cases e : x = who
      · subst e
        rw [upV_same _ (show WideAt.IsKeyLit (.int .i64 x) from trivial), if_pos rfl]
      · rw [upV_other _ _ (fun h => e (by injection h)), if_neg e])
    have hend : Turns F w w3 (IsBook (.pointer (some ⟨b, 0, none⟩)) (signAdd L (who, d))) := h4.comm.assoc.swap.imp fun F' hp => ⟨b, mb, _, _, _, ⟨rfl, by
      have : (who, d) ∉ L := fun h => hm (mem_digs.2 ⟨_, h⟩)
      rw [signAdd_new this]
      simp only [Option.isSome_none, Bool.false_eq_true, if_false, List.length_append, List.length_cons, List.length_nil]
      omega, fun x => by
      by_cases e : x = d
      · subst e
        rw [upV_same f (show WideAt.IsKeyLit (.int .i64 x) from trivial), if_pos ((digs_new x).2 (Or.inl rfl)), upK_same]
      · rw [upV_other f _ (fun h => e (by injection h)), hf x, upK_other κ _ e]
        have : x ∈ digs (signAdd L (who, d)) ↔ x ∈ digs L := by
          rw [digs_new]
          exact ⟨fun h => h.resolve_left e, Or.inr⟩
        simp only [this]⟩, hp⟩
    have HE := Lib.hid hend
    have c1 : (w.alloc (.map #[] 0)).cell? ⟨b, 0, none⟩ = some (.map (some mb)) := ((h0.alloc (.map #[] 0)).blk).2.2.1 0 (.map (some mb)) rfl
    clear hend h4 h3 h2 h1 hown2 hown3 hg2 hg3 hc2 hm hf hn ha h0 hc hw hd hL
    go_enter Try.func7, Try.ntmps7
    go_wp2
    go_end0
    exact ⟨rfl, HE.out⟩

set_option maxRecDepth 100000 in
set_option maxHeartbeats 4000000 in
theorem bk_all {w : World} {v : Value} {L : List (Int × Int)} {F : Nat → Prop} (d : Int) (h : IsBook v L w F) (hL : L.length ≤ 1000000) (hd : I64 d) :
    Calls Try.prog 9 #[v, .int .i64 d] w fun e w' => ∃ x, e = .returned x ∧ Turns F w w' (star (RI x (allOf L d)) (IsBook v L)) := by
  have hI := h
  obtain ⟨b, mb, f, n, κ, ⟨rfl, hn, hf⟩, ha⟩ := h
  have h0 := Turns.begin ha
  obtain ⟨_, hlt, hc, _⟩ := h0.blk
  have c0 := hc 0 (.map (some mb)) rfl
  have hl := (h0.swap.mv).look (te := 41) (tm := 38) (Maps.int_keyed Try.underlying3) Try.underlying38 (zero_set w) (key_int hd) trivial
  rw [hf d] at hl
  have HI := Lib.hid hI
  have hfK : Fence.wide.fn 16 := trivial
  have hfS : Fence.wide.fn 15 := trivial
  refine (callsIn_wide (n := 6)).1 ?_
  by_cases hm : d ∈ digs L
  · rw [if_pos hm, Option.getD_some] at hl
    obtain ⟨g, m, hog, hm', hg⟩ := h0.last.set_of hm
    have hS := Lib.hid (sorted_own hog (Nat.le_trans hm' hL))
    have hmem : ∀ x, (g (.int .i64 x)).isSome = true ↔ (x, d) ∈ L := fun x => by
      rw [hg x]
      split <;> simp [*]
    have HM := Lib.hid hmem
    generalize κ d = kd at hl hS
    clear hmem hg hog hm hf hn ha h0 hc hd hL hI hm'
    refine callsIn_of_wp Try.func9 rfl trivial ?_ rfl
    simp only [Try.ntmps9, List.size_toArray, List.length_cons, List.length_nil, Nat.reduceAdd, Nat.reduceSub, Array.replicate_succ, Array.replicate_zero, List.push_toArray, List.append_toArray, List.nil_append, List.cons_append]
    gi_wp2_with (first
      | (gi_at_call 16; refine (keys_i _ _).mono ?_; rintro e w' ⟨rfl, rfl⟩)
      | (gi_at_call 15; refine hS.out.mono ?_; rintro e w' ⟨v, l, rfl, hr, hx, hrow, hb⟩))
    go_ret
    have he : allOf L d = l := allOf_is hr fun x => (hx x).trans (HM.out x)
    rw [he]
    obtain ⟨G, hG, hlo⟩ := RV.of hrow
    exact ⟨_, rfl, (Turns.begin HI.out).add (((Below.refl _ w).alloc (Nat.le_refl _) _).trans (hb.mono (by simp))) hG (fun k hk => Nat.le_trans (by simp) (hlo k hk))⟩
  · rw [if_neg hm, Option.getD_none] at hl
    have hS := Lib.hid (sorted_nil_in w)
    have he : allOf L d = [] := allOf_is List.Pairwise.nil fun x => ⟨fun h => (by cases h), fun h => absurd (mem_digs.2 ⟨_, h⟩) hm⟩
    rw [he]
    clear he hm hf hn ha h0 hc hd hL hI
    refine callsIn_of_wp Try.func9 rfl trivial ?_ rfl
    simp only [Try.ntmps9, List.size_toArray, List.length_cons, List.length_nil, Nat.reduceAdd, Nat.reduceSub, Array.replicate_succ, Array.replicate_zero, List.push_toArray, List.append_toArray, List.nil_append, List.cons_append]
    gi_wp2_with (first
      | (gi_at_call 16; refine (keys_i _ _).mono ?_; rintro e w' ⟨rfl, rfl⟩)
      | (gi_at_call 15; refine hS.out.mono ?_; rintro e w' ⟨rfl, hb⟩))
    go_ret
    exact ⟨_, rfl, (Turns.begin HI.out).add (((Below.refl _ w).alloc (Nat.le_refl _) _).trans (hb.mono (by simp))) (RV.nil _) (fun k hk => hk.elim)⟩

noncomputable def signApi : SignApi where
  IsB := IsBook
  stable := IsBook.stable
  ptr := fun ⟨_, _, _, _, _, ⟨h, _⟩, _⟩ => ⟨_, h⟩
  new := bk_new
  sign := fun who d h hL hw hd => bk_sign who d h hL hw hd
  has := fun who d h _ hw hd => bk_has who d h hw hd
  all := fun d h hL hd => bk_all d h hL hd
end Go.Proofs.Ytalcncfgfehkdaa
