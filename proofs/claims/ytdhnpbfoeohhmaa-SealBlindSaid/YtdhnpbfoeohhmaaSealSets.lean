/- The vault as it lies in memory: a row of texts, each with its label and the set of those who shared it, as things that lie apart. Conditions: as each says. -/
import Derived.Test.YtdhnpbfoeohhmaaSealApi
import Derived.Test.YtdhnpbfoeohhmaaMapV
import Derived.Test.YtdhnpbfoeohhmaaRowN
import Derived.Test.YtdhnpbfoeohhmaaIter
import Derived.IntWalk
import Derived.WalkArith
namespace Go.Proofs.Ytdhnpbfoeohhmaa
open Go.RowKit Go.WideShapes

theorem wf_i64 {n : Int} (h : I64 n) : (Lit.int .i64 n).wf = true := WalkArith.wf_i64 (by have := h.1; have := h.2; omega)
theorem key_int {n : Int} (h : I64 n) : keyOf Try.prog 3 (.int .i64 n) = some (.int .i64 n) := Maps.keyOf_int_mk Try.underlying3 (wf_i64 h)
theorem zero_set (w : World) : (zeroValue 55).run Try.prog w = .ok (.map none) w := by kernel_rfl
theorem zero_unit (w : World) : (zeroValue 64).run Try.prog w = .ok (.agg #[]) w := by kernel_rfl

/-- A set of ints has as many keys as a rising row of them has. -/
theorem OwnV.count {w : World} {b n : Nat} {f : Lit → Option Value} (h : OwnV w 3 b f n) {l : List Int} (hs : l.Pairwise (· < ·)) (hm : ∀ x, x ∈ l ↔ (f (.int .i64 x)).isSome = true) : n = l.length := by
  obtain ⟨D, hown, hr⟩ := h
  have hkeys : ∀ es, D = .map es → ∀ p ∈ es, ∃ x, p.1 = .int .i64 x ∧ (Lit.int .i64 x).wf = true := by
    rintro es rfl p hp
    obtain ⟨ms, clock, _, F, _, hD⟩ := hown
    have hp' : p ∈ ms.toList.map (WideElems.rg Try.prog 3 heldV) := by
      injection hD with hD
      rw [hD] at hp
      exact (WideShapes.sorted_perm _).mem_iff.1 hp
    obtain ⟨key, hk⟩ := Maps.fit_keys F p hp'
    obtain ⟨x, _, hx, hw⟩ := Maps.keyOf_i64 Try.underlying3 hk
    exact ⟨x, hx, hw⟩
  obtain ⟨hnd, hlen, hmem⟩ := intKeys_mem hr hkeys
  have hp : (intKeys D).Perm l := by
    refine (List.perm_ext_iff_of_nodup hnd ?_).2 fun x => (hmem x).trans (hm x).symm
    exact hs.imp fun {a b} h e => by omega
  rw [← hlen, hp.length_eq]

/-- Block b is the set of those who shared c. -/
def SetV (w : World) (b : Nat) (L : List (Int × Int)) (c : Int) : Prop := ∃ f, OwnV w 3 b f (allOf L c).length ∧ ∀ x, f (.int .i64 x) = if (x, c) ∈ L then some (.agg #[]) else none
theorem SetV.of {w : World} {b n : Nat} {f : Lit → Option Value} {L : List (Int × Int)} {c : Int} (h : OwnV w 3 b f n) (hf : ∀ x, f (.int .i64 x) = if (x, c) ∈ L then some (.agg #[]) else none) : SetV w b L c := by
  have e : n = (allOf L c).length := h.count (sorted_allOf L c) fun x => by
    rw [mem_allOf, hf x]
    split <;> simp [*]
  exact ⟨f, e ▸ h, hf⟩
theorem SetV.lt {w : World} {b : Nat} {L : List (Int × Int)} {c : Int} (h : SetV w b L c) : b < w.heap.size := by
  obtain ⟨f, h, _⟩ := h
  exact h.lt
theorem mem_add_other {L : List (Int × Int)} {who c d y : Int} (h : c ≠ d) : (y, c) ∈ signAdd L (who, d) ↔ (y, c) ∈ L := by
  rw [mem_signAdd]
  exact ⟨fun h' => h'.elim (fun h' => absurd (Prod.mk.inj h').2 h) id, Or.inr⟩
theorem SetV.other {w : World} {b : Nat} {L : List (Int × Int)} {who c d : Int} (h : SetV w b L c) (hne : c ≠ d) : SetV w b (signAdd L (who, d)) c := by
  obtain ⟨f, h, hf⟩ := h
  exact SetV.of h fun x => by rw [hf x]; simp only [mem_add_other hne]
theorem SetV.chg {w w' : World} {G : Nat → Prop} {b : Nat} {L : List (Int × Int)} {c : Int} (h : SetV w b L c) (hc : Chg G w w') (hG : ¬ G b) : SetV w' b L c := by
  obtain ⟨f, h, hf⟩ := h
  exact ⟨f, h.chg hc hG, hf⟩
/-- What a set of those who shared c is with one more. -/
theorem set_more {w : World} {b : Nat} {L : List (Int × Int)} {who c : Int} {f : Lit → Option Value} {n : Nat} (hf : ∀ x, f (.int .i64 x) = if (x, c) ∈ L then some (.agg #[]) else none) (h : OwnV w 3 b (upV f (.int .i64 who) (.agg #[])) n) :
    SetV w b (signAdd L (who, c)) c := by
  refine SetV.of h fun x => ?_
  by_cases e : x = who
  · subst e
    rw [upV_same f (show WideAt.IsKeyLit (.int .i64 x) from trivial), if_pos (mem_signAdd.2 (Or.inl rfl))]
  · rw [upV_other f _ (fun h => e (by injection h)), hf x]
    have : (x, c) ∈ signAdd L (who, c) ↔ (x, c) ∈ L := by
      rw [mem_signAdd]
      exact ⟨fun h => h.elim (fun h => absurd (Prod.mk.inj h).1 e) id, Or.inr⟩
    simp only [this]

/-- The cipher of a place. -/
abbrev cip (j : Nat) : Int := (j : Int) + 1
theorem cip_inj {i j : Nat} (h : cip i = cip j) : i = j := by unfold cip at h; omega
/-- Some ciphers have a set of those who shared them, each in a block of its own; the others nobody shared. -/
def SetsV (κ : Nat → Option Nat) (L : List (Int × Int)) : HP := fun w F =>
  (∀ j b, κ j = some b → SetV w b L (cip j)) ∧ (∀ j, κ j = none → ∀ x, (x, cip j) ∉ L) ∧ (∀ i j b, κ i = some b → κ j = some b → i = j) ∧ ∀ k, F k ↔ ∃ j, κ j = some k
instance SetsV.stable (κ : Nat → Option Nat) (L : List (Int × Int)) : Stable (SetsV κ L) where
  lt := fun ⟨h, _, _, hF⟩ k hk => by
    obtain ⟨j, hj⟩ := (hF k).1 hk
    exact (h j k hj).lt
  keep := fun ⟨h, hn, hi, hF⟩ hc hG => ⟨fun j b hj => (h j b hj).chg hc (hG _ ((hF _).2 ⟨j, hj⟩)), hn, hi, hF⟩
theorem SetsV.none (w : World) : SetsV (fun _ => none) [] w (fun _ => False) := ⟨fun _ _ h => (by cases h), fun _ _ _ h => (by cases h), fun _ _ _ h => (by cases h), fun k => by simp⟩
/-- A cipher is given a set. -/
def setK (κ : Nat → Option Nat) (j b : Nat) : Nat → Option Nat := fun i => if i = j then some b else κ i
theorem setK_same (κ : Nat → Option Nat) (j b : Nat) : setK κ j b j = some b := if_pos rfl
theorem setK_other (κ : Nat → Option Nat) {i j : Nat} (b : Nat) (h : i ≠ j) : setK κ j b i = κ i := if_neg h

section
variable {F0 : Nat → Prop} {w0 w w' : World} {κ : Nat → Option Nat} {L : List (Int × Int)} {R : HP} {j b n : Nat} {f : Lit → Option Value}
theorem Turns.setv (h : Turns F0 w0 w (star (SetsV κ L) R)) (hj : κ j = some b) : SetV w b L (cip j) := by
  obtain ⟨F, ⟨A, B, hp, _⟩, _⟩ := h
  exact hp.1 j b hj
theorem Turns.setn (h : Turns F0 w0 w (star (SetsV κ L) R)) (hj : κ j = none) : ∀ x, (x, cip j) ∉ L := by
  obtain ⟨F, ⟨A, B, hp, _⟩, _⟩ := h
  exact hp.2.1 j hj
/-- One more shares what is shared already. -/
theorem Turns.setv_put (h : Turns F0 w0 w (star (SetsV κ L) R)) [hR : Stable R] (hj : κ j = some b) {who : Int} (hL : L.length ≤ 1000000) (hw : I64 who) :
    ∃ w', (Instr.mapUpdate 55 (.map (some b)) (.int .i64 who) (.agg #[])).run Try.prog w = .ok () w' ∧ Turns F0 w0 w' (star (SetsV κ (signAdd L (who, cip j))) R) := by
  obtain ⟨f, ho, hf⟩ := h.setv hj
  have hal := allOf_le L (cip j)
  obtain ⟨w', hrun, ho', hg⟩ := ho.put (val := .agg #[]) (Maps.int_keyed Try.underlying3) Try.underlying55 (by unfold maxLen; omega) (key_int hw) trivial
  refine ⟨w', hrun, h.step fun F hp => ⟨F, ⟨fun i c hi => ?_, fun i hi x hx => ?_, hp.2.2.1, hp.2.2.2⟩, (Chg.refl _ _).grown hg (fun k hk _ => by cases hk; exact (hp.2.2.2 _).2 ⟨j, hj⟩), fun k hk => Or.inl hk⟩⟩
  · by_cases e : i = j
    · subst e
      rw [hj] at hi
      obtain rfl := Option.some.inj hi
      exact set_more hf ho'
    · have hne : c ≠ b := fun h => e (hp.2.2.1 i j b (h ▸ hi) hj)
      obtain ⟨g, hog, hgx⟩ := hp.1 i c hi
      have h1 : SetV w' c L (cip i) := ⟨g, hog.keep (hg.block _ hog.lt (fun h => hne (Option.some.inj h))), hgx⟩
      exact h1.other fun h => e (cip_inj h)
  · have e : i ≠ j := fun e => by rw [e, hj] at hi; cases hi
    exact hp.2.1 i hi x ((mem_add_other (fun h => e (cip_inj h))).1 hx)
/-- The first one shares. -/
theorem Turns.setv_new (h : Turns F0 w0 w (star (MV 3 b f n) (star (SetsV κ L) R))) (hj : κ j = none) {who : Int} (hf : ∀ x, f (.int .i64 x) = if x = who then some (.agg #[]) else none) :
    Turns F0 w0 w (star (SetsV (setK κ j b) (signAdd L (who, cip j))) R) := by
  refine h.assoc'.imp fun F hp => star_comm (star_mono (fun F hp => ?_) (star_comm hp))
  obtain ⟨A, B, hm, ⟨s1, s2, s3, s4⟩, hdis, hF⟩ := hp
  have hbs : ∀ i c, κ i = some c → c ≠ b := fun i c hi e => hdis b ((hm.2 b).2 rfl) ((s4 b).2 ⟨i, e ▸ hi⟩)
  refine ⟨fun i c hi => ?_, fun i hi x hx => ?_, fun i i' c hi hi' => ?_, fun k => ?_⟩
  · by_cases e : i = j
    · subst e
      rw [setK_same] at hi
      obtain rfl := Option.some.inj hi
      refine SetV.of hm.1 fun x => ?_
      rw [hf x]
      have : (x, cip i) ∈ signAdd L (who, cip i) ↔ x = who := by
        rw [mem_signAdd]
        exact ⟨fun h => h.elim (fun h => (Prod.mk.inj h).1) (fun h => absurd h (s2 i hj x)), fun h => Or.inl (by rw [h])⟩
      simp only [this]
    · rw [setK_other κ b e] at hi
      exact (s1 i c hi).other fun h => e (cip_inj h)
  · have e : i ≠ j := fun e => by rw [e, setK_same] at hi; cases hi
    rw [setK_other κ b e] at hi
    exact s2 i hi x ((mem_add_other (fun h => e (cip_inj h))).1 hx)
  · by_cases e : i = j <;> by_cases e' : i' = j
    · rw [e, e']
    · subst e
      rw [setK_same] at hi
      obtain rfl := Option.some.inj hi
      rw [setK_other κ b e'] at hi'
      exact absurd rfl (hbs i' b hi')
    · subst e'
      rw [setK_same] at hi'
      obtain rfl := Option.some.inj hi'
      rw [setK_other κ b e] at hi
      exact absurd rfl (hbs i b hi)
    · rw [setK_other κ b e] at hi
      rw [setK_other κ b e'] at hi'
      exact s3 i i' c hi hi'
  · rw [hF k, hm.2 k, s4 k]
    constructor
    · rintro (rfl | ⟨i, hi⟩)
      · exact ⟨j, setK_same κ j k⟩
      · have e : i ≠ j := fun e => by rw [e, hj] at hi; cases hi
        exact ⟨i, (setK_other κ b e).trans hi⟩
    · rintro ⟨i, hi⟩
      by_cases e : i = j
      · subst e; rw [setK_same] at hi; exact Or.inl (Option.some.inj hi).symm
      · rw [setK_other κ b e] at hi; exact Or.inr ⟨i, hi⟩
end

/-! ### The row of texts -/
abbrev TextV := Int × List UInt8 × Option Nat
def texts (M : List TextV) : Texts := M.map fun m => (m.1, m.2.1)
theorem texts_length (M : List TextV) : (texts M).length = M.length := by simp [texts]
def blkOf (M : List TextV) (j : Nat) : Option Nat := (M[j]?).bind (·.2.2)
theorem blkOf_at {M : List TextV} {j : Nat} (h : j < M.length) : blkOf M j = M[j].2.2 := by simp [blkOf, List.getElem?_eq_getElem h]
theorem blkOf_snoc (M : List TextV) (label : Int) (t : List UInt8) (j : Nat) : blkOf (M ++ [(label, t, none)]) j = blkOf M j := by
  unfold blkOf
  rcases Nat.lt_or_ge j M.length with h | h
  · rw [List.getElem?_append_left h]
  · rw [List.getElem?_append_right h, List.getElem?_eq_none h]
    cases h2 : ([(label, t, none)] : List TextV)[j - M.length]? with
    | none => rfl
    | some m =>
      have := List.mem_of_getElem? h2
      simp only [List.mem_singleton] at this
      rw [this]
      rfl
theorem blkOf_set {M : List TextV} {j : Nat} (h : j < M.length) (b : Nat) : blkOf (M.set j (M[j].1, M[j].2.1, some b)) = setK (blkOf M) j b := by
  funext i
  by_cases e : i = j
  · subst e
    rw [setK_same]
    simp [blkOf, h]
  · rw [setK_other _ _ e]
    unfold blkOf
    rw [List.getElem?_set_ne (fun h => e h.symm)]
theorem texts_set {M : List TextV} {j : Nat} (h : j < M.length) (o : Option Nat) : texts (M.set j (M[j].1, M[j].2.1, o)) = texts M := by
  unfold texts
  rw [List.map_set]
  refine List.ext_getElem? fun i => ?_
  by_cases e : j = i
  · subst e
    rw [List.getElem?_set_self (by simpa using h)]
    simp [List.getElem?_eq_getElem h]
  · rw [List.getElem?_set_ne e]
/-- The cells of the texts. -/
def cellsM (M : List TextV) : List Value := M.flatMap fun m => [.int .i64 m.1, .string ⟨m.2.1.toArray⟩, .map m.2.2]
theorem cellsM_length (M : List TextV) : (cellsM M).length = M.length * 3 := by
  induction M with
  | nil => rfl
  | cons p M ih => simp only [cellsM, List.flatMap_cons, List.length_append, List.length_cons, List.length_nil] at ih ⊢; omega
theorem cellsM_append (a b : List TextV) : cellsM (a ++ b) = cellsM a ++ cellsM b := by simp [cellsM]
theorem cellsM_split {M : List TextV} {j : Nat} (h : j < M.length) : cellsM M = cellsM (M.take j) ++ ([.int .i64 M[j].1, .string ⟨M[j].2.1.toArray⟩, .map M[j].2.2] ++ cellsM (M.drop (j + 1))) := by
  conv => lhs; rw [← List.take_append_drop j M, List.drop_eq_getElem_cons h, cellsM_append]
  rfl
theorem cellsM_at {M : List TextV} {j : Nat} (h : j < M.length) : (cellsM M)[j * 3]? = some (.int .i64 M[j].1) ∧ (cellsM M)[j * 3 + 1]? = some (.string ⟨M[j].2.1.toArray⟩) ∧ (cellsM M)[j * 3 + 2]? = some (.map M[j].2.2) := by
  have hl : (cellsM (M.take j)).length = j * 3 := by rw [cellsM_length, List.length_take]; omega
  rw [cellsM_split h]
  refine ⟨?_, ?_, ?_⟩
  · rw [List.getElem?_append_right (by omega), hl, Nat.sub_self]; rfl
  · rw [List.getElem?_append_right (by omega), hl, Nat.add_sub_cancel_left]; rfl
  · rw [List.getElem?_append_right (by omega), hl, Nat.add_sub_cancel_left]; rfl
theorem cellsM_one (M : List TextV) : ∀ u ∈ cellsM M, u.oneCell' = true := by
  intro u hu
  simp only [cellsM, List.mem_flatMap] at hu
  obtain ⟨p, _, hu⟩ := hu
  simp only [List.mem_cons, List.not_mem_nil, or_false] at hu
  rcases hu with rfl | rfl | rfl <;> rfl
theorem cellsM_set {M : List TextV} {j : Nat} (h : j < M.length) (o : Option Nat) : (cellsM M).set (j * 3 + 2) (.map o) = cellsM (M.set j (M[j].1, M[j].2.1, o)) := by
  have hl : (cellsM (M.take j)).length = j * 3 := by rw [cellsM_length, List.length_take]; omega
  have h' : j < (M.set j (M[j].1, M[j].2.1, o)).length := by simpa using h
  have e1 : (M.set j (M[j].1, M[j].2.1, o)).take j = M.take j := by rw [List.take_set, List.set_eq_of_length_le (by rw [List.length_take]; omega)]
  have e2 : (M.set j (M[j].1, M[j].2.1, o)).drop (j + 1) = M.drop (j + 1) := by rw [List.drop_set, if_pos (by omega)]
  rw [cellsM_split h', cellsM_split h, List.set_append_right _ _ (by omega), hl, Nat.add_sub_cancel_left, e1, e2]
  simp

/-- A vault in block b. -/
def VltAt (b : Nat) (n : Int) (s : Value) (M : List TextV) (L : List (Int × Int)) : HP :=
  star (Blk b #[.int .i64 n, s] 54) (star (RowN 57 3 s M.length (cellsM M)) (SetsV (blkOf M) L))
instance VltAt.stable (b : Nat) (n : Int) (s : Value) (M : List TextV) (L : List (Int × Int)) : Stable (VltAt b n s M L) := by unfold VltAt; infer_instance
/-- v points to a vault that opens when n have shared. -/
def IsVlt (v : Value) (n : Int) (T : Texts) (L : List (Int × Int)) : HP := fun w F => ∃ b s M, (v = .pointer (some ⟨b, 0, none⟩) ∧ T = texts M ∧ ∀ p ∈ T, p.2.length ≤ 140737488355328) ∧ VltAt b (max n 1) s M L w F
instance IsVlt.stable (v : Value) (n : Int) (T : Texts) (L : List (Int × Int)) : Stable (IsVlt v n T L) := by unfold IsVlt; infer_instance
end Go.Proofs.Ytdhnpbfoeohhmaa
