/- A region that draws its order and whose stores wait for all its loads: the loads are taken first, one by one, from what the world holds ahead of the stores. Conditions: as each says. -/
import Derived.Deep.RegionHeld3
namespace Go.Proofs.Ytkbebllkjmccoaa
open Go

section
variable {P : Program} {ops : Array Oper} {Q : Exit → Act → World → Prop} {md : Region.Mode} {C : World → Prop} {st : List Nat}
/-- No store has come up. -/
def Undone (st : List Nat) (l : Array Bool) : Prop := ∀ s ∈ st, l.getD s true = false
/-- Whatever order is picked from here on; and C holds as long as no store has come up. -/
def wpAnyS (P : Program) (md : Region.Mode) (ops : Array Oper) (Q : Exit → Act → World → Prop) (C : World → Prop) (st : List Nat) : Nat → Array Bool → Act → World → Prop
  | 0, listed, a, w => Region.ready md ops listed = [] ∧ Q .normal a w
  | fuel + 1, listed, a, w =>
    (Region.ready md ops listed = [] → Q .normal a w) ∧
    ∀ i ∈ Region.ready md ops listed, wpOp P ops Q i (fun a' w' => (Undone st (listed.setIfInBounds i true) → C w') ∧ wpAnyS P md ops Q C st fuel (listed.setIfInBounds i true) a' w') a w
theorem wpAny_of_S : ∀ (fuel : Nat) (listed : Array Bool) (a : Act) (w : World), wpAnyS P md ops Q C st fuel listed a w → wpAny P md ops Q fuel listed a w
  | 0, _, _, _, h => h
  | fuel + 1, _, _, _, h => ⟨h.1, fun i hi => wpOp_mono (fun a' w' h' => wpAny_of_S fuel _ a' w' h'.2) (h.2 i hi)⟩
theorem undone_set {l : Array Bool} {i : Nat} (h : ¬ Undone st l) : ¬ Undone st (l.setIfInBounds i true) := fun hu => h fun s hs => by
  have := hu s hs
  by_cases e : i = s
  · subst e
    rcases Nat.lt_or_ge i l.size with h' | h'
    · simp [h'] at this
    · simp at this
  · rwa [getD_set_ne true e] at this
theorem wpAnyS_dead : ∀ (fuel : Nat) (listed : Array Bool) (a : Act) (w : World), ¬ Undone st listed → wpAny P md ops Q fuel listed a w → wpAnyS P md ops Q C st fuel listed a w
  | 0, _, _, _, _, h => h
  | fuel + 1, _, _, _, hu, h => ⟨h.1, fun i hi => wpOp_mono (fun a' w' h' => ⟨fun hn => absurd hn (undone_set hu), wpAnyS_dead fuel _ a' w' (undone_set hu) h'⟩) (h.2 i hi)⟩
/-- What comes up next are stores alone. -/
theorem wpAnyS_any {fuel : Nat} {listed : Array Bool} {a : Act} {w : World} (hr : (Region.ready md ops listed).all (fun i => st.contains i) = true) (h : wpAny P md ops Q (fuel + 1) listed a w) : wpAnyS P md ops Q C st (fuel + 1) listed a w := by
  refine ⟨h.1, fun i hi => ?_⟩
  have hs : i ∈ st := by simpa using (List.all_eq_true.1 hr) i hi
  have hd : ¬ Undone st (listed.setIfInBounds i true) := fun hu => by
    have := hu i hs
    rcases Nat.lt_or_ge i listed.size with h' | h'
    · simp [h'] at this
    · simp at this
  exact wpOp_mono (fun a' w' h' => ⟨fun hn => absurd hn hd, wpAnyS_dead fuel _ a' w' hd h'⟩) (h.2 i hi)

theorem wpAnyS_first {i : Nat} {oi : Oper} {v : Value} (hi : ops[i]? = some oi) (hsel : ∀ (j : Nat) (o : Oper) cs b, ops[j]? = some o → o.op ≠ .select cs b)
    (hQ : ∀ c a w, Q (.panic c) (a.put oi.dst v) w → Q (.panic c) a w) (his : i ∉ st) (S : World → Prop)
    (hw : (∀ w, S w) ∨ ((∀ w, C w → S w) ∧ ∀ s ∈ st, ∀ os, ops[s]? = some os → ∃ e ∈ os.after, Region.binds md e = true ∧ e.on = i)) :
    ∀ (fuel : Nat) (listed : Array Bool) (a : Act) (w : World),
      (∀ j oj, ops[j]? = some oj → j ≠ i → listed.getD j true = false → (∀ e ∈ oj.after, Region.binds md e = true → e.on ≠ i) → oi.apart ops oj = true) →
      i ∈ Region.ready md ops listed → YieldsIf P ops S oi v a → (Undone st listed → C w) → ((∀ w, S w) ∨ Undone st listed) →
      wpAnyS P md ops Q C st fuel (listed.setIfInBounds i true) (a.put oi.dst v) w → wpAnyS P md ops Q C st (fuel + 1) listed a w := by
  have uset : ∀ l : Array Bool, Undone st (l.setIfInBounds i true) → Undone st l := fun l h s hs => by
    have := h s hs
    rwa [getD_set_ne true (fun e => his (by rw [e]; exact hs))] at this
  have hSw : ∀ (l : Array Bool) (w : World), (Undone st l → C w) → ((∀ w, S w) ∨ Undone st l) → S w := fun l w hc hu => by
    rcases hu with hu | hu
    · exact hu w
    · rcases hw with hw | ⟨hw, _⟩
      · exact hw w
      · exact hw w (hc hu)
  intro fuel
  induction fuel with
  | zero =>
    intro listed a w _ hr hy hC hU H
    refine ⟨fun h => (by rw [h] at hr; cases hr), fun j hj => ?_⟩
    by_cases hji : j = i
    · subst hji; exact hy.wpOp hi (hSw listed w hC hU) ⟨fun hn => hC (uset _ hn), H⟩
    · have := ready_mono hj hji
      rw [H.1] at this
      cases this
  | succ fuel ih =>
    intro listed a w hfree hr hy hC hU H
    refine ⟨fun h => (by rw [h] at hr; cases hr), fun j hj => ?_⟩
    by_cases hji : j = i
    · subst hji; exact hy.wpOp hi (hSw listed w hC hU) ⟨fun hn => hC (uset _ hn), H⟩
    · have h1 := H.2 j (ready_mono hj hji)
      obtain ⟨hjun, oj, hoj, hall⟩ := mem_ready.1 hj
      have hnot : ∀ e ∈ oj.after, Region.binds md e = true → e.on ≠ i := fun e he hb heq => by
        have h1 := hall e he hb
        have h0 := (mem_ready.1 hr).1
        rw [heq] at h1
        rcases Nat.lt_or_ge i listed.size with h' | h'
        · simp [h'] at h0 h1; rw [h0] at h1; cases h1
        · simp [Array.getElem?_eq_none h'] at h1
      have h2 := wpOp_putIf hoj (hfree j oj hoj hji hjun hnot) (fun cs b => hsel i oi cs b hi) (fun cs b => hsel j oj cs b hoj) hQ hy h1
      have hfree' : ∀ k ok, ops[k]? = some ok → k ≠ i → (listed.setIfInBounds j true).getD k true = false →
          (∀ e ∈ ok.after, Region.binds md e = true → e.on ≠ i) → oi.apart ops ok = true := fun k ok hk hki hun hno => by
        refine hfree k ok hk hki ?_ hno
        by_cases hjk : j = k
        · subst hjk; exact hjun
        · rw [getD_set_ne true hjk] at hun; exact hun
      have hU' : (∀ w, S w) ∨ Undone st (listed.setIfInBounds j true) := by
        rcases hU with hU | hU
        · exact Or.inl hU
        · rcases hw with hw | ⟨_, hw⟩
          · exact Or.inl hw
          · refine Or.inr fun s hs => ?_
            have hsj : j ≠ s := fun e => by
              subst e
              obtain ⟨e, he, hb, ho⟩ := hw j hs oj hoj
              exact hnot e he hb ho
            rw [getD_set_ne true hsj]
            exact hU s hs
      refine wpOp_mono (fun a' w' h3 => ?_) h2
      have hC' : Undone st (listed.setIfInBounds j true) → C w' := fun hn => h3.2.1 (fun s hs => by
        have e : i ≠ s := fun e => his (by rw [e]; exact hs)
        have := hn s hs
        rw [Array.setIfInBounds_comm _ _ (Ne.symm hji)]
        rwa [getD_set_ne true e])
      refine ⟨hC', ih (listed.setIfInBounds j true) a' w' hfree' (ready_mono hr (Ne.symm hji)) h3.1 hC' hU' ?_⟩
      rw [Array.setIfInBounds_comm _ _ hji]
      exact h3.2.2

/-- The stores wait for it. -/
def waited (md : Region.Mode) (ops : Array Oper) (st : List Nat) (i : Nat) : Bool := st.all fun s => match ops[s]? with
  | some os => os.after.any fun e => Region.binds md e && e.on == i
  | none => true
/-- A load is taken: the stores wait for it, and none has come up. -/
theorem takeS_load {i : Nat} {oi : Oper} {v : Value} {fuel : Nat} {listed : Array Bool} {a : Act} {w : World} (d : Option Tmp) (hi : ops[i]? = some oi) (hd : oi.dst = d)
    (hs : Region.noSelect ops = true) (hf : Region.free md ops listed i = true) (hr : (Region.ready md ops listed).contains i = true) (hst : (st.contains i) = false) (hwt : waited md ops st i = true) (hu : (st.all fun s => !(listed.getD s true)) = true)
    (hQ : ∀ c a w, Q (.panic c) (a.put d v) w → Q (.panic c) a w) (hy : YieldsIf P ops C oi v a) (hC : C w)
    (h : wpAnyS P md ops Q C st fuel (listed.setIfInBounds i true) (a.put d v) w) : wpAnyS P md ops Q C st (fuel + 1) listed a w := by
  subst hd
  refine wpAnyS_first hi (Region.noSelect_spec hs) hQ (by simpa using hst) C (Or.inr ⟨fun _ h => h, fun s hs os ho => ?_⟩) fuel listed a w (Region.free_spec hi hf) (by simpa using hr) hy (fun _ => hC) (Or.inr fun s hs => ?_) h
  · have := (List.all_eq_true.1 hwt) s hs
    rw [ho] at this
    simp only [Array.any_eq_true, Bool.and_eq_true, beq_iff_eq] at this
    obtain ⟨k, hk, hb, he⟩ := this
    exact ⟨_, Array.getElem_mem hk, hb, he⟩
  · have := (List.all_eq_true.1 hu) s hs
    simpa using this
/-- Something is taken that yields the same in whatever world. -/
theorem takeS_any {i : Nat} {oi : Oper} {v : Value} {fuel : Nat} {listed : Array Bool} {a : Act} {w : World} (d : Option Tmp) (hi : ops[i]? = some oi) (hd : oi.dst = d)
    (hs : Region.noSelect ops = true) (hf : Region.free md ops listed i = true) (hr : (Region.ready md ops listed).contains i = true) (hst : (st.contains i) = false)
    (hQ : ∀ c a w, Q (.panic c) (a.put d v) w → Q (.panic c) a w) (hy : YieldsIf P ops (fun _ => True) oi v a) (hC : C w)
    (h : wpAnyS P md ops Q C st fuel (listed.setIfInBounds i true) (a.put d v) w) : wpAnyS P md ops Q C st (fuel + 1) listed a w := by
  subst hd
  exact wpAnyS_first hi (Region.noSelect_spec hs) hQ (by simpa using hst) (fun _ => True) (Or.inl fun _ => trivial) fuel listed a w (Region.free_spec hi hf) (by simpa using hr) hy (fun _ => hC) (Or.inl fun _ => trivial) h
theorem wp_region_S {id : Nat} {a : Act} {w : World} (hm : P.follows .mixedOrders = true) (C : World → Prop) (st : List Nat)
    (h : wpAnyS P .any ops Q C st ops.size (Array.replicate ops.size false) a w.drew) : (Code.region id ops true).wp P Q a w :=
  wp_region_any hm (wpAny_of_S _ _ _ _ h)
end
end Go.Proofs.Ytkbebllkjmccoaa
