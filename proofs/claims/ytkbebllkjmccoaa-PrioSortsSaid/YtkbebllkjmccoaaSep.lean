/- Things that lie apart in memory: a thing is told by the blocks that it takes; what one call turns is its own thing's, and new memory; the others stay. No conditions but those that each names. -/
import Derived.Test.YtkbebllkjmccoaaFoot
namespace Go.Proofs.Ytkbebllkjmccoaa
open Go.RowKit Go.WideShapes

/-- A thing in memory: what holds of the world, and the blocks that it takes. -/
abbrev HP := World → (Nat → Prop) → Prop
/-- A thing stays as long as its blocks do. -/
class Stable (P : HP) : Prop where
  lt : ∀ {w F}, P w F → ∀ k, F k → k < w.heap.size
  keep : ∀ {w w' F G}, P w F → Chg G w w' → (∀ k, F k → ¬ G k) → P w' F
/-- Two things that lie apart. -/
def star (P Q : HP) : HP := fun w F => ∃ A B : Nat → Prop, P w A ∧ Q w B ∧ (∀ k, A k → ¬ B k) ∧ (∀ k, F k ↔ A k ∨ B k)
/-- No thing. -/
def nothing : HP := fun _ F => ∀ k, ¬ F k
instance Stable.star {P Q : HP} [hP : Stable P] [hQ : Stable Q] : Stable (star P Q) where
  lt := fun ⟨_, _, hp, hq, _, hF⟩ k hk => ((hF k).1 hk).elim (hP.lt hp k) (hQ.lt hq k)
  keep := fun ⟨A, B, hp, hq, hd, hF⟩ hc hG => ⟨A, B, hP.keep hp hc (fun k hk => hG k ((hF k).2 (Or.inl hk))), hQ.keep hq hc (fun k hk => hG k ((hF k).2 (Or.inr hk))), hd, hF⟩
instance Stable.nothing : Stable nothing where
  lt := fun h k hk => (h k hk).elim
  keep := fun h _ _ => h
instance Stable.ex {ι : Type} {P : ι → HP} [h : ∀ i, Stable (P i)] : Stable (fun w F => ∃ i, P i w F) where
  lt := fun ⟨i, hp⟩ => (h i).lt hp
  keep := fun ⟨i, hp⟩ hc hd => ⟨i, (h i).keep hp hc hd⟩
instance Stable.and {P : HP} {φ : Prop} [h : Stable P] : Stable (fun w F => φ ∧ P w F) where
  lt := fun hp => h.lt hp.2
  keep := fun hp hc hd => ⟨hp.1, h.keep hp.2 hc hd⟩

/-- From w0 to w: the blocks of F may have been turned, nothing else that was there; now P holds, in these blocks and in new ones. -/
def Turns (F : Nat → Prop) (w0 w : World) (P : HP) : Prop := ∃ F', P w F' ∧ Chg F w0 w ∧ (∀ k, F' k → F k ∨ w0.heap.size ≤ k)
/-- A law's things: all of them in memory that the law made (behind w0). -/
abbrev St (w0 w : World) (P : HP) : Prop := Turns (fun _ => False) w0 w P

section
variable {F0 : Nat → Prop} {w0 w w' : World} {P Q R S : HP}
theorem star_comm {F : Nat → Prop} (h : star P Q w F) : star Q P w F := by
  obtain ⟨A, B, hp, hq, hd, hF⟩ := h
  exact ⟨B, A, hq, hp, fun k hb ha => hd k ha hb, fun k => (hF k).trans Or.comm⟩
theorem star_assoc {F : Nat → Prop} (h : star (star P Q) R w F) : star P (star Q R) w F := by
  obtain ⟨X, C, ⟨A, B, hp, hq, hd, hX⟩, hr, hd', hF⟩ := h
  refine ⟨A, fun k => B k ∨ C k, hp, ⟨B, C, hq, hr, fun k hb hc => hd' k ((hX k).2 (Or.inr hb)) hc, fun _ => Iff.rfl⟩, fun k ha hbc => ?_, fun k => ?_⟩
  · rcases hbc with hb | hc
    · exact hd k ha hb
    · exact hd' k ((hX k).2 (Or.inl ha)) hc
  · rw [hF k, hX k, or_assoc]
theorem star_assoc' {F : Nat → Prop} (h : star P (star Q R) w F) : star (star P Q) R w F := by
  obtain ⟨A, X, hp, ⟨B, C, hq, hr, hd, hX⟩, hd', hF⟩ := h
  refine ⟨fun k => A k ∨ B k, C, ⟨A, B, hp, hq, fun k ha hb => hd' k ha ((hX k).2 (Or.inl hb)), fun _ => Iff.rfl⟩, hr, fun k hab hc => ?_, fun k => ?_⟩
  · rcases hab with ha | hb
    · exact hd' k ha ((hX k).2 (Or.inr hc))
    · exact hd k hb hc
  · rw [hF k, hX k, or_assoc]
theorem star_swap {F : Nat → Prop} (h : star P (star Q R) w F) : star Q (star P R) w F := by
  obtain ⟨A, B, hp, hr, hd, hF⟩ := star_assoc' h
  exact star_assoc ⟨A, B, star_comm hp, hr, hd, hF⟩
theorem star_mono {F : Nat → Prop} (hi : ∀ F, Q w F → R w F) (h : star P Q w F) : star P R w F := by
  obtain ⟨A, B, hp, hq, r⟩ := h
  exact ⟨A, B, hp, hi B hq, r⟩

theorem Turns.chg (h : Turns F0 w0 w P) : Chg F0 w0 w := by obtain ⟨_, _, hc, _⟩ := h; exact hc
theorem Turns.size (h : Turns F0 w0 w P) : w0.heap.size ≤ w.heap.size := h.chg.size
theorem Turns.below (h : St w0 w P) : Below w0.heap.size w0 w := h.chg.below (fun _ _ h => h.elim) (Nat.le_refl _)
theorem St.start (w0 w : World) (hb : Below w0.heap.size w0 w) : St w0 w nothing := ⟨fun _ => False, fun _ h => h, Chg.of_below hb, fun _ h => h.elim⟩
/-- A call's own thing, as the call begins. -/
theorem Turns.begin {F : Nat → Prop} (h : P w F) : Turns F w w P := ⟨F, h, Chg.refl _ _, fun _ hk => Or.inl hk⟩
theorem Turns.imp (h : Turns F0 w0 w P) (hi : ∀ F, P w F → Q w F) : Turns F0 w0 w Q := by
  obtain ⟨F, hp, r⟩ := h
  exact ⟨F, hi F hp, r⟩
theorem Turns.ex {ι : Type} {P : ι → HP} (h : Turns F0 w0 w (fun w F => ∃ i, P i w F)) : ∃ i, Turns F0 w0 w (P i) := by
  obtain ⟨F, ⟨i, hp⟩, r⟩ := h
  exact ⟨i, F, hp, r⟩
theorem Turns.and {φ : Prop} (h : Turns F0 w0 w (fun w F => φ ∧ P w F)) : φ ∧ Turns F0 w0 w P := by
  obtain ⟨F, ⟨h1, hp⟩, r⟩ := h
  exact ⟨h1, F, hp, r⟩
/-- What happened ahead of it. -/
theorem Turns.after {w1 w2 : World} (hc : Chg F0 w w1) (h : Turns F0 w1 w2 Q) : Turns F0 w w2 Q := by
  obtain ⟨F', h1, h2, h3⟩ := h
  exact ⟨F', h1, hc.trans h2 (fun _ _ h => h), fun k hk => (h3 k hk).imp id (Nat.le_trans hc.size)⟩
/-- A step of the first thing; the rest stays. -/
theorem Turns.step (h : Turns F0 w0 w (star P R)) [hR : Stable R] (hs : ∀ F, P w F → Turns F w w' Q) : Turns F0 w0 w' (star Q R) := by
  obtain ⟨F, ⟨A, B, hp, hr, hd, hF⟩, hb, hF0⟩ := h
  obtain ⟨A', hq, hc, hn⟩ := hs A hp
  have hA0 : ∀ k, A k → F0 k ∨ w0.heap.size ≤ k := fun k hk => hF0 k ((hF k).2 (Or.inl hk))
  refine ⟨fun k => A' k ∨ B k, ⟨A', B, hq, hR.keep hr hc (fun k hb ha => hd k ha hb), fun k ha hb' => ?_, fun _ => Iff.rfl⟩, hb.trans hc (fun i hi hf => (hA0 i hf).elim id (fun h => by omega)), fun k hk => ?_⟩
  · rcases hn k ha with h | h
    · exact hd k h hb'
    · have := hR.lt hr k hb'; omega
  · rcases hk with h | h
    · exact (hn k h).elim (hA0 k) (fun h => Or.inr (Nat.le_trans hb.size h))
    · exact hF0 k ((hF k).2 (Or.inr h))
/-- A step of one thing alone. -/
theorem Turns.step1 (h : Turns F0 w0 w P) (hs : ∀ F, P w F → Turns F w w' Q) : Turns F0 w0 w' Q := by
  obtain ⟨F, hp, hb, hF0⟩ := h
  obtain ⟨F', hq, hc, hn⟩ := hs F hp
  exact ⟨F', hq, hb.trans hc (fun i hi hf => (hF0 i hf).elim id (fun h => by omega)), fun k hk => (hn k hk).elim (hF0 k) (fun h => Or.inr (Nat.le_trans hb.size h))⟩
theorem Turns.comm (h : Turns F0 w0 w (star P Q)) : Turns F0 w0 w (star Q P) := h.imp fun _ => star_comm
theorem Turns.assoc (h : Turns F0 w0 w (star (star P Q) R)) : Turns F0 w0 w (star P (star Q R)) := h.imp fun _ => star_assoc
theorem Turns.assoc' (h : Turns F0 w0 w (star P (star Q R))) : Turns F0 w0 w (star (star P Q) R) := h.imp fun _ => star_assoc'
/-- The second of three to the front. -/
theorem Turns.swap (h : Turns F0 w0 w (star P (star Q R))) : Turns F0 w0 w (star Q (star P R)) := h.imp fun _ => star_swap
/-- The third to the front; and back. -/
theorem Turns.third (h : Turns F0 w0 w (star P (star Q (star R S)))) : Turns F0 w0 w (star R (star P (star Q S))) := h.assoc'.swap.imp fun _ => star_mono fun _ => star_assoc
theorem Turns.third' (h : Turns F0 w0 w (star R (star P (star Q S)))) : Turns F0 w0 w (star P (star Q (star R S))) := h.swap.imp fun _ => star_mono fun _ => star_swap
/-- The last of three to the front; and back. -/
theorem Turns.last (h : Turns F0 w0 w (star P (star Q R))) : Turns F0 w0 w (star R (star P Q)) := h.assoc'.comm
theorem Turns.last' (h : Turns F0 w0 w (star R (star P Q))) : Turns F0 w0 w (star P (star Q R)) := h.comm.assoc
theorem Turns.fst (h : Turns F0 w0 w (star P Q)) : Turns F0 w0 w P := by
  obtain ⟨F, ⟨A, B, hp, _, _, hF⟩, hb, hF0⟩ := h
  exact ⟨A, hp, hb, fun k hk => hF0 k ((hF k).2 (Or.inl hk))⟩
theorem Turns.snd (h : Turns F0 w0 w (star P Q)) : Turns F0 w0 w Q := h.comm.fst
theorem Turns.one (h : Turns F0 w0 w (star P nothing)) : Turns F0 w0 w P := h.fst
theorem Turns.pad (h : Turns F0 w0 w P) : Turns F0 w0 w (star P nothing) := by
  refine h.imp fun F hp => ⟨F, fun _ => False, hp, fun _ h => h, fun _ _ h => h, fun k => ?_⟩
  simp
theorem Turns.pad0 (h : Turns F0 w0 w P) : Turns F0 w0 w (star nothing P) := h.pad.comm
/-- New memory alone: all stays. -/
theorem Turns.more (h : Turns F0 w0 w P) [hP : Stable P] (hb : Below w.heap.size w w') : Turns F0 w0 w' P := by
  obtain ⟨F, hp, hc, hF⟩ := h
  exact ⟨F, hP.keep hp (Chg.of_below (F := fun _ => False) hb) (fun _ _ h => h), hc.trans (Chg.of_below (F := fun _ => False) hb) (fun _ _ h => h.elim), hF⟩
theorem Turns.alloc (h : Turns F0 w0 w P) [hP : Stable P] (o : Obj) : Turns F0 w0 (w.alloc o) P := h.more ((Below.refl _ _).alloc (Nat.le_refl _) o)
theorem Turns.drew (h : Turns F0 w0 w P) [hP : Stable P] : Turns F0 w0 w.drew P := h.more (Below.refl _ _).drew
/-- A thing that was just made, in new memory. -/
theorem Turns.add (h : Turns F0 w0 w P) [hP : Stable P] (hb : Below w.heap.size w w') {F : Nat → Prop} (hq : Q w' F) (hF : ∀ k, F k → w.heap.size ≤ k) : Turns F0 w0 w' (star Q P) := by
  obtain ⟨A, hp, hc, hA⟩ := h
  refine ⟨fun k => F k ∨ A k, ⟨F, A, hq, hP.keep hp (Chg.of_below (F := fun _ => False) hb) (fun _ _ h => h), fun k hf ha => ?_, fun _ => Iff.rfl⟩, hc.trans (Chg.of_below (F := fun _ => False) hb) (fun _ _ h => h.elim), fun k hk => ?_⟩
  · have h1 := hP.lt hp k ha; have h2 := hF k hf; omega
  · exact hk.elim (fun h => Or.inr (Nat.le_trans hc.size (hF k h))) (hA k)
/-- A call that turns the first thing. -/
theorem Turns.call {prog : Program} {f : FuncId} {args : Array Value} {Q : Ending → HP} (h : Turns F0 w0 w (star P R)) [hR : Stable R] (hc : ∀ F, P w F → Calls prog f args w fun e w' => Turns F w w' (Q e)) :
    Calls prog f args w fun e w' => Turns F0 w0 w' (star (Q e) R) := by
  obtain ⟨F, ⟨A, B, hp, hr, hd, hF⟩, hb, hF0⟩ := h
  refine (hc A hp).mono fun e w' ht => ?_
  exact Turns.step (P := fun w F' => P w F' ∧ F' = A) ⟨F, ⟨A, B, ⟨hp, rfl⟩, hr, hd, hF⟩, hb, hF0⟩ (fun F' h => by obtain ⟨_, rfl⟩ := h; exact ht)
theorem Turns.call1 {prog : Program} {f : FuncId} {args : Array Value} {Q : Ending → HP} (h : Turns F0 w0 w P) (hc : ∀ F, P w F → Calls prog f args w fun e w' => Turns F w w' (Q e)) :
    Calls prog f args w fun e w' => Turns F0 w0 w' (Q e) := by
  obtain ⟨F, hp, hb, hF0⟩ := h
  refine (hc F hp).mono fun e w' ht => ?_
  exact Turns.step1 (P := fun w F' => P w F' ∧ F' = F) ⟨F, ⟨hp, rfl⟩, hb, hF0⟩ (fun F' h => by obtain ⟨_, rfl⟩ := h; exact ht)
end
/-- The first two of four go behind the others. -/
theorem Turns.flip4 {F0 : Nat → Prop} {w0 w : World} {A B C D R : HP} (h : Turns F0 w0 w (star A (star B (star C (star D R))))) : Turns F0 w0 w (star C (star D (star A (star B R)))) :=
  h.imp fun _ hp => star_mono (fun _ => star_mono fun _ => star_assoc) (star_mono (fun _ => star_swap) (star_swap (star_assoc' hp)))

end Go.Proofs.Ytkbebllkjmccoaa
