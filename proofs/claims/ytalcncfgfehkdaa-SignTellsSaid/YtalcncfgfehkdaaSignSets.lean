/- The book as it lies in memory: a map from each digest to the set of those who signed it, as things that lie apart. Conditions: as each says. -/
import Derived.Test.YtalcncfgfehkdaaSignApi
import Derived.Test.YtalcncfgfehkdaaMapV
import Derived.Test.YtalcncfgfehkdaaBlk
import Derived.IntWalk
import Derived.WalkArith
namespace Go.Proofs.Ytalcncfgfehkdaa
open Go.RowKit Go.WideShapes

/-- The digests that somebody signed. -/
def digs (L : List (Int × Int)) : List Int := L.map (·.2)
theorem mem_digs {L : List (Int × Int)} {d : Int} : d ∈ digs L ↔ ∃ x, (x, d) ∈ L := by
  unfold digs
  rw [List.mem_map]
  constructor
  · rintro ⟨⟨x, y⟩, h, rfl⟩
    exact ⟨x, h⟩
  · rintro ⟨x, h⟩
    exact ⟨_, h, rfl⟩
theorem digs_old {L : List (Int × Int)} {who d : Int} (h : d ∈ digs L) (x : Int) : x ∈ digs (signAdd L (who, d)) ↔ x ∈ digs L := by
  rw [mem_digs, mem_digs]
  constructor
  · rintro ⟨y, hy⟩
    rcases mem_signAdd.1 hy with e | hy
    · injection e with _ e
      subst e
      exact mem_digs.1 h
    · exact ⟨y, hy⟩
  · rintro ⟨y, hy⟩
    exact ⟨y, mem_signAdd.2 (Or.inr hy)⟩
theorem digs_new {L : List (Int × Int)} {who d : Int} (x : Int) : x ∈ digs (signAdd L (who, d)) ↔ x = d ∨ x ∈ digs L := by
  rw [mem_digs, mem_digs]
  constructor
  · rintro ⟨y, hy⟩
    rcases mem_signAdd.1 hy with e | hy
    · injection e with _ e
      exact Or.inl e
    · exact Or.inr ⟨y, hy⟩
  · rintro (rfl | ⟨y, hy⟩)
    · exact ⟨who, mem_signAdd.2 (Or.inl rfl)⟩
    · exact ⟨y, mem_signAdd.2 (Or.inr hy)⟩

/-- Block b is the set of those who signed d. -/
def SetOf (w : World) (b : Nat) (L : List (Int × Int)) (d : Int) : Prop := ∃ f n, OwnV w 3 b f n ∧ n ≤ L.length ∧ ∀ x, f (.int .i64 x) = if (x, d) ∈ L then some (.agg #[]) else none
/-- The set of one digest is in another block. -/
def upK (κ : Int → Nat) (d : Int) (b : Nat) : Int → Nat := fun x => if x = d then b else κ x
theorem upK_same (κ : Int → Nat) (d : Int) (b : Nat) : upK κ d b d = b := if_pos rfl
theorem upK_other (κ : Int → Nat) {d x : Int} (b : Nat) (h : x ≠ d) : upK κ d b x = κ x := if_neg h
/-- A set for each digest, each in a block of its own. -/
def Sets (κ : Int → Nat) (L : List (Int × Int)) : HP := fun w F =>
  (∀ d ∈ digs L, SetOf w (κ d) L d) ∧ (∀ d ∈ digs L, ∀ d' ∈ digs L, κ d = κ d' → d = d') ∧ ∀ k, F k ↔ ∃ d ∈ digs L, κ d = k
instance Sets.stable (κ : Int → Nat) (L : List (Int × Int)) : Stable (Sets κ L) where
  lt := fun ⟨h, _, hF⟩ k hk => by
    obtain ⟨d, hd, rfl⟩ := (hF k).1 hk
    obtain ⟨f, n, ho, _⟩ := h d hd
    exact ho.lt
  keep := fun ⟨h, hi, hF⟩ hc hG => ⟨fun d hd => by
    obtain ⟨f, n, ho, r⟩ := h d hd
    exact ⟨f, n, ho.chg hc (hG _ ((hF _).2 ⟨d, hd, rfl⟩)), r⟩, hi, hF⟩
theorem Sets.none (w : World) (κ : Int → Nat) : Sets κ [] w (fun _ => False) := ⟨fun d hd => absurd hd (by simp [digs]), fun d hd => absurd hd (by simp [digs]), fun k => by simp [digs]⟩

theorem wf_i64 {n : Int} (h : I64 n) : (Lit.int .i64 n).wf = true := WalkArith.wf_i64 (by have := h.1; have := h.2; omega)
theorem key_int {n : Int} (h : I64 n) : keyOf Try.prog 3 (.int .i64 n) = some (.int .i64 n) := Maps.keyOf_int_mk Try.underlying3 (wf_i64 h)
theorem zero_set (w : World) : (zeroValue 41).run Try.prog w = .ok (.map none) w := by kernel_rfl
theorem zero_unit (w : World) : (zeroValue 42).run Try.prog w = .ok (.agg #[]) w := by kernel_rfl

section
variable {F0 : Nat → Prop} {w0 w w' : World} {κ : Int → Nat} {L : List (Int × Int)} {R : HP} {d : Int}
theorem Turns.set_of (h : Turns F0 w0 w (star (Sets κ L) R)) (hd : d ∈ digs L) : SetOf w (κ d) L d := by
  obtain ⟨F, ⟨A, B, hp, _⟩, _⟩ := h
  exact hp.1 d hd
/-- One more signs what is signed already. -/
theorem Turns.set_put (h : Turns F0 w0 w (star (Sets κ L) R)) [hR : Stable R] (hd : d ∈ digs L) {who : Int} (hL : L.length ≤ 1000000) (hw : I64 who) :
    ∃ w', (Instr.mapUpdate 41 (.map (some (κ d))) (.int .i64 who) (.agg #[])).run Try.prog w = .ok () w' ∧ Turns F0 w0 w' (star (Sets κ (signAdd L (who, d))) R) := by
  obtain ⟨f, n, ho, hn, hf⟩ := h.set_of hd
  obtain ⟨w', hrun, ho', hg⟩ := ho.put (val := .agg #[]) (Maps.int_keyed Try.underlying3) Try.underlying41 (by unfold maxLen; omega) (key_int hw) trivial
  have hlen : L.length ≤ (signAdd L (who, d)).length := by unfold signAdd; split <;> simp
  refine ⟨w', hrun, h.step fun F hp => ⟨F, ⟨fun x hx => ?_, fun x hx y hy => hp.2.1 x ((digs_old hd x).1 hx) y ((digs_old hd y).1 hy), fun k => ?_⟩, (Chg.refl _ _).grown hg (fun k hk _ => by cases hk; exact (hp.2.2 _).2 ⟨d, hd, rfl⟩), fun k hk => Or.inl hk⟩⟩
  · have hx' := (digs_old hd x).1 hx
    by_cases e : x = d
    · subst e
      refine ⟨_, _, ho', ?_, fun y => ?_⟩
      · by_cases hm : (who, x) ∈ L
        · rw [signAdd_old hm, hf who, if_pos hm]
          exact hn
        · rw [signAdd_new hm, hf who, if_neg hm]
          simp only [Option.isSome_none, Bool.false_eq_true, if_false, List.length_append, List.length_cons, List.length_nil]
          omega
      · by_cases e2 : y = who
        · subst e2
          rw [upV_same f (show WideAt.IsKeyLit (.int .i64 y) from trivial), if_pos (mem_signAdd.2 (Or.inl rfl))]
        · rw [upV_other f _ (fun h => e2 (by injection h)), hf y]
          have : (y, x) ∈ signAdd L (who, x) ↔ (y, x) ∈ L := by
            rw [mem_signAdd]
            exact ⟨fun h => h.elim (fun h => absurd (Prod.mk.inj h).1 e2) id, Or.inr⟩
          simp only [this]
    · obtain ⟨g, m, hog, hm, hgx⟩ := hp.1 x hx'
      have hne : κ x ≠ κ d := fun h => e (hp.2.1 x hx' d hd h)
      refine ⟨g, m, hog.keep (hg.block _ hog.lt (fun h => hne (Option.some.inj h))), Nat.le_trans hm hlen, fun y => ?_⟩
      have : (y, x) ∈ signAdd L (who, d) ↔ (y, x) ∈ L := by
        rw [mem_signAdd]
        exact ⟨fun h => h.elim (fun h => absurd (Prod.mk.inj h).2 e) id, Or.inr⟩
      rw [hgx y]
      simp only [this]
  · rw [hp.2.2 k]
    exact ⟨fun ⟨x, hx, e⟩ => ⟨x, (digs_old hd x).2 hx, e⟩, fun ⟨x, hx, e⟩ => ⟨x, (digs_old hd x).1 hx, e⟩⟩
/-- The first who signs a digest: its set is new. -/
theorem Turns.set_new {b : Nat} {who : Int} {f : Lit → Option Value} {n : Nat} (h : Turns F0 w0 w (star (MV 3 b f n) (star (Sets κ L) R))) [hR : Stable R] (hd : d ∉ digs L) (hn : n ≤ 1) (hf : ∀ x, f (.int .i64 x) = if x = who then some (.agg #[]) else none) :
    Turns F0 w0 w (star (Sets (upK κ d b) (signAdd L (who, d))) R) := by
  refine h.assoc'.step fun F hp => ⟨F, ?_, Chg.refl _ _, fun k hk => Or.inl hk⟩
  obtain ⟨A, B, hm, hs, hdis, hF⟩ := hp
  have hnew : (who, d) ∉ L := fun h => hd (mem_digs.2 ⟨_, h⟩)
  have hbs : ∀ x ∈ digs L, κ x ≠ b := fun x hx e => hdis b ((hm.2 b).2 rfl) ((hs.2.2 b).2 ⟨x, hx, e⟩)
  have hne : ∀ x ∈ digs L, x ≠ d := fun x hx e => hd (e ▸ hx)
  have hlen : (signAdd L (who, d)).length = L.length + 1 := by rw [signAdd_new hnew]; simp
  refine ⟨fun x hx => ?_, fun x hx y hy => ?_, fun k => ?_⟩
  · rcases digs_new x |>.1 hx with rfl | hx
    · refine ⟨f, n, by rw [upK_same]; exact hm.1, by omega, fun y => ?_⟩
      rw [hf y]
      have : (y, x) ∈ signAdd L (who, x) ↔ y = who := by
        rw [mem_signAdd]
        exact ⟨fun h => h.elim (fun h => (Prod.mk.inj h).1) (fun h => absurd (mem_digs.2 ⟨_, h⟩) hd), fun h => Or.inl (by rw [h])⟩
      simp only [this]
    · obtain ⟨g, m, hog, hm', hgx⟩ := hs.1 x hx
      refine ⟨g, m, by rw [upK_other κ b (hne x hx)]; exact hog, by omega, fun y => ?_⟩
      have : (y, x) ∈ signAdd L (who, d) ↔ (y, x) ∈ L := by
        rw [mem_signAdd]
        exact ⟨fun h => h.elim (fun h => absurd (Prod.mk.inj h).2 (hne x hx)) id, Or.inr⟩
      rw [hgx y]
      simp only [this]
  · rcases digs_new x |>.1 hx with rfl | hx <;> rcases digs_new y |>.1 hy with rfl | hy
    · intro _; rfl
    · rw [upK_same, upK_other κ b (hne y (by assumption))]
      exact fun e => absurd e.symm (hbs y (by assumption))
    · rw [upK_same, upK_other κ b (hne x (by assumption))]
      exact fun e => absurd e (hbs x (by assumption))
    · rw [upK_other κ b (hne x (by assumption)), upK_other κ b (hne y (by assumption))]
      exact hs.2.1 x (by assumption) y (by assumption)
  · rw [hF k, hm.2 k, hs.2.2 k]
    constructor
    · rintro (rfl | ⟨x, hx, rfl⟩)
      · exact ⟨d, (digs_new d).2 (Or.inl rfl), upK_same κ d _⟩
      · exact ⟨x, (digs_new x).2 (Or.inr hx), upK_other κ b (hne x hx)⟩
    · rintro ⟨x, hx, e⟩
      rcases digs_new x |>.1 hx with rfl | hx
      · rw [upK_same] at e; exact Or.inl e.symm
      · rw [upK_other κ b (hne x hx)] at e; exact Or.inr ⟨x, hx, e⟩
end
end Go.Proofs.Ytalcncfgfehkdaa
