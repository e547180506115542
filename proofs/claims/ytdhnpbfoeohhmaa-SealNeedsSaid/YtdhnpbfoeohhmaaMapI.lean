/- A law's own map whose elements are ints, as a thing that lies apart: what each key has, and how many keys there are. Conditions: as each says. -/
import Derived.Test.YtdhnpbfoeohhmaaSep
import Derived.Maps.OwnSet
import Derived.Maps.OwnOps
import Derived.Maps.Views
namespace Go.Proofs.Ytdhnpbfoeohhmaa
open Go.RowKit Go.WideShapes

/-- A key is given a number. -/
def upM (f : Lit → Option Int) (k : Lit) (c : Int) : Lit → Option Int := fun x => if x.sameKey k then some c else f x
theorem upM_same (f : Lit → Option Int) {k : Lit} {c : Int} (h : WideAt.IsKeyLit k) : upM f k c k = some c := by simp [upM, WideAt.sameKey_self h]
theorem upM_other (f : Lit → Option Int) {k x : Lit} (c : Int) (h : x ≠ k) : upM f k c x = f x := by simp [upM, Maps.sameKey_ne h]

/-- Block b is a map with keys of type tk: key k has f k; it has n keys. -/
def MI (tk : TypeId) (b : Nat) (f : Lit → Option Int) (n : Nat) : HP := fun w F =>
  (∃ D : DataW Unit, w.ownsMap Try.prog tk (plainElem Try.prog 3) b n D ∧ Maps.Tidy D ∧ Maps.size D = n ∧ ∀ k, WideAt.IsKeyLit k → D.atKey k (.lit (.int .i64 0)) = .lit (.int .i64 ((f k).getD 0)) ∧ Maps.has D k = (f k).isSome) ∧ (∀ k, F k ↔ k = b)
instance MI.stable (tk : TypeId) (b : Nat) (f : Lit → Option Int) (n : Nat) : Stable (MI tk b f n) where
  lt := fun ⟨⟨_, h, _⟩, hF⟩ k hk => by rw [(hF k).1 hk]; exact h.lt
  keep := fun ⟨⟨D, h, r⟩, hF⟩ hc hd => by
    refine ⟨⟨D, ?_, r⟩, hF⟩
    have hlt := h.lt
    obtain ⟨es, clock, hb, r2⟩ := h
    exact ⟨es, clock, (hc.block _ hlt (hd _ ((hF _).2 rfl))).trans hb, r2⟩
theorem MI.made (w : World) (tk : TypeId) : MI tk w.heap.size (fun _ => none) 0 (w.alloc (.map #[] 0)) (fun k => k = w.heap.size) :=
  ⟨⟨.map [], World.ownsMap_made _ _ _ _, Maps.tidy_empty, rfl, fun _ _ => ⟨rfl, rfl⟩⟩, fun _ => Iff.rfl⟩
section
variable {F0 : Nat → Prop} {w0 w : World} {tk : TypeId} {b n : Nat} {f : Lit → Option Int} {R : HP}
/-- What the walk wants of it. -/
theorem Turns.mi (h : Turns F0 w0 w (star (MI tk b f n) R)) : ∃ D : DataW Unit, w.ownsMap Try.prog tk (plainElem Try.prog 3) b n D ∧ Maps.Tidy D ∧ Maps.size D = n ∧ ∀ k, WideAt.IsKeyLit k → D.atKey k (.lit (.int .i64 0)) = .lit (.int .i64 ((f k).getD 0)) ∧ Maps.has D k = (f k).isSome := by
  obtain ⟨F, ⟨A, B, hp, _⟩, _⟩ := h
  exact hp.1
theorem zero_int (w : World) : (zeroValue 3).run Try.prog w = .ok (.int .i64 0) w := by kernel_rfl
/-- What a key has, as the walk meets it. -/
theorem Turns.mi_look {tm : TypeId} {key : Value} {kl : Lit} (h : Turns F0 w0 w (star (MI tk b f n) R)) (K : Maps.Keyed Try.prog tk) (ht : Try.prog.underlying tm = some (.map tk 3)) (hkey : keyOf Try.prog tk key = some kl) (hk : WideAt.IsKeyLit kl) :
    (Instr.lookup tm (.map (some b)) key false).run Try.prog w = .ok (.int .i64 ((f kl).getD 0)) w := by
  obtain ⟨D, hown, _, _, hat⟩ := h.mi
  obtain ⟨c, hr, hc, _⟩ := hown.lookup_int K ht Try.underlying3 (zero_int w) hkey
  rw [(hat kl hk).1] at hc
  injection hc with hc
  injection hc with _ hc
  rw [hr, hc]
/-- .. with the word whether it is there. -/
theorem Turns.mi_lookok {tm : TypeId} {key : Value} {kl : Lit} (h : Turns F0 w0 w (star (MI tk b f n) R)) (K : Maps.Keyed Try.prog tk) (ht : Try.prog.underlying tm = some (.map tk 3)) (hkey : keyOf Try.prog tk key = some kl) (hk : WideAt.IsKeyLit kl) :
    (Instr.lookup tm (.map (some b)) key true).run Try.prog w = .ok (.tuple #[.int .i64 ((f kl).getD 0), .bool (f kl).isSome]) w := by
  obtain ⟨D, hown, _, _, hat⟩ := h.mi
  obtain ⟨v, ps, hr, hv⟩ := hown.look_ok K ht (zero_int w) (plainElem_int Try.underlying3 (by decide)) hkey
  obtain ⟨c, rfl, hc, _⟩ := plainElem_int_inv Try.underlying3 hv
  simp only [Prod.mk.injEq] at hc
  have h1 := hc.1
  rw [(hat kl hk).1] at h1
  injection h1 with h1
  injection h1 with _ h1
  rw [hr, (hat kl hk).2, h1]
theorem Turns.mi_lt (h : Turns F0 w0 w (star (MI tk b f n) R)) : b < w.heap.size := by
  obtain ⟨D, hown, _⟩ := h.mi
  exact hown.lt
/-- A key is given its number. -/
theorem Turns.mi_put [hR : Stable R] {w' : World} {D : DataW Unit} {k : Lit} {c : Int} (h : Turns F0 w0 w (star (MI tk b f n) R)) (hD : Maps.Tidy D ∧ Maps.size D = n ∧ ∀ k, WideAt.IsKeyLit k → D.atKey k (.lit (.int .i64 0)) = .lit (.int .i64 ((f k).getD 0)) ∧ Maps.has D k = (f k).isSome) (hk : WideAt.IsKeyLit k)
    (hown : w'.ownsMap Try.prog tk (plainElem Try.prog 3) b (n + 1) (D.put k (.lit (.int .i64 c)))) (hg : w.grownBy w' (some b)) :
    Turns F0 w0 w' (star (MI tk b (upM f k c) (if (f k).isSome then n else n + 1)) R) := by
  refine h.step fun F hp => ⟨F, ⟨⟨D.put k (.lit (.int .i64 c)), ?_, hD.1.put hk _, ?_, fun x hx => ?_⟩, hp.2⟩, ?_, fun k hk => Or.inl hk⟩
  · obtain ⟨es, clock, hb, hfit, hsz, hrd⟩ := hown
    refine ⟨es, clock, hb, hfit, ?_, hrd⟩
    have h1 := Maps.size_put (k := k) hD.1 (.lit (.int .i64 c))
    rw [(hD.2.2 k hk).2, hD.2.1] at h1
    have h2 : Maps.size (D.put k (.lit (.int .i64 c))) = es.size := by
      rw [hrd, Maps.size_eq, length_sorted, List.length_map, Array.length_toList]
    omega
  · rw [Maps.size_put hD.1, (hD.2.2 k hk).2, hD.2.1]
  · by_cases e : x = k
    · subst e
      rw [upM_same f hk]
      exact ⟨Maps.atKey_put_same hD.1.isMap hk _ _, by rw [Maps.has_put_same hD.1.isMap hk]; rfl⟩
    · rw [upM_other f c e]
      exact ⟨by rw [Maps.atKey_put_other e]; exact (hD.2.2 x hx).1, by rw [Maps.has_put_other e]; exact (hD.2.2 x hx).2⟩
  · exact (Chg.refl _ _).grown hg (fun k hk _ => by cases hk; exact (hp.2 b).2 rfl)
end
end Go.Proofs.Ytdhnpbfoeohhmaa
