/- A map whose elements are told as the values that they are, as a thing that lies apart: what each key has, and how many keys there are. Conditions: as each says. -/
import Derived.Test.YtnicfhafepiknaaSep
import Derived.Maps.OwnSet
import Derived.Maps.OwnOps
import Derived.Maps.Views
import Derived.Lib.SlKeysI
namespace Go.Proofs.Ytnicfhafepiknaa
open Go.RowKit Go.WideShapes

/-- An element is read as the value that it is. -/
def heldV (v : Value) : Option (DataW Value × List MemPlace) := some (.held v, [])
/-- A key is given a value. -/
def upV (f : Lit → Option Value) (k : Lit) (c : Value) : Lit → Option Value := fun x => if x.sameKey k then some c else f x
theorem upV_same (f : Lit → Option Value) {k : Lit} {c : Value} (h : WideAt.IsKeyLit k) : upV f k c k = some c := by simp [upV, WideAt.sameKey_self h]
theorem upV_other (f : Lit → Option Value) {k x : Lit} (c : Value) (h : x ≠ k) : upV f k c x = f x := by simp [upV, Maps.sameKey_ne h]

/-- D has, of each key, what f says. -/
def ReadsV (D : DataW Value) (f : Lit → Option Value) (n : Nat) : Prop :=
  Maps.Tidy D ∧ Maps.size D = n ∧ ∀ k, WideAt.IsKeyLit k → (∀ z, D.atKey k (.held z) = .held ((f k).getD z)) ∧ Maps.has D k = (f k).isSome
theorem ReadsV.put {D : DataW Value} {f : Lit → Option Value} {n : Nat} (h : ReadsV D f n) {k : Lit} (hk : WideAt.IsKeyLit k) (c : Value) :
    ReadsV (D.put k (.held c)) (upV f k c) (if (f k).isSome then n else n + 1) := by
  refine ⟨h.1.put hk _, ?_, fun x hx => ?_⟩
  · rw [Maps.size_put h.1, (h.2.2 k hk).2, h.2.1]
  · by_cases e : x = k
    · subst e
      rw [upV_same f hk]
      exact ⟨fun z => Maps.atKey_put_same h.1.isMap hk _ _, by rw [Maps.has_put_same h.1.isMap hk]; rfl⟩
    · rw [upV_other f c e]
      exact ⟨fun z => by rw [Maps.atKey_put_other e]; exact (h.2.2 x hx).1 z, by rw [Maps.has_put_other e]; exact (h.2.2 x hx).2⟩
theorem ReadsV.congr {D : DataW Value} {f g : Lit → Option Value} {n : Nat} (h : ReadsV D f n) (e : ∀ k, WideAt.IsKeyLit k → f k = g k) : ReadsV D g n :=
  ⟨h.1, h.2.1, fun k hk => by rw [← e k hk]; exact h.2.2 k hk⟩

/-- Block b of w is a map with keys of type tk: key k has f k; it has n keys. -/
def OwnV (w : World) (tk : TypeId) (b : Nat) (f : Lit → Option Value) (n : Nat) : Prop := ∃ D : DataW Value, w.ownsMap Try.prog tk heldV b n D ∧ ReadsV D f n
theorem OwnV.lt {w : World} {tk : TypeId} {b n : Nat} {f : Lit → Option Value} (h : OwnV w tk b f n) : b < w.heap.size := by
  obtain ⟨D, h, _⟩ := h
  exact h.lt
theorem OwnV.keep {w w' : World} {tk : TypeId} {b n : Nat} {f : Lit → Option Value} (h : OwnV w tk b f n) (e : w'.heap[b]? = w.heap[b]?) : OwnV w' tk b f n := by
  obtain ⟨D, ⟨es, clock, hb, r2⟩, r⟩ := h
  exact ⟨D, ⟨es, clock, e.trans hb, r2⟩, r⟩
theorem OwnV.chg {w w' : World} {G : Nat → Prop} {tk : TypeId} {b n : Nat} {f : Lit → Option Value} (h : OwnV w tk b f n) (hc : Chg G w w') (hG : ¬ G b) : OwnV w' tk b f n :=
  h.keep (hc.block b h.lt hG)
theorem OwnV.congr {w : World} {tk : TypeId} {b n : Nat} {f g : Lit → Option Value} (h : OwnV w tk b f n) (e : ∀ k, WideAt.IsKeyLit k → f k = g k) : OwnV w tk b g n := by
  obtain ⟨D, h, r⟩ := h
  exact ⟨D, h, r.congr e⟩
theorem OwnV.made (w : World) (tk : TypeId) : OwnV (w.alloc (.map #[] 0)) tk w.heap.size (fun _ => none) 0 :=
  ⟨.map [], World.ownsMap_made _ _ _ _, Maps.tidy_empty, rfl, fun _ _ => ⟨fun _ => rfl, rfl⟩⟩
/-- 'm[k]'. -/
theorem OwnV.look {w : World} {tk te tm : TypeId} {b n : Nat} {f : Lit → Option Value} {key z : Value} {kl : Lit} (h : OwnV w tk b f n) (K : Maps.Keyed Try.prog tk) (ht : Try.prog.underlying tm = some (.map tk te)) (hz : (zeroValue te).run Try.prog w = .ok z w) (hkey : keyOf Try.prog tk key = some kl) (hk : WideAt.IsKeyLit kl) :
    (Instr.lookup tm (.map (some b)) key false).run Try.prog w = .ok ((f kl).getD z) w := by
  obtain ⟨D, hown, _, _, hat⟩ := h
  obtain ⟨v, ps, hr, hv⟩ := hown.lookup K ht hz (zd := .held z) (zp := []) rfl hkey
  rw [(hat kl hk).1] at hv
  unfold heldV at hv
  simp only [Option.some.injEq, Prod.mk.injEq, DataW.held.injEq] at hv
  rw [hr, hv.1]
/-- 'v, ok := m[k]'. -/
theorem OwnV.lookok {w : World} {tk te tm : TypeId} {b n : Nat} {f : Lit → Option Value} {key z : Value} {kl : Lit} (h : OwnV w tk b f n) (K : Maps.Keyed Try.prog tk) (ht : Try.prog.underlying tm = some (.map tk te)) (hz : (zeroValue te).run Try.prog w = .ok z w) (hkey : keyOf Try.prog tk key = some kl) (hk : WideAt.IsKeyLit kl) :
    (Instr.lookup tm (.map (some b)) key true).run Try.prog w = .ok (.tuple #[(f kl).getD z, .bool (f kl).isSome]) w := by
  obtain ⟨D, hown, _, _, hat⟩ := h
  obtain ⟨v, ps, hr, hv⟩ := hown.look_ok K ht hz (zd := .held z) (zp := []) rfl hkey
  rw [(hat kl hk).1] at hv
  unfold heldV at hv
  simp only [Option.some.injEq, Prod.mk.injEq, DataW.held.injEq] at hv
  rw [hr, hv.1, (hat kl hk).2]
/-- 'm[k] = v'. -/
theorem OwnV.put {w : World} {tk te tm : TypeId} {b n : Nat} {f : Lit → Option Value} {key val : Value} {kl : Lit} (h : OwnV w tk b f n) (K : Maps.Keyed Try.prog tk) (ht : Try.prog.underlying tm = some (.map tk te)) (hn : n < maxLen) (hkey : keyOf Try.prog tk key = some kl) (hk : WideAt.IsKeyLit kl) :
    ∃ w', (Instr.mapUpdate tm (.map (some b)) key val).run Try.prog w = .ok () w' ∧ OwnV w' tk b (upV f kl val) (if (f kl).isSome then n else n + 1) ∧ w.grownBy w' (some b) := by
  obtain ⟨D, hown, hr⟩ := h
  obtain ⟨w', h1, h2, h3⟩ := hown.update K ht hn hkey (val := val) (d := .held val) (ps := []) rfl
  have h4 := hr.put hk val
  refine ⟨w', h1, ⟨_, ?_, h4⟩, h3⟩
  obtain ⟨es, clock, hb, hfit, hsz, hrd⟩ := h2
  refine ⟨es, clock, hb, hfit, ?_, hrd⟩
  have e2 : Maps.size (D.put kl (.held val)) = es.size := by
    rw [hrd, Maps.size_eq, length_sorted, List.length_map, Array.length_toList]
  rw [← h4.2.1, e2]
  exact Nat.le_refl _

/-- .. as a thing that lies apart. -/
def MV (tk : TypeId) (b : Nat) (f : Lit → Option Value) (n : Nat) : HP := fun w F => OwnV w tk b f n ∧ (∀ k, F k ↔ k = b)
instance MV.stable (tk : TypeId) (b : Nat) (f : Lit → Option Value) (n : Nat) : Stable (MV tk b f n) where
  lt := fun ⟨h, hF⟩ k hk => by rw [(hF k).1 hk]; exact h.lt
  keep := fun ⟨h, hF⟩ hc hd => ⟨h.chg hc (hd _ ((hF _).2 rfl)), hF⟩
theorem MV.made (w : World) (tk : TypeId) : MV tk w.heap.size (fun _ => none) 0 (w.alloc (.map #[] 0)) (fun k => k = w.heap.size) := ⟨OwnV.made w tk, fun _ => Iff.rfl⟩
section
variable {F0 : Nat → Prop} {w0 w : World} {tk : TypeId} {b n : Nat} {f g : Lit → Option Value} {R : HP}
theorem Turns.mv (h : Turns F0 w0 w (star (MV tk b f n) R)) : OwnV w tk b f n := by
  obtain ⟨F, ⟨A, B, hp, _⟩, _⟩ := h
  exact hp.1
theorem Turns.mv_congr (h : Turns F0 w0 w (star (MV tk b f n) R)) (e : ∀ k, WideAt.IsKeyLit k → f k = g k) : Turns F0 w0 w (star (MV tk b g n) R) := by
  obtain ⟨F, ⟨A, B, hp, r⟩, r2⟩ := h
  exact ⟨F, ⟨A, B, ⟨hp.1.congr e, hp.2⟩, r⟩, r2⟩
/-- The map has been written, and nothing else. -/
theorem Turns.mv_put [hR : Stable R] {w' : World} {g : Lit → Option Value} {m : Nat} (h : Turns F0 w0 w (star (MV tk b f n) R)) (hown : OwnV w' tk b g m) (hg : w.grownBy w' (some b)) :
    Turns F0 w0 w' (star (MV tk b g m) R) :=
  h.step fun F hp => ⟨F, ⟨hown, hp.2⟩, (Chg.refl _ _).grown hg (fun k hk _ => by cases hk; exact (hp.2 b).2 rfl), fun k hk => Or.inl hk⟩
end

/-- The keys of a map of ints. -/
theorem intKeys_mem {D : DataW Value} {f : Lit → Option Value} {n : Nat} (h : ReadsV D f n) (hk : ∀ es, D = .map es → ∀ p ∈ es, ∃ x, p.1 = .int .i64 x ∧ (Lit.int .i64 x).wf = true) :
    (intKeys D).Nodup ∧ (intKeys D).length = n ∧ ∀ x, x ∈ intKeys D ↔ (f (.int .i64 x)).isSome = true := by
  obtain ⟨⟨es, rfl, hd⟩, hn, hat⟩ := h
  have hk := hk es rfl
  have hmem : ∀ x, x ∈ intKeys (.map es) ↔ Maps.has (.map es) (.int .i64 x) = true := fun x => by
    rw [Maps.has_eq, List.any_eq_true]
    show x ∈ es.map (fun p => intOf p.1) ↔ _
    rw [List.mem_map]
    constructor
    · rintro ⟨p, hp, rfl⟩
      obtain ⟨a, ha, _⟩ := hk p hp
      exact ⟨p, hp, by rw [ha]; simp [Lit.sameKey, intOf]⟩
    · rintro ⟨p, hp, hs⟩
      obtain ⟨a, ha, _⟩ := hk p hp
      rw [ha] at hs
      exact ⟨p, hp, by rw [ha]; simpa [Lit.sameKey, intOf] using hs⟩
  refine ⟨?_, ?_, fun x => ?_⟩
  · show (es.map fun p => intOf p.1).Nodup
    refine List.pairwise_map.2 (hd.imp_of_mem fun {p q} hp hq hne e => hne ?_)
    obtain ⟨a, ha, _⟩ := hk p hp
    obtain ⟨b, hb, _⟩ := hk q hq
    rw [ha, hb] at e ⊢
    exact congrArg _ e
  · rw [← hn]
    show (es.map fun p => intOf p.1).length = es.length
    simp
  · rw [hmem x, (hat (.int .i64 x) trivial).2]
end Go.Proofs.Ytnicfhafepiknaa
