/- A map whose elements are told as the values that they are: a key is taken out of it; it has as many keys as a rising row of them has. Conditions: as each says. -/
import Derived.Test.YtnicfhafepiknaaMapV
import Derived.Test.YtnicfhafepiknaaRising
import Derived.IntWalk
import Derived.WalkArith
namespace Go.Proofs.Ytnicfhafepiknaa
open Go.RowKit Go.WideShapes

theorem wf_i64 {n : Int} (h : I64 n) : (Lit.int .i64 n).wf = true := WalkArith.wf_i64 (by have := h.1; have := h.2; omega)
theorem key_int {n : Int} (h : I64 n) : keyOf Try.prog 3 (.int .i64 n) = some (.int .i64 n) := Maps.keyOf_int_mk Try.underlying3 (wf_i64 h)

/-- A set of ints has as many keys as a rising row of them has. -/
theorem OwnV.count {w : World} {b n : Nat} {f : Lit → Option Value} (h : OwnV w 3 b f n) {l : List Int} (hs : l.Pairwise (· < ·)) (hm : ∀ x, x ∈ l ↔ (f (.int .i64 x)).isSome = true) : n = l.length := by
  obtain ⟨D, hown, hr⟩ := h
  have hkeys : ∀ es, D = .map es → ∀ p ∈ es, ∃ x, p.1 = .int .i64 x ∧ (Lit.int .i64 x).wf = true := by
    rintro es rfl p hp
    obtain ⟨ms, clock, _, F, _, hD⟩ := hown
    have hp' : p ∈ ms.toList.map (WideElems.rg Try.prog 3 heldV) := by
      injection hD with hD
      rw [hD] at hp
      exact (WideShapes.sorted_perm _).mem_iff.1 hp
    obtain ⟨key, hk⟩ := Maps.fit_keys F p hp'
    obtain ⟨x, _, hx, hw⟩ := Maps.keyOf_i64 Try.underlying3 hk
    exact ⟨x, hx, hw⟩
  obtain ⟨hnd, hlen, hmem⟩ := intKeys_mem hr hkeys
  have hp : (intKeys D).Perm l := by
    refine (List.perm_ext_iff_of_nodup hnd ?_).2 fun x => (hmem x).trans (hm x).symm
    exact hs.imp fun {a b} h e => by omega
  rw [← hlen, hp.length_eq]

/-- A key is taken out. -/
def offV (f : Lit → Option Value) (k : Lit) : Lit → Option Value := fun x => if x.sameKey k then none else f x
theorem offV_same (f : Lit → Option Value) {k : Lit} (h : WideAt.IsKeyLit k) : offV f k k = none := by simp [offV, WideAt.sameKey_self h]
theorem offV_other (f : Lit → Option Value) {k x : Lit} (h : x ≠ k) : offV f k x = f x := by simp [offV, Maps.sameKey_ne h]
theorem ReadsV.del {D : DataW Value} {f : Lit → Option Value} {n : Nat} (h : ReadsV D f n) {k : Lit} (hk : WideAt.IsKeyLit k) :
    ReadsV (D.del k) (offV f k) (if (f k).isSome then n - 1 else n) := by
  refine ⟨h.1.del k, ?_, fun x hx => ?_⟩
  · have e := Maps.size_del (k := k) h.1
    rw [(h.2.2 k hk).2, h.2.1] at e
    split at e
    · next hs => rw [if_pos hs]; omega
    · next hs => rw [if_neg hs]; omega
  · by_cases e : x = k
    · subst e
      rw [offV_same f hk]
      exact ⟨fun z => Maps.atKey_del_same _, Maps.has_del_same⟩
    · rw [offV_other f e]
      exact ⟨fun z => by rw [Maps.atKey_del_other e]; exact (h.2.2 x hx).1 z, by rw [Maps.has_del_other e]; exact (h.2.2 x hx).2⟩
/-- 'delete(m, k)'. -/
theorem OwnV.drop {w : World} {tk te tm : TypeId} {b n : Nat} {f : Lit → Option Value} {key : Value} {kl : Lit} (h : OwnV w tk b f n) (K : Maps.Keyed Try.prog tk) (ht : Try.prog.underlying tm = some (.map tk te)) (hkey : keyOf Try.prog tk key = some kl) (hk : WideAt.IsKeyLit kl) (ty : TypeId) :
    ∃ w', (Builtin.delete_ #[tm, tk] ty #[.map (some b), key]).run Try.prog w = .ok (.tuple #[]) w' ∧ OwnV w' tk b (offV f kl) (if (f kl).isSome then n - 1 else n) ∧ w.grownBy w' (some b) := by
  obtain ⟨D, hown, hr⟩ := h
  obtain ⟨w', h1, h2, h3⟩ := hown.drop K ht hkey ty
  have h4 := hr.del hk
  refine ⟨w', h1, ⟨_, ?_, h4⟩, h3.grown⟩
  obtain ⟨es, clock, hb, hfit, hsz, hrd⟩ := h2
  refine ⟨es, clock, hb, hfit, ?_, hrd⟩
  have e2 : Maps.size (D.del kl) = es.size := by
    rw [hrd, Maps.size_eq, length_sorted, List.length_map, Array.length_toList]
  rw [← h4.2.1, e2]
  exact Nat.le_refl _
end Go.Proofs.Ytnicfhafepiknaa
