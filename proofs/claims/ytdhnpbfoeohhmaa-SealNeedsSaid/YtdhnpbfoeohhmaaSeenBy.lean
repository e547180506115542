/- A law's own map of who was seen, beside the pairs that were laid. No conditions but those that each names. -/
import Derived.Test.YtdhnpbfoeohhmaaRising
import Derived.Test.YtdhnpbfoeohhmaaMapI
namespace Go.Proofs.Ytdhnpbfoeohhmaa
open Go.RowKit Go.WideShapes

/-- The map has 1 for each who did what, and nothing else. -/
def SeenBy (what : Int) (L : List (Int × Int)) (f : Lit → Option Int) : Prop := ∀ x : Int, f (.int .i64 x) = if x ∈ allOf L what then some 1 else none
theorem seenBy_nil (what : Int) : SeenBy what [] (fun _ => none) := fun x => by simp [allOf]
theorem seenBy_put {what x : Int} {L : List (Int × Int)} {f : Lit → Option Int} (h : SeenBy what L f) : SeenBy what (signAdd L (x, what)) (upM f (.int .i64 x) 1) ∧
    (if (f (.int .i64 x)).isSome then (allOf L what).length else (allOf L what).length + 1) = (allOf (signAdd L (x, what)) what).length := by
  refine ⟨fun y => ?_, ?_⟩
  · have hmem : y ∈ allOf (signAdd L (x, what)) what ↔ y = x ∨ y ∈ allOf L what := by
      rw [mem_allOf, mem_signAdd, mem_allOf]
      simp
    by_cases e : y = x
    · subst e
      rw [upM_same f (show WideAt.IsKeyLit (.int .i64 y) from True.intro), if_pos (hmem.2 (Or.inl rfl))]
    · have hne : (Lit.int .i64 y) ≠ .int .i64 x := by
        intro h2
        injection h2 with _ h2
        exact e h2
      rw [upM_other f _ hne, h y]
      by_cases hm : y ∈ allOf L what
      · rw [if_pos hm, if_pos (hmem.2 (Or.inr hm))]
      · rw [if_neg hm, if_neg (fun h => (hmem.1 h).elim e hm)]
  · rw [h x]
    by_cases hm : x ∈ allOf L what
    · rw [if_pos hm, signAdd_old (mem_allOf.1 hm)]
      rfl
    · rw [if_neg hm, signAdd_new (fun hp => hm (mem_allOf.2 hp)), allOf_snoc, if_pos rfl, rising_new hm]
      rfl
theorem next_ne (n : Int) : wrap64 (n + 1) ≠ n ∧ I64 (wrap64 (n + 1)) := by
  unfold wrap64 I64
  omega
end Go.Proofs.Ytdhnpbfoeohhmaa
