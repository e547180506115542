/- A region that draws its order, walked by what holds whenever a set of operations is done, not by each order. Conditions: as each says. -/
import Derived.Test.YtlodklmcamanpaaSep
import Derived.RegionTactic
namespace Go.Proofs.Ytlodklmcamanpaa
open Go.RowKit Go.WideShapes

/-- I k says what holds while k operations are still to come: each that may come up leads on; at the end the rest of the region holds. -/
theorem wpAny_dag {P : Program} {md : Region.Mode} {ops : Array Oper} {Q : Exit → Act → World → Prop} {fuel : Nat} (I : Nat → Array Bool → Act → World → Prop)
    (step : ∀ k listed a w, I (k + 1) listed a w → ∃ rs, Region.ready md ops listed = rs ∧ rs ≠ [] ∧ ∀ i ∈ rs, wpOp P ops Q i (fun a' w' => I k (listed.setIfInBounds i true) a' w') a w)
    (done : ∀ listed a w, I 0 listed a w → wpAny P md ops Q fuel listed a w) : ∀ k listed a w, I k listed a w → wpAny P md ops Q (fuel + k) listed a w := by
  intro k
  induction k with
  | zero => intro listed a w h; exact done listed a w h
  | succ k ih =>
    intro listed a w h
    obtain ⟨rs, h1, h2, h3⟩ := step k listed a w h
    exact wpAny_all h1 h2 (fun i hi => wpOp_mono (fun a' w' h' => ih _ _ _ h') (h3 i hi))
theorem wpAny_dag0 {P : Program} {md : Region.Mode} {ops : Array Oper} {Q : Exit → Act → World → Prop} {L0 : Array Bool} {a0 : Act} {w : World} (fuel k : Nat) (I : Array Bool → Act → Nat → Array Bool → Act → World → Prop) (h0 : I L0 a0 k L0 a0 w)
    (step : ∀ k listed a w, I L0 a0 (k + 1) listed a w → ∃ rs, Region.ready md ops listed = rs ∧ rs ≠ [] ∧ ∀ i ∈ rs, wpOp P ops Q i (fun a' w' => I L0 a0 k (listed.setIfInBounds i true) a' w') a w)
    (done : ∀ listed a w, I L0 a0 0 listed a w → wpAny P md ops Q fuel listed a w) : wpAny P md ops Q (fuel + k) L0 a0 w := wpAny_dag (I L0 a0) step done k L0 a0 w h0
end Go.Proofs.Ytlodklmcamanpaa
