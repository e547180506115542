/- A function's region, taken out of its translation by its number, so that a drawn region can be a theorem of its own. No conditions. -/
import Derived.Test.YtkbebllkjmccoaaProg
namespace Go.Proofs.Ytkbebllkjmccoaa
open Go

/-- The region of that number in a text. -/
def regionIn (k : Nat) : Code → Option Code
  | .region id ops b => if id = k then some (.region id ops b) else none
  | .seq a b => match regionIn k a with
    | some c => some c
    | none => regionIn k b
  | .loop c => regionIn k c
  | .block _ c => regionIn k c
  | .scope c => regionIn k c
  | .cond _ a b => match regionIn k a with
    | some c => some c
    | none => regionIn k b
  | _ => none
noncomputable def regionOf (f : Func) (k : Nat) : Code := (f.body.bind (regionIn k)).getD .skip
end Go.Proofs.Ytkbebllkjmccoaa
