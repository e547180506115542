/-
  No cell of these rows narrows 'for every input' (looked for: loops, veiled, ifaces, maps, wideKeys, modest, calm, conditions, laid).
  DERIVED. THE GIVEN ROWS OF THIS SEAT. 4 by the template 'for every input the law returns true; each argument reads behind the call as it read before'; 0 by the template 'total and deterministic' (their statements: YtkbebllkjmccoaaTotals.lean).
  GIVEN WITH THE SEED: the statements are not yours to turn. If you find one false, say at which input.
  Laid BY PROGRAM, IN A SANDBOX (cutbox-rows.mjs): the forced cells as the released guide's own fill.sh prints them over the translation ae72a0c08157b6e3… (all of the seat's roots in one cut). By AI agents, Wed Nov 11 2026. No macro, syntax, notation, axiom, sorry.
-/
import Derived.Test.YtkbebllkjmccoaaChecked
import GoSem.Claim
import GoSem.ClaimJoined
import GoSem.ClaimMapViews
import Derived.JoinedTies
import Derived.KernelRfl
namespace Go.Proofs.Ytkbebllkjmccoaa
/- THE CELL 'sum', in the pinned program and in every row, IS THE sha256 OF THE DUMP (.gsa) THAT YtkbebllkjmccoaaProg.lean LOADS. Nothing in Lean hashes anything: it is a label: what it is worth is what the hold of that sum in a sandbox is worth. -/
noncomputable def Try.pinned : Pinned := { name := "ytkbebllkjmccoaa", sum := "ae72a0c08157b6e37510e9d135c69ad4cf6e7a12c920ddebe0c282a42423db3a", checked := Try.checked }
namespace Rows
def none {H : Type} : Left H := { results := [], args := [] }

/-- 'tolseylaw8.PrioSorts': WHATEVER THE INPUT: true; the input reads as it did. -/
def prioSortsSpec : ChangeSpec := { name := "prioSorts", fn := fun _ => fun
  | [d1, d2, d3] => { results := [.lit (.bool true)], args := [d1, d2, d3] }
  | _ => none }
def prioSortsRow : OpenClaim := { program := "ytkbebllkjmccoaa", sum := "ae72a0c08157b6e37510e9d135c69ad4cf6e7a12c920ddebe0c282a42423db3a", func := "tolsey/tolseylaw8.PrioSorts", spec := "prioSorts", unfollowed := true, recurses := true, apart := false }
def PrioSortsSaid : Prop := prioSortsRow.holds Try.pinned (OpenSpec.ofChange prioSortsSpec)

/-- ITS FALSE NEIGHBOUR: 'it returns false'. Refute it at one input. -/
def prioSortsWrong : ChangeSpec := { name := "prioSorts", fn := fun _ => fun
  | [d1, d2, d3] => { results := [.lit (.bool false)], args := [d1, d2, d3] }
  | _ => none }
def PrioSortsWrongFalsely : Prop := prioSortsRow.holds Try.pinned (OpenSpec.ofChange prioSortsWrong)

/-- 'tolseylaw8.PrioRemoves': WHATEVER THE INPUT: true; the input reads as it did. -/
def prioRemovesSpec : ChangeSpec := { name := "prioRemoves", fn := fun _ => fun
  | [d1, d2, d3, d4] => { results := [.lit (.bool true)], args := [d1, d2, d3, d4] }
  | _ => none }
def prioRemovesRow : OpenClaim := { program := "ytkbebllkjmccoaa", sum := "ae72a0c08157b6e37510e9d135c69ad4cf6e7a12c920ddebe0c282a42423db3a", func := "tolsey/tolseylaw8.PrioRemoves", spec := "prioRemoves", unfollowed := true, recurses := true, apart := false }
def PrioRemovesSaid : Prop := prioRemovesRow.holds Try.pinned (OpenSpec.ofChange prioRemovesSpec)

/-- ITS FALSE NEIGHBOUR: 'it returns false'. Refute it at one input. -/
def prioRemovesWrong : ChangeSpec := { name := "prioRemoves", fn := fun _ => fun
  | [d1, d2, d3, d4] => { results := [.lit (.bool false)], args := [d1, d2, d3, d4] }
  | _ => none }
def PrioRemovesWrongFalsely : Prop := prioRemovesRow.holds Try.pinned (OpenSpec.ofChange prioRemovesWrong)

/-- 'tolseylaw8.PrioOwn': WHATEVER THE INPUT: true; the input reads as it did. -/
def prioOwnSpec : ChangeSpec := { name := "prioOwn", fn := fun _ => fun
  | [d1, d2, d3] => { results := [.lit (.bool true)], args := [d1, d2, d3] }
  | _ => none }
def prioOwnRow : OpenClaim := { program := "ytkbebllkjmccoaa", sum := "ae72a0c08157b6e37510e9d135c69ad4cf6e7a12c920ddebe0c282a42423db3a", func := "tolsey/tolseylaw8.PrioOwn", spec := "prioOwn", unfollowed := true, recurses := true, apart := false }
def PrioOwnSaid : Prop := prioOwnRow.holds Try.pinned (OpenSpec.ofChange prioOwnSpec)

/-- ITS FALSE NEIGHBOUR: 'it returns false'. Refute it at one input. -/
def prioOwnWrong : ChangeSpec := { name := "prioOwn", fn := fun _ => fun
  | [d1, d2, d3] => { results := [.lit (.bool false)], args := [d1, d2, d3] }
  | _ => none }
def PrioOwnWrongFalsely : Prop := prioOwnRow.holds Try.pinned (OpenSpec.ofChange prioOwnWrong)

/-- 'tolseylaw8.PrioPlays': WHATEVER THE INPUT: true; the input reads as it did. -/
def prioPlaysSpec : ChangeSpec := { name := "prioPlays", fn := fun _ => fun
  | [d1, d2, d3] => { results := [.lit (.bool true)], args := [d1, d2, d3] }
  | _ => none }
def prioPlaysRow : OpenClaim := { program := "ytkbebllkjmccoaa", sum := "ae72a0c08157b6e37510e9d135c69ad4cf6e7a12c920ddebe0c282a42423db3a", func := "tolsey/tolseylaw8.PrioPlays", spec := "prioPlays", unfollowed := true, recurses := true, apart := false }
def PrioPlaysSaid : Prop := prioPlaysRow.holds Try.pinned (OpenSpec.ofChange prioPlaysSpec)

/-- ITS FALSE NEIGHBOUR: 'it returns false'. Refute it at one input. -/
def prioPlaysWrong : ChangeSpec := { name := "prioPlays", fn := fun _ => fun
  | [d1, d2, d3] => { results := [.lit (.bool false)], args := [d1, d2, d3] }
  | _ => none }
def PrioPlaysWrongFalsely : Prop := prioPlaysRow.holds Try.pinned (OpenSpec.ofChange prioPlaysWrong)

/- THE SECOND FORM. 'bulk': how many values and letters a reading holds, each counted each time it is reached (what is shared counts as often as it is met; a slice's spare places count too). A statement '..UptoSaid' is the law's where the arguments, and the package variables that the reading takes, are together of bulk at most 1048576: NARROWER than '..Said'. Prove '..Said' where nothing that the law and all that it calls make is longer than what came in: it says more and counts as full. Else prove '..UptoSaid'. A law counts once. -/
mutual
def uptoBulk {H : Type} : DataW H → Nat
  | .lit (.string bytes) => bytes.length + 1
  | .lit _ => 1
  | .nil => 1
  | .ptr d => uptoBulk d + 1
  | .slice elems spare => uptoBulkAll elems + uptoBulkAll spare + 1
  | .agg parts => uptoBulkAll parts + 1
  | .iface _ d => uptoBulk d + 1
  | .map entries => uptoBulkEntries entries + 1
  | .held _ => 1
def uptoBulkAll {H : Type} : List (DataW H) → Nat
  | [] => 0
  | d :: r => uptoBulk d + uptoBulkAll r
def uptoBulkEntries {H : Type} : List (Lit × DataW H) → Nat
  | [] => 0
  | x :: r => uptoBulkEntry x + uptoBulkEntries r
def uptoBulkEntry {H : Type} : Lit × DataW H → Nat
  | (.string bytes, d) => bytes.length + uptoBulk d + 1
  | (_, d) => uptoBulk d + 1
 end
def uptoSmall : (H : Type) → List (DataW H) → Bool := fun _ ds => decide (uptoBulkAll ds ≤ 1048576)
def OpenSpec.upto (s : _root_.Go.ChangeSpec) : _root_.Go.OpenSpec := { _root_.Go.OpenSpec.ofChange s with cond := some uptoSmall }

/-- 'tolseylaw8.PrioSorts', WHERE WHAT IT READS IS OF BULK AT MOST 1048576: true; the input reads as it did. -/
def prioSortsUptoRow : OpenClaim := { program := "ytkbebllkjmccoaa", sum := "ae72a0c08157b6e37510e9d135c69ad4cf6e7a12c920ddebe0c282a42423db3a", func := "tolsey/tolseylaw8.PrioSorts", spec := "prioSorts", unfollowed := true, recurses := true, apart := false, narrowed := true }
def PrioSortsUptoSaid : Prop := prioSortsUptoRow.holds Try.pinned (OpenSpec.upto prioSortsSpec)

/-- 'tolseylaw8.PrioRemoves', WHERE WHAT IT READS IS OF BULK AT MOST 1048576: true; the input reads as it did. -/
def prioRemovesUptoRow : OpenClaim := { program := "ytkbebllkjmccoaa", sum := "ae72a0c08157b6e37510e9d135c69ad4cf6e7a12c920ddebe0c282a42423db3a", func := "tolsey/tolseylaw8.PrioRemoves", spec := "prioRemoves", unfollowed := true, recurses := true, apart := false, narrowed := true }
def PrioRemovesUptoSaid : Prop := prioRemovesUptoRow.holds Try.pinned (OpenSpec.upto prioRemovesSpec)

/-- 'tolseylaw8.PrioOwn', WHERE WHAT IT READS IS OF BULK AT MOST 1048576: true; the input reads as it did. -/
def prioOwnUptoRow : OpenClaim := { program := "ytkbebllkjmccoaa", sum := "ae72a0c08157b6e37510e9d135c69ad4cf6e7a12c920ddebe0c282a42423db3a", func := "tolsey/tolseylaw8.PrioOwn", spec := "prioOwn", unfollowed := true, recurses := true, apart := false, narrowed := true }
def PrioOwnUptoSaid : Prop := prioOwnUptoRow.holds Try.pinned (OpenSpec.upto prioOwnSpec)

/-- 'tolseylaw8.PrioPlays', WHERE WHAT IT READS IS OF BULK AT MOST 1048576: true; the input reads as it did. -/
def prioPlaysUptoRow : OpenClaim := { program := "ytkbebllkjmccoaa", sum := "ae72a0c08157b6e37510e9d135c69ad4cf6e7a12c920ddebe0c282a42423db3a", func := "tolsey/tolseylaw8.PrioPlays", spec := "prioPlays", unfollowed := true, recurses := true, apart := false, narrowed := true }
def PrioPlaysUptoSaid : Prop := prioPlaysUptoRow.holds Try.pinned (OpenSpec.upto prioPlaysSpec)

end Rows
end Go.Proofs.Ytkbebllkjmccoaa
