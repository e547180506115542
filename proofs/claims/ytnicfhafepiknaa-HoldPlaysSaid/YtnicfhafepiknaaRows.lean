/-
  No cell of these rows narrows 'for every input' (looked for: loops, veiled, ifaces, maps, wideKeys, modest, calm, conditions, laid).
  DERIVED. THE GIVEN ROWS OF THIS SEAT. 7 by the template 'for every input the law returns true; each argument reads behind the call as it read before'; 0 by the template 'total and deterministic' (their statements: YtnicfhafepiknaaTotals.lean).
  GIVEN WITH THE SEED: the statements are not yours to turn. If you find one false, say at which input.
  Laid BY PROGRAM, IN A SANDBOX (cutbox-rows.mjs): the forced cells as the released guide's own fill.sh prints them over the translation adab3c690f8810d8… (all of the seat's roots in one cut). By AI agents, Wed Nov 11 2026. No macro, syntax, notation, axiom, sorry.
-/
import Derived.Test.YtnicfhafepiknaaChecked
import GoSem.Claim
import GoSem.ClaimJoined
import GoSem.ClaimMapViews
import Derived.JoinedTies
import Derived.KernelRfl
namespace Go.Proofs.Ytnicfhafepiknaa
/- THE CELL 'sum', in the pinned program and in every row, IS THE sha256 OF THE DUMP (.gsa) THAT YtnicfhafepiknaaProg.lean LOADS. Nothing in Lean hashes anything: it is a label: what it is worth is what the hold of that sum in a sandbox is worth. -/
noncomputable def Try.pinned : Pinned := { name := "ytnicfhafepiknaa", sum := "adab3c690f8810d82ea4c070504ce777c1c53a4fdb09b4885534573df652ca22", checked := Try.checked }
namespace Rows
def none {H : Type} : Left H := { results := [], args := [] }

/-- 'tolseylaw6.AcctErrors': WHATEVER THE INPUT: true; the input reads as it did. -/
def acctErrorsSpec : ChangeSpec := { name := "acctErrors", fn := fun _ => fun
  | [d] => { results := [.lit (.bool true)], args := [d] }
  | _ => none }
def acctErrorsRow : OpenClaim := { program := "ytnicfhafepiknaa", sum := "adab3c690f8810d82ea4c070504ce777c1c53a4fdb09b4885534573df652ca22", func := "tolsey/tolseylaw6.AcctErrors", spec := "acctErrors", inPlace := ["math/bits.Add64"], apart := false }
def AcctErrorsSaid : Prop := acctErrorsRow.holds Try.pinned (OpenSpec.ofChange acctErrorsSpec)

/-- ITS FALSE NEIGHBOUR: 'it returns false'. Refute it at one input. -/
def acctErrorsWrong : ChangeSpec := { name := "acctErrors", fn := fun _ => fun
  | [d] => { results := [.lit (.bool false)], args := [d] }
  | _ => none }
def AcctErrorsWrongFalsely : Prop := acctErrorsRow.holds Try.pinned (OpenSpec.ofChange acctErrorsWrong)

/-- 'tolseylaw6.AcctMoves': WHATEVER THE INPUT: true; the input reads as it did. -/
def acctMovesSpec : ChangeSpec := { name := "acctMoves", fn := fun _ => fun
  | [d1, d2] => { results := [.lit (.bool true)], args := [d1, d2] }
  | _ => none }
def acctMovesRow : OpenClaim := { program := "ytnicfhafepiknaa", sum := "adab3c690f8810d82ea4c070504ce777c1c53a4fdb09b4885534573df652ca22", func := "tolsey/tolseylaw6.AcctMoves", spec := "acctMoves", inPlace := ["math/bits.Add64"], apart := false }
def AcctMovesSaid : Prop := acctMovesRow.holds Try.pinned (OpenSpec.ofChange acctMovesSpec)

/-- ITS FALSE NEIGHBOUR: 'it returns false'. Refute it at one input. -/
def acctMovesWrong : ChangeSpec := { name := "acctMoves", fn := fun _ => fun
  | [d1, d2] => { results := [.lit (.bool false)], args := [d1, d2] }
  | _ => none }
def AcctMovesWrongFalsely : Prop := acctMovesRow.holds Try.pinned (OpenSpec.ofChange acctMovesWrong)

/-- 'tolseylaw6.AcctCopies': WHATEVER THE INPUT: true; the input reads as it did. -/
def acctCopiesSpec : ChangeSpec := { name := "acctCopies", fn := fun _ => fun
  | [d1, d2] => { results := [.lit (.bool true)], args := [d1, d2] }
  | _ => none }
def acctCopiesRow : OpenClaim := { program := "ytnicfhafepiknaa", sum := "adab3c690f8810d82ea4c070504ce777c1c53a4fdb09b4885534573df652ca22", func := "tolsey/tolseylaw6.AcctCopies", spec := "acctCopies", inPlace := ["math/bits.Add64"], apart := false }
def AcctCopiesSaid : Prop := acctCopiesRow.holds Try.pinned (OpenSpec.ofChange acctCopiesSpec)

/-- ITS FALSE NEIGHBOUR: 'it returns false'. Refute it at one input. -/
def acctCopiesWrong : ChangeSpec := { name := "acctCopies", fn := fun _ => fun
  | [d1, d2] => { results := [.lit (.bool false)], args := [d1, d2] }
  | _ => none }
def AcctCopiesWrongFalsely : Prop := acctCopiesRow.holds Try.pinned (OpenSpec.ofChange acctCopiesWrong)

/-- 'tolseylaw6.AcctPlays': WHATEVER THE INPUT: true; the input reads as it did. -/
def acctPlaysSpec : ChangeSpec := { name := "acctPlays", fn := fun _ => fun
  | [d1, d2, d3, d4] => { results := [.lit (.bool true)], args := [d1, d2, d3, d4] }
  | _ => none }
def acctPlaysRow : OpenClaim := { program := "ytnicfhafepiknaa", sum := "adab3c690f8810d82ea4c070504ce777c1c53a4fdb09b4885534573df652ca22", func := "tolsey/tolseylaw6.AcctPlays", spec := "acctPlays", inPlace := ["math/bits.Add64"], apart := false }
def AcctPlaysSaid : Prop := acctPlaysRow.holds Try.pinned (OpenSpec.ofChange acctPlaysSpec)

/-- ITS FALSE NEIGHBOUR: 'it returns false'. Refute it at one input. -/
def acctPlaysWrong : ChangeSpec := { name := "acctPlays", fn := fun _ => fun
  | [d1, d2, d3, d4] => { results := [.lit (.bool false)], args := [d1, d2, d3, d4] }
  | _ => none }
def AcctPlaysWrongFalsely : Prop := acctPlaysRow.holds Try.pinned (OpenSpec.ofChange acctPlaysWrong)

/-- 'tolseylaw7.HoldSums': WHATEVER THE INPUT: true; the input reads as it did. -/
def holdSumsSpec : ChangeSpec := { name := "holdSums", fn := fun _ => fun
  | [d1, d2] => { results := [.lit (.bool true)], args := [d1, d2] }
  | _ => none }
def holdSumsRow : OpenClaim := { program := "ytnicfhafepiknaa", sum := "adab3c690f8810d82ea4c070504ce777c1c53a4fdb09b4885534573df652ca22", func := "tolsey/tolseylaw7.HoldSums", spec := "holdSums", inPlace := ["math/bits.Add64"], apart := false }
def HoldSumsSaid : Prop := holdSumsRow.holds Try.pinned (OpenSpec.ofChange holdSumsSpec)

/-- ITS FALSE NEIGHBOUR: 'it returns false'. Refute it at one input. -/
def holdSumsWrong : ChangeSpec := { name := "holdSums", fn := fun _ => fun
  | [d1, d2] => { results := [.lit (.bool false)], args := [d1, d2] }
  | _ => none }
def HoldSumsWrongFalsely : Prop := holdSumsRow.holds Try.pinned (OpenSpec.ofChange holdSumsWrong)

/-- 'tolseylaw7.HoldEmpty': WHATEVER THE INPUT: true; the input reads as it did. -/
def holdEmptySpec : ChangeSpec := { name := "holdEmpty", fn := fun _ => fun
  | [d1, d2, d3] => { results := [.lit (.bool true)], args := [d1, d2, d3] }
  | _ => none }
def holdEmptyRow : OpenClaim := { program := "ytnicfhafepiknaa", sum := "adab3c690f8810d82ea4c070504ce777c1c53a4fdb09b4885534573df652ca22", func := "tolsey/tolseylaw7.HoldEmpty", spec := "holdEmpty", inPlace := ["math/bits.Add64"], apart := false }
def HoldEmptySaid : Prop := holdEmptyRow.holds Try.pinned (OpenSpec.ofChange holdEmptySpec)

/-- ITS FALSE NEIGHBOUR: 'it returns false'. Refute it at one input. -/
def holdEmptyWrong : ChangeSpec := { name := "holdEmpty", fn := fun _ => fun
  | [d1, d2, d3] => { results := [.lit (.bool false)], args := [d1, d2, d3] }
  | _ => none }
def HoldEmptyWrongFalsely : Prop := holdEmptyRow.holds Try.pinned (OpenSpec.ofChange holdEmptyWrong)

/-- 'tolseylaw7.HoldPlays': WHATEVER THE INPUT: true; the input reads as it did. -/
def holdPlaysSpec : ChangeSpec := { name := "holdPlays", fn := fun _ => fun
  | [d1, d2, d3] => { results := [.lit (.bool true)], args := [d1, d2, d3] }
  | _ => none }
def holdPlaysRow : OpenClaim := { program := "ytnicfhafepiknaa", sum := "adab3c690f8810d82ea4c070504ce777c1c53a4fdb09b4885534573df652ca22", func := "tolsey/tolseylaw7.HoldPlays", spec := "holdPlays", inPlace := ["math/bits.Add64"], apart := false }
def HoldPlaysSaid : Prop := holdPlaysRow.holds Try.pinned (OpenSpec.ofChange holdPlaysSpec)

/-- ITS FALSE NEIGHBOUR: 'it returns false'. Refute it at one input. -/
def holdPlaysWrong : ChangeSpec := { name := "holdPlays", fn := fun _ => fun
  | [d1, d2, d3] => { results := [.lit (.bool false)], args := [d1, d2, d3] }
  | _ => none }
def HoldPlaysWrongFalsely : Prop := holdPlaysRow.holds Try.pinned (OpenSpec.ofChange holdPlaysWrong)

/- THE SECOND FORM. 'bulk': how many values and letters a reading holds, each counted each time it is reached (what is shared counts as often as it is met; a slice's spare places count too). A statement '..UptoSaid' is the law's where the arguments, and the package variables that the reading takes, are together of bulk at most 1048576: NARROWER than '..Said'. Prove '..Said' where nothing that the law and all that it calls make is longer than what came in: it says more and counts as full. Else prove '..UptoSaid'. A law counts once. -/
mutual
def uptoBulk {H : Type} : DataW H → Nat
  | .lit (.string bytes) => bytes.length + 1
  | .lit _ => 1
  | .nil => 1
  | .ptr d => uptoBulk d + 1
  | .slice elems spare => uptoBulkAll elems + uptoBulkAll spare + 1
  | .agg parts => uptoBulkAll parts + 1
  | .iface _ d => uptoBulk d + 1
  | .map entries => uptoBulkEntries entries + 1
  | .held _ => 1
def uptoBulkAll {H : Type} : List (DataW H) → Nat
  | [] => 0
  | d :: r => uptoBulk d + uptoBulkAll r
def uptoBulkEntries {H : Type} : List (Lit × DataW H) → Nat
  | [] => 0
  | x :: r => uptoBulkEntry x + uptoBulkEntries r
def uptoBulkEntry {H : Type} : Lit × DataW H → Nat
  | (.string bytes, d) => bytes.length + uptoBulk d + 1
  | (_, d) => uptoBulk d + 1
 end
def uptoSmall : (H : Type) → List (DataW H) → Bool := fun _ ds => decide (uptoBulkAll ds ≤ 1048576)
def OpenSpec.upto (s : _root_.Go.ChangeSpec) : _root_.Go.OpenSpec := { _root_.Go.OpenSpec.ofChange s with cond := some uptoSmall }

/-- 'tolseylaw6.AcctErrors', WHERE WHAT IT READS IS OF BULK AT MOST 1048576: true; the input reads as it did. -/
def acctErrorsUptoRow : OpenClaim := { program := "ytnicfhafepiknaa", sum := "adab3c690f8810d82ea4c070504ce777c1c53a4fdb09b4885534573df652ca22", func := "tolsey/tolseylaw6.AcctErrors", spec := "acctErrors", inPlace := ["math/bits.Add64"], apart := false, narrowed := true }
def AcctErrorsUptoSaid : Prop := acctErrorsUptoRow.holds Try.pinned (OpenSpec.upto acctErrorsSpec)

/-- 'tolseylaw6.AcctMoves', WHERE WHAT IT READS IS OF BULK AT MOST 1048576: true; the input reads as it did. -/
def acctMovesUptoRow : OpenClaim := { program := "ytnicfhafepiknaa", sum := "adab3c690f8810d82ea4c070504ce777c1c53a4fdb09b4885534573df652ca22", func := "tolsey/tolseylaw6.AcctMoves", spec := "acctMoves", inPlace := ["math/bits.Add64"], apart := false, narrowed := true }
def AcctMovesUptoSaid : Prop := acctMovesUptoRow.holds Try.pinned (OpenSpec.upto acctMovesSpec)

/-- 'tolseylaw6.AcctCopies', WHERE WHAT IT READS IS OF BULK AT MOST 1048576: true; the input reads as it did. -/
def acctCopiesUptoRow : OpenClaim := { program := "ytnicfhafepiknaa", sum := "adab3c690f8810d82ea4c070504ce777c1c53a4fdb09b4885534573df652ca22", func := "tolsey/tolseylaw6.AcctCopies", spec := "acctCopies", inPlace := ["math/bits.Add64"], apart := false, narrowed := true }
def AcctCopiesUptoSaid : Prop := acctCopiesUptoRow.holds Try.pinned (OpenSpec.upto acctCopiesSpec)

/-- 'tolseylaw6.AcctPlays', WHERE WHAT IT READS IS OF BULK AT MOST 1048576: true; the input reads as it did. -/
def acctPlaysUptoRow : OpenClaim := { program := "ytnicfhafepiknaa", sum := "adab3c690f8810d82ea4c070504ce777c1c53a4fdb09b4885534573df652ca22", func := "tolsey/tolseylaw6.AcctPlays", spec := "acctPlays", inPlace := ["math/bits.Add64"], apart := false, narrowed := true }
def AcctPlaysUptoSaid : Prop := acctPlaysUptoRow.holds Try.pinned (OpenSpec.upto acctPlaysSpec)

/-- 'tolseylaw7.HoldSums', WHERE WHAT IT READS IS OF BULK AT MOST 1048576: true; the input reads as it did. -/
def holdSumsUptoRow : OpenClaim := { program := "ytnicfhafepiknaa", sum := "adab3c690f8810d82ea4c070504ce777c1c53a4fdb09b4885534573df652ca22", func := "tolsey/tolseylaw7.HoldSums", spec := "holdSums", inPlace := ["math/bits.Add64"], apart := false, narrowed := true }
def HoldSumsUptoSaid : Prop := holdSumsUptoRow.holds Try.pinned (OpenSpec.upto holdSumsSpec)

/-- 'tolseylaw7.HoldEmpty', WHERE WHAT IT READS IS OF BULK AT MOST 1048576: true; the input reads as it did. -/
def holdEmptyUptoRow : OpenClaim := { program := "ytnicfhafepiknaa", sum := "adab3c690f8810d82ea4c070504ce777c1c53a4fdb09b4885534573df652ca22", func := "tolsey/tolseylaw7.HoldEmpty", spec := "holdEmpty", inPlace := ["math/bits.Add64"], apart := false, narrowed := true }
def HoldEmptyUptoSaid : Prop := holdEmptyUptoRow.holds Try.pinned (OpenSpec.upto holdEmptySpec)

/-- 'tolseylaw7.HoldPlays', WHERE WHAT IT READS IS OF BULK AT MOST 1048576: true; the input reads as it did. -/
def holdPlaysUptoRow : OpenClaim := { program := "ytnicfhafepiknaa", sum := "adab3c690f8810d82ea4c070504ce777c1c53a4fdb09b4885534573df652ca22", func := "tolsey/tolseylaw7.HoldPlays", spec := "holdPlays", inPlace := ["math/bits.Add64"], apart := false, narrowed := true }
def HoldPlaysUptoSaid : Prop := holdPlaysUptoRow.holds Try.pinned (OpenSpec.upto holdPlaysSpec)

end Rows
end Go.Proofs.Ytnicfhafepiknaa
