/-
  No cell of these rows narrows 'for every input' (looked for: loops, veiled, ifaces, maps, wideKeys, modest, calm, conditions, laid).
  DERIVED. THE GIVEN ROWS OF THIS SEAT. 5 by the template 'for every input the law returns true; each argument reads behind the call as it read before'; 0 by the template 'total and deterministic' (their statements: YtmpbijdgmmjnoaaTotals.lean).
  GIVEN WITH THE SEED: the statements are not yours to turn. If you find one false, say at which input.
  Laid BY PROGRAM, IN A SANDBOX (cutbox-rows.mjs): the forced cells as the released guide's own fill.sh prints them over the translation 9fd73827de03c79c… (all of the seat's roots in one cut). By AI agents, Wed Nov 11 2026. No macro, syntax, notation, axiom, sorry.
-/
import Derived.Test.YtmpbijdgmmjnoaaChecked
import GoSem.Claim
import GoSem.ClaimJoined
import GoSem.ClaimMapViews
import Derived.JoinedTies
import Derived.KernelRfl
namespace Go.Proofs.Ytmpbijdgmmjnoaa
/- THE CELL 'sum', in the pinned program and in every row, IS THE sha256 OF THE DUMP (.gsa) THAT YtmpbijdgmmjnoaaProg.lean LOADS. Nothing in Lean hashes anything: it is a label: what it is worth is what the hold of that sum in a sandbox is worth. -/
noncomputable def Try.pinned : Pinned := { name := "ytmpbijdgmmjnoaa", sum := "9fd73827de03c79c66dcebb4293c238119dc92982823aacd15e2ea8c71315242", checked := Try.checked }
namespace Rows
def none {H : Type} : Left H := { results := [], args := [] }

/-- 'tolseylaw1.ChkEnds': WHATEVER THE INPUT: true; the input reads as it did. -/
def chkEndsSpec : ChangeSpec := { name := "chkEnds", fn := fun _ => fun
  | [d] => { results := [.lit (.bool true)], args := [d] }
  | _ => none }
def chkEndsRow : OpenClaim := { program := "ytmpbijdgmmjnoaa", sum := "9fd73827de03c79c66dcebb4293c238119dc92982823aacd15e2ea8c71315242", func := "tolsey/tolseylaw1.ChkEnds", spec := "chkEnds", inPlace := ["math/bits.Add64"], apart := false }
def ChkEndsSaid : Prop := chkEndsRow.holds Try.pinned (OpenSpec.ofChange chkEndsSpec)

/-- ITS FALSE NEIGHBOUR: 'it returns false'. Refute it at one input. -/
def chkEndsWrong : ChangeSpec := { name := "chkEnds", fn := fun _ => fun
  | [d] => { results := [.lit (.bool false)], args := [d] }
  | _ => none }
def ChkEndsWrongFalsely : Prop := chkEndsRow.holds Try.pinned (OpenSpec.ofChange chkEndsWrong)

/-- 'tolseylaw1.ChkSums': WHATEVER THE INPUT: true; the input reads as it did. -/
def chkSumsSpec : ChangeSpec := { name := "chkSums", fn := fun _ => fun
  | [d1, d2, d3] => { results := [.lit (.bool true)], args := [d1, d2, d3] }
  | _ => none }
def chkSumsRow : OpenClaim := { program := "ytmpbijdgmmjnoaa", sum := "9fd73827de03c79c66dcebb4293c238119dc92982823aacd15e2ea8c71315242", func := "tolsey/tolseylaw1.ChkSums", spec := "chkSums", inPlace := ["math/bits.Add64"], apart := false }
def ChkSumsSaid : Prop := chkSumsRow.holds Try.pinned (OpenSpec.ofChange chkSumsSpec)

/-- ITS FALSE NEIGHBOUR: 'it returns false'. Refute it at one input. -/
def chkSumsWrong : ChangeSpec := { name := "chkSums", fn := fun _ => fun
  | [d1, d2, d3] => { results := [.lit (.bool false)], args := [d1, d2, d3] }
  | _ => none }
def ChkSumsWrongFalsely : Prop := chkSumsRow.holds Try.pinned (OpenSpec.ofChange chkSumsWrong)

/-- 'tolseylaw1.ChkOrder': WHATEVER THE INPUT: true; the input reads as it did. -/
def chkOrderSpec : ChangeSpec := { name := "chkOrder", fn := fun _ => fun
  | [d1, d2, d3] => { results := [.lit (.bool true)], args := [d1, d2, d3] }
  | _ => none }
def chkOrderRow : OpenClaim := { program := "ytmpbijdgmmjnoaa", sum := "9fd73827de03c79c66dcebb4293c238119dc92982823aacd15e2ea8c71315242", func := "tolsey/tolseylaw1.ChkOrder", spec := "chkOrder", inPlace := ["math/bits.Add64"], apart := false }
def ChkOrderSaid : Prop := chkOrderRow.holds Try.pinned (OpenSpec.ofChange chkOrderSpec)

/-- ITS FALSE NEIGHBOUR: 'it returns false'. Refute it at one input. -/
def chkOrderWrong : ChangeSpec := { name := "chkOrder", fn := fun _ => fun
  | [d1, d2, d3] => { results := [.lit (.bool false)], args := [d1, d2, d3] }
  | _ => none }
def ChkOrderWrongFalsely : Prop := chkOrderRow.holds Try.pinned (OpenSpec.ofChange chkOrderWrong)

/-- 'tolseylaw1.ChkTells': WHATEVER THE INPUT: true; the input reads as it did. -/
def chkTellsSpec : ChangeSpec := { name := "chkTells", fn := fun _ => fun
  | [d1, d2, d3] => { results := [.lit (.bool true)], args := [d1, d2, d3] }
  | _ => none }
def chkTellsRow : OpenClaim := { program := "ytmpbijdgmmjnoaa", sum := "9fd73827de03c79c66dcebb4293c238119dc92982823aacd15e2ea8c71315242", func := "tolsey/tolseylaw1.ChkTells", spec := "chkTells", inPlace := ["math/bits.Add64"], apart := false }
def ChkTellsSaid : Prop := chkTellsRow.holds Try.pinned (OpenSpec.ofChange chkTellsSpec)

/-- ITS FALSE NEIGHBOUR: 'it returns false'. Refute it at one input. -/
def chkTellsWrong : ChangeSpec := { name := "chkTells", fn := fun _ => fun
  | [d1, d2, d3] => { results := [.lit (.bool false)], args := [d1, d2, d3] }
  | _ => none }
def ChkTellsWrongFalsely : Prop := chkTellsRow.holds Try.pinned (OpenSpec.ofChange chkTellsWrong)

/-- 'tolseylaw1.ChkBack': WHATEVER THE INPUT: true; the input reads as it did. -/
def chkBackSpec : ChangeSpec := { name := "chkBack", fn := fun _ => fun
  | [d1, d2, d3] => { results := [.lit (.bool true)], args := [d1, d2, d3] }
  | _ => none }
def chkBackRow : OpenClaim := { program := "ytmpbijdgmmjnoaa", sum := "9fd73827de03c79c66dcebb4293c238119dc92982823aacd15e2ea8c71315242", func := "tolsey/tolseylaw1.ChkBack", spec := "chkBack", inPlace := ["math/bits.Add64"], apart := false }
def ChkBackSaid : Prop := chkBackRow.holds Try.pinned (OpenSpec.ofChange chkBackSpec)

/-- ITS FALSE NEIGHBOUR: 'it returns false'. Refute it at one input. -/
def chkBackWrong : ChangeSpec := { name := "chkBack", fn := fun _ => fun
  | [d1, d2, d3] => { results := [.lit (.bool false)], args := [d1, d2, d3] }
  | _ => none }
def ChkBackWrongFalsely : Prop := chkBackRow.holds Try.pinned (OpenSpec.ofChange chkBackWrong)

/- THE SECOND FORM. 'bulk': how many values and letters a reading holds, each counted each time it is reached (what is shared counts as often as it is met; a slice's spare places count too). A statement '..UptoSaid' is the law's where the arguments, and the package variables that the reading takes, are together of bulk at most 1048576: NARROWER than '..Said'. Prove '..Said' where nothing that the law and all that it calls make is longer than what came in: it says more and counts as full. Else prove '..UptoSaid'. A law counts once. -/
mutual
def uptoBulk {H : Type} : DataW H → Nat
  | .lit (.string bytes) => bytes.length + 1
  | .lit _ => 1
  | .nil => 1
  | .ptr d => uptoBulk d + 1
  | .slice elems spare => uptoBulkAll elems + uptoBulkAll spare + 1
  | .agg parts => uptoBulkAll parts + 1
  | .iface _ d => uptoBulk d + 1
  | .map entries => uptoBulkEntries entries + 1
  | .held _ => 1
def uptoBulkAll {H : Type} : List (DataW H) → Nat
  | [] => 0
  | d :: r => uptoBulk d + uptoBulkAll r
def uptoBulkEntries {H : Type} : List (Lit × DataW H) → Nat
  | [] => 0
  | x :: r => uptoBulkEntry x + uptoBulkEntries r
def uptoBulkEntry {H : Type} : Lit × DataW H → Nat
  | (.string bytes, d) => bytes.length + uptoBulk d + 1
  | (_, d) => uptoBulk d + 1
 end
def uptoSmall : (H : Type) → List (DataW H) → Bool := fun _ ds => decide (uptoBulkAll ds ≤ 1048576)
def OpenSpec.upto (s : _root_.Go.ChangeSpec) : _root_.Go.OpenSpec := { _root_.Go.OpenSpec.ofChange s with cond := some uptoSmall }

/-- 'tolseylaw1.ChkEnds', WHERE WHAT IT READS IS OF BULK AT MOST 1048576: true; the input reads as it did. -/
def chkEndsUptoRow : OpenClaim := { program := "ytmpbijdgmmjnoaa", sum := "9fd73827de03c79c66dcebb4293c238119dc92982823aacd15e2ea8c71315242", func := "tolsey/tolseylaw1.ChkEnds", spec := "chkEnds", inPlace := ["math/bits.Add64"], apart := false, narrowed := true }
def ChkEndsUptoSaid : Prop := chkEndsUptoRow.holds Try.pinned (OpenSpec.upto chkEndsSpec)

/-- 'tolseylaw1.ChkSums', WHERE WHAT IT READS IS OF BULK AT MOST 1048576: true; the input reads as it did. -/
def chkSumsUptoRow : OpenClaim := { program := "ytmpbijdgmmjnoaa", sum := "9fd73827de03c79c66dcebb4293c238119dc92982823aacd15e2ea8c71315242", func := "tolsey/tolseylaw1.ChkSums", spec := "chkSums", inPlace := ["math/bits.Add64"], apart := false, narrowed := true }
def ChkSumsUptoSaid : Prop := chkSumsUptoRow.holds Try.pinned (OpenSpec.upto chkSumsSpec)

/-- 'tolseylaw1.ChkOrder', WHERE WHAT IT READS IS OF BULK AT MOST 1048576: true; the input reads as it did. -/
def chkOrderUptoRow : OpenClaim := { program := "ytmpbijdgmmjnoaa", sum := "9fd73827de03c79c66dcebb4293c238119dc92982823aacd15e2ea8c71315242", func := "tolsey/tolseylaw1.ChkOrder", spec := "chkOrder", inPlace := ["math/bits.Add64"], apart := false, narrowed := true }
def ChkOrderUptoSaid : Prop := chkOrderUptoRow.holds Try.pinned (OpenSpec.upto chkOrderSpec)

/-- 'tolseylaw1.ChkTells', WHERE WHAT IT READS IS OF BULK AT MOST 1048576: true; the input reads as it did. -/
def chkTellsUptoRow : OpenClaim := { program := "ytmpbijdgmmjnoaa", sum := "9fd73827de03c79c66dcebb4293c238119dc92982823aacd15e2ea8c71315242", func := "tolsey/tolseylaw1.ChkTells", spec := "chkTells", inPlace := ["math/bits.Add64"], apart := false, narrowed := true }
def ChkTellsUptoSaid : Prop := chkTellsUptoRow.holds Try.pinned (OpenSpec.upto chkTellsSpec)

/-- 'tolseylaw1.ChkBack', WHERE WHAT IT READS IS OF BULK AT MOST 1048576: true; the input reads as it did. -/
def chkBackUptoRow : OpenClaim := { program := "ytmpbijdgmmjnoaa", sum := "9fd73827de03c79c66dcebb4293c238119dc92982823aacd15e2ea8c71315242", func := "tolsey/tolseylaw1.ChkBack", spec := "chkBack", inPlace := ["math/bits.Add64"], apart := false, narrowed := true }
def ChkBackUptoSaid : Prop := chkBackUptoRow.holds Try.pinned (OpenSpec.upto chkBackSpec)

end Rows
end Go.Proofs.Ytmpbijdgmmjnoaa
