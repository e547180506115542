/-
  No cell of these rows narrows 'for every input' (looked for: loops, veiled, ifaces, maps, wideKeys, modest, calm, conditions, laid).
  DERIVED. THE GIVEN ROWS OF THIS SEAT. 5 by the template 'for every input the law returns true; each argument reads behind the call as it read before'; 0 by the template 'total and deterministic' (their statements: YtdhnpbfoeohhmaaTotals.lean).
  GIVEN WITH THE SEED: the statements are not yours to turn. If you find one false, say at which input.
  Laid BY PROGRAM, IN A SANDBOX (cutbox-rows.mjs): the forced cells as the released guide's own fill.sh prints them over the translation 4d2f3bc8b4fd5fd0… (all of the seat's roots in one cut). By AI agents, Wed Nov 11 2026. No macro, syntax, notation, axiom, sorry.
-/
import Derived.Test.YtdhnpbfoeohhmaaChecked
import GoSem.Claim
import GoSem.ClaimJoined
import GoSem.ClaimMapViews
import Derived.JoinedTies
import Derived.KernelRfl
namespace Go.Proofs.Ytdhnpbfoeohhmaa
/- THE CELL 'sum', in the pinned program and in every row, IS THE sha256 OF THE DUMP (.gsa) THAT YtdhnpbfoeohhmaaProg.lean LOADS. Nothing in Lean hashes anything: it is a label: what it is worth is what the hold of that sum in a sandbox is worth. -/
noncomputable def Try.pinned : Pinned := { name := "ytdhnpbfoeohhmaa", sum := "4d2f3bc8b4fd5fd05f878b30ab74afbd0194be05c516ab79264d98a480558e81", checked := Try.checked }
namespace Rows
def none {H : Type} : Left H := { results := [], args := [] }

/-- 'tolseylaw5.SealNeeds': WHATEVER THE INPUT: true; the input reads as it did. -/
def sealNeedsSpec : ChangeSpec := { name := "sealNeeds", fn := fun _ => fun
  | [d1, d2, d3, d4] => { results := [.lit (.bool true)], args := [d1, d2, d3, d4] }
  | _ => none }
def sealNeedsRow : OpenClaim := { program := "ytdhnpbfoeohhmaa", sum := "4d2f3bc8b4fd5fd05f878b30ab74afbd0194be05c516ab79264d98a480558e81", func := "tolsey/tolseylaw5.SealNeeds", spec := "sealNeeds", unfollowed := true, recurses := true, apart := false }
def SealNeedsSaid : Prop := sealNeedsRow.holds Try.pinned (OpenSpec.ofChange sealNeedsSpec)

/-- ITS FALSE NEIGHBOUR: 'it returns false'. Refute it at one input. -/
def sealNeedsWrong : ChangeSpec := { name := "sealNeeds", fn := fun _ => fun
  | [d1, d2, d3, d4] => { results := [.lit (.bool false)], args := [d1, d2, d3, d4] }
  | _ => none }
def SealNeedsWrongFalsely : Prop := sealNeedsRow.holds Try.pinned (OpenSpec.ofChange sealNeedsWrong)

/-- 'tolseylaw5.SealOwn': WHATEVER THE INPUT: true; the input reads as it did. -/
def sealOwnSpec : ChangeSpec := { name := "sealOwn", fn := fun _ => fun
  | [d1, d2] => { results := [.lit (.bool true)], args := [d1, d2] }
  | _ => none }
def sealOwnRow : OpenClaim := { program := "ytdhnpbfoeohhmaa", sum := "4d2f3bc8b4fd5fd05f878b30ab74afbd0194be05c516ab79264d98a480558e81", func := "tolsey/tolseylaw5.SealOwn", spec := "sealOwn", unfollowed := true, recurses := true, apart := false }
def SealOwnSaid : Prop := sealOwnRow.holds Try.pinned (OpenSpec.ofChange sealOwnSpec)

/-- ITS FALSE NEIGHBOUR: 'it returns false'. Refute it at one input. -/
def sealOwnWrong : ChangeSpec := { name := "sealOwn", fn := fun _ => fun
  | [d1, d2] => { results := [.lit (.bool false)], args := [d1, d2] }
  | _ => none }
def SealOwnWrongFalsely : Prop := sealOwnRow.holds Try.pinned (OpenSpec.ofChange sealOwnWrong)

/-- 'tolseylaw5.SealNone': WHATEVER THE INPUT: true; the input reads as it did. -/
def sealNoneSpec : ChangeSpec := { name := "sealNone", fn := fun _ => fun
  | [d1, d2, d3] => { results := [.lit (.bool true)], args := [d1, d2, d3] }
  | _ => none }
def sealNoneRow : OpenClaim := { program := "ytdhnpbfoeohhmaa", sum := "4d2f3bc8b4fd5fd05f878b30ab74afbd0194be05c516ab79264d98a480558e81", func := "tolsey/tolseylaw5.SealNone", spec := "sealNone", unfollowed := true, recurses := true, apart := false }
def SealNoneSaid : Prop := sealNoneRow.holds Try.pinned (OpenSpec.ofChange sealNoneSpec)

/-- ITS FALSE NEIGHBOUR: 'it returns false'. Refute it at one input. -/
def sealNoneWrong : ChangeSpec := { name := "sealNone", fn := fun _ => fun
  | [d1, d2, d3] => { results := [.lit (.bool false)], args := [d1, d2, d3] }
  | _ => none }
def SealNoneWrongFalsely : Prop := sealNoneRow.holds Try.pinned (OpenSpec.ofChange sealNoneWrong)

/-- 'tolseylaw5.SealPlays': WHATEVER THE INPUT: true; the input reads as it did. -/
def sealPlaysSpec : ChangeSpec := { name := "sealPlays", fn := fun _ => fun
  | [d1, d2, d3] => { results := [.lit (.bool true)], args := [d1, d2, d3] }
  | _ => none }
def sealPlaysRow : OpenClaim := { program := "ytdhnpbfoeohhmaa", sum := "4d2f3bc8b4fd5fd05f878b30ab74afbd0194be05c516ab79264d98a480558e81", func := "tolsey/tolseylaw5.SealPlays", spec := "sealPlays", unfollowed := true, recurses := true, apart := false }
def SealPlaysSaid : Prop := sealPlaysRow.holds Try.pinned (OpenSpec.ofChange sealPlaysSpec)

/-- ITS FALSE NEIGHBOUR: 'it returns false'. Refute it at one input. -/
def sealPlaysWrong : ChangeSpec := { name := "sealPlays", fn := fun _ => fun
  | [d1, d2, d3] => { results := [.lit (.bool false)], args := [d1, d2, d3] }
  | _ => none }
def SealPlaysWrongFalsely : Prop := sealPlaysRow.holds Try.pinned (OpenSpec.ofChange sealPlaysWrong)

/-- 'tolseylaw5.SealBlind': WHATEVER THE INPUT: true; the input reads as it did. -/
def sealBlindSpec : ChangeSpec := { name := "sealBlind", fn := fun _ => fun
  | [d1, d2] => { results := [.lit (.bool true)], args := [d1, d2] }
  | _ => none }
def sealBlindRow : OpenClaim := { program := "ytdhnpbfoeohhmaa", sum := "4d2f3bc8b4fd5fd05f878b30ab74afbd0194be05c516ab79264d98a480558e81", func := "tolsey/tolseylaw5.SealBlind", spec := "sealBlind", unfollowed := true, recurses := true, apart := false }
def SealBlindSaid : Prop := sealBlindRow.holds Try.pinned (OpenSpec.ofChange sealBlindSpec)

/-- ITS FALSE NEIGHBOUR: 'it returns false'. Refute it at one input. -/
def sealBlindWrong : ChangeSpec := { name := "sealBlind", fn := fun _ => fun
  | [d1, d2] => { results := [.lit (.bool false)], args := [d1, d2] }
  | _ => none }
def SealBlindWrongFalsely : Prop := sealBlindRow.holds Try.pinned (OpenSpec.ofChange sealBlindWrong)

/- THE SECOND FORM. 'bulk': how many values and letters a reading holds, each counted each time it is reached (what is shared counts as often as it is met; a slice's spare places count too). A statement '..UptoSaid' is the law's where the arguments, and the package variables that the reading takes, are together of bulk at most 1048576: NARROWER than '..Said'. Prove '..Said' where nothing that the law and all that it calls make is longer than what came in: it says more and counts as full. Else prove '..UptoSaid'. A law counts once. -/
mutual
def uptoBulk {H : Type} : DataW H → Nat
  | .lit (.string bytes) => bytes.length + 1
  | .lit _ => 1
  | .nil => 1
  | .ptr d => uptoBulk d + 1
  | .slice elems spare => uptoBulkAll elems + uptoBulkAll spare + 1
  | .agg parts => uptoBulkAll parts + 1
  | .iface _ d => uptoBulk d + 1
  | .map entries => uptoBulkEntries entries + 1
  | .held _ => 1
def uptoBulkAll {H : Type} : List (DataW H) → Nat
  | [] => 0
  | d :: r => uptoBulk d + uptoBulkAll r
def uptoBulkEntries {H : Type} : List (Lit × DataW H) → Nat
  | [] => 0
  | x :: r => uptoBulkEntry x + uptoBulkEntries r
def uptoBulkEntry {H : Type} : Lit × DataW H → Nat
  | (.string bytes, d) => bytes.length + uptoBulk d + 1
  | (_, d) => uptoBulk d + 1
 end
def uptoSmall : (H : Type) → List (DataW H) → Bool := fun _ ds => decide (uptoBulkAll ds ≤ 1048576)
def OpenSpec.upto (s : _root_.Go.ChangeSpec) : _root_.Go.OpenSpec := { _root_.Go.OpenSpec.ofChange s with cond := some uptoSmall }

/-- 'tolseylaw5.SealNeeds', WHERE WHAT IT READS IS OF BULK AT MOST 1048576: true; the input reads as it did. -/
def sealNeedsUptoRow : OpenClaim := { program := "ytdhnpbfoeohhmaa", sum := "4d2f3bc8b4fd5fd05f878b30ab74afbd0194be05c516ab79264d98a480558e81", func := "tolsey/tolseylaw5.SealNeeds", spec := "sealNeeds", unfollowed := true, recurses := true, apart := false, narrowed := true }
def SealNeedsUptoSaid : Prop := sealNeedsUptoRow.holds Try.pinned (OpenSpec.upto sealNeedsSpec)

/-- 'tolseylaw5.SealOwn', WHERE WHAT IT READS IS OF BULK AT MOST 1048576: true; the input reads as it did. -/
def sealOwnUptoRow : OpenClaim := { program := "ytdhnpbfoeohhmaa", sum := "4d2f3bc8b4fd5fd05f878b30ab74afbd0194be05c516ab79264d98a480558e81", func := "tolsey/tolseylaw5.SealOwn", spec := "sealOwn", unfollowed := true, recurses := true, apart := false, narrowed := true }
def SealOwnUptoSaid : Prop := sealOwnUptoRow.holds Try.pinned (OpenSpec.upto sealOwnSpec)

/-- 'tolseylaw5.SealNone', WHERE WHAT IT READS IS OF BULK AT MOST 1048576: true; the input reads as it did. -/
def sealNoneUptoRow : OpenClaim := { program := "ytdhnpbfoeohhmaa", sum := "4d2f3bc8b4fd5fd05f878b30ab74afbd0194be05c516ab79264d98a480558e81", func := "tolsey/tolseylaw5.SealNone", spec := "sealNone", unfollowed := true, recurses := true, apart := false, narrowed := true }
def SealNoneUptoSaid : Prop := sealNoneUptoRow.holds Try.pinned (OpenSpec.upto sealNoneSpec)

/-- 'tolseylaw5.SealPlays', WHERE WHAT IT READS IS OF BULK AT MOST 1048576: true; the input reads as it did. -/
def sealPlaysUptoRow : OpenClaim := { program := "ytdhnpbfoeohhmaa", sum := "4d2f3bc8b4fd5fd05f878b30ab74afbd0194be05c516ab79264d98a480558e81", func := "tolsey/tolseylaw5.SealPlays", spec := "sealPlays", unfollowed := true, recurses := true, apart := false, narrowed := true }
def SealPlaysUptoSaid : Prop := sealPlaysUptoRow.holds Try.pinned (OpenSpec.upto sealPlaysSpec)

/-- 'tolseylaw5.SealBlind', WHERE WHAT IT READS IS OF BULK AT MOST 1048576: true; the input reads as it did. -/
def sealBlindUptoRow : OpenClaim := { program := "ytdhnpbfoeohhmaa", sum := "4d2f3bc8b4fd5fd05f878b30ab74afbd0194be05c516ab79264d98a480558e81", func := "tolsey/tolseylaw5.SealBlind", spec := "sealBlind", unfollowed := true, recurses := true, apart := false, narrowed := true }
def SealBlindUptoSaid : Prop := sealBlindUptoRow.holds Try.pinned (OpenSpec.upto sealBlindSpec)

end Rows
end Go.Proofs.Ytdhnpbfoeohhmaa
