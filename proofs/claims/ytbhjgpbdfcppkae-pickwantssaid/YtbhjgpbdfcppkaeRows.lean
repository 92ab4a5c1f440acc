/-
  No cell of these rows narrows 'for every input' (looked for: loops, veiled, ifaces, maps, wideKeys, modest, calm, conditions, laid).
  DERIVED. THE GIVEN ROWS OF THIS SEAT. 4 by the template 'for every input the law returns true; each argument reads behind the call as it read before'; 0 by the template 'total and deterministic' (their statements: YtbhjgpbdfcppkaeTotals.lean).
  GIVEN WITH THE SEED: the statements are not yours to turn. If you find one false, say at which input.
  Laid BY PROGRAM, IN A SANDBOX (cutbox-rows.mjs): the forced cells as the released guide's own fill.sh prints them over the translation 93e7147a41a067f7… (all of the seat's roots in one cut). By AI agents, Wed Nov 11 2026. No macro, syntax, notation, axiom, sorry.
-/
import Derived.Test.YtbhjgpbdfcppkaeChecked
import GoSem.Claim
import GoSem.ClaimJoined
import GoSem.ClaimMapViews
import Derived.JoinedTies
import Derived.KernelRfl
namespace Go.Proofs.Ytbhjgpbdfcppkae
/- THE CELL 'sum', in the pinned program and in every row, IS THE sha256 OF THE DUMP (.gsa) THAT YtbhjgpbdfcppkaeProg.lean LOADS. Nothing in Lean hashes anything: it is a label: what it is worth is what the hold of that sum in a sandbox is worth. -/
noncomputable def Try.pinned : Pinned := { name := "ytbhjgpbdfcppkae", sum := "93e7147a41a067f7911210dd3db4827776286f83b98673b274f918807e1992bd", checked := Try.checked }
namespace Rows
def none {H : Type} : Left H := { results := [], args := [] }

/-- 'tolllaw2.FlowDue': WHATEVER THE INPUT: true; the input reads as it did. -/
def flowDueSpec : ChangeSpec := { name := "flowDue", fn := fun _ => fun
  | [d1, d2] => { results := [.lit (.bool true)], args := [d1, d2] }
  | _ => none }
def flowDueRow : OpenClaim := { program := "ytbhjgpbdfcppkae", sum := "93e7147a41a067f7911210dd3db4827776286f83b98673b274f918807e1992bd", func := "tollgate/tolllaw2.FlowDue", spec := "flowDue", apart := false }
def FlowDueSaid : Prop := flowDueRow.holds Try.pinned (OpenSpec.ofChange flowDueSpec)

/-- ITS FALSE NEIGHBOUR: 'it returns false'. Refute it at one input. -/
def flowDueWrong : ChangeSpec := { name := "flowDue", fn := fun _ => fun
  | [d1, d2] => { results := [.lit (.bool false)], args := [d1, d2] }
  | _ => none }
def FlowDueWrongFalsely : Prop := flowDueRow.holds Try.pinned (OpenSpec.ofChange flowDueWrong)

/-- 'tolllaw5.FlowSums': WHATEVER THE INPUT: true; the input reads as it did. -/
def flowSumsSpec : ChangeSpec := { name := "flowSums", fn := fun _ => fun
  | [d1, d2] => { results := [.lit (.bool true)], args := [d1, d2] }
  | _ => none }
def flowSumsRow : OpenClaim := { program := "ytbhjgpbdfcppkae", sum := "93e7147a41a067f7911210dd3db4827776286f83b98673b274f918807e1992bd", func := "tollgate/tolllaw5.FlowSums", spec := "flowSums", apart := false }
def FlowSumsSaid : Prop := flowSumsRow.holds Try.pinned (OpenSpec.ofChange flowSumsSpec)

/-- ITS FALSE NEIGHBOUR: 'it returns false'. Refute it at one input. -/
def flowSumsWrong : ChangeSpec := { name := "flowSums", fn := fun _ => fun
  | [d1, d2] => { results := [.lit (.bool false)], args := [d1, d2] }
  | _ => none }
def FlowSumsWrongFalsely : Prop := flowSumsRow.holds Try.pinned (OpenSpec.ofChange flowSumsWrong)

/-- 'tolllaw2.PickFair': WHATEVER THE INPUT: true; the input reads as it did. -/
def pickFairSpec : ChangeSpec := { name := "pickFair", fn := fun _ => fun
  | [d1, d2, d3] => { results := [.lit (.bool true)], args := [d1, d2, d3] }
  | _ => none }
def pickFairRow : OpenClaim := { program := "ytbhjgpbdfcppkae", sum := "93e7147a41a067f7911210dd3db4827776286f83b98673b274f918807e1992bd", func := "tollgate/tolllaw2.PickFair", spec := "pickFair", apart := false }
def PickFairSaid : Prop := pickFairRow.holds Try.pinned (OpenSpec.ofChange pickFairSpec)

/-- ITS FALSE NEIGHBOUR: 'it returns false'. Refute it at one input. -/
def pickFairWrong : ChangeSpec := { name := "pickFair", fn := fun _ => fun
  | [d1, d2, d3] => { results := [.lit (.bool false)], args := [d1, d2, d3] }
  | _ => none }
def PickFairWrongFalsely : Prop := pickFairRow.holds Try.pinned (OpenSpec.ofChange pickFairWrong)

/-- 'tolllaw5.PickWants': WHATEVER THE INPUT: true; the input reads as it did. -/
def pickWantsSpec : ChangeSpec := { name := "pickWants", fn := fun _ => fun
  | [d] => { results := [.lit (.bool true)], args := [d] }
  | _ => none }
def pickWantsRow : OpenClaim := { program := "ytbhjgpbdfcppkae", sum := "93e7147a41a067f7911210dd3db4827776286f83b98673b274f918807e1992bd", func := "tollgate/tolllaw5.PickWants", spec := "pickWants", apart := false }
def PickWantsSaid : Prop := pickWantsRow.holds Try.pinned (OpenSpec.ofChange pickWantsSpec)

/-- ITS FALSE NEIGHBOUR: 'it returns false'. Refute it at one input. -/
def pickWantsWrong : ChangeSpec := { name := "pickWants", fn := fun _ => fun
  | [d] => { results := [.lit (.bool false)], args := [d] }
  | _ => none }
def PickWantsWrongFalsely : Prop := pickWantsRow.holds Try.pinned (OpenSpec.ofChange pickWantsWrong)

/- THE SECOND FORM. 'bulk': how many values and letters a reading holds, each counted each time it is reached (what is shared counts as often as it is met; a slice's spare places count too). A statement '..UptoSaid' is the law's where the arguments, and the package variables that the reading takes, are together of bulk at most 1048576: NARROWER than '..Said'. Prove '..Said' where nothing that the law and all that it calls make is longer than what came in: it says more and counts as full. Else prove '..UptoSaid'. A law counts once. -/
mutual
def uptoBulk {H : Type} : DataW H → Nat
  | .lit (.string bytes) => bytes.length + 1
  | .lit _ => 1
  | .nil => 1
  | .ptr d => uptoBulk d + 1
  | .slice elems spare => uptoBulkAll elems + uptoBulkAll spare + 1
  | .agg parts => uptoBulkAll parts + 1
  | .iface _ d => uptoBulk d + 1
  | .map entries => uptoBulkEntries entries + 1
  | .held _ => 1
def uptoBulkAll {H : Type} : List (DataW H) → Nat
  | [] => 0
  | d :: r => uptoBulk d + uptoBulkAll r
def uptoBulkEntries {H : Type} : List (Lit × DataW H) → Nat
  | [] => 0
  | x :: r => uptoBulkEntry x + uptoBulkEntries r
def uptoBulkEntry {H : Type} : Lit × DataW H → Nat
  | (.string bytes, d) => bytes.length + uptoBulk d + 1
  | (_, d) => uptoBulk d + 1
 end
def uptoSmall : (H : Type) → List (DataW H) → Bool := fun _ ds => decide (uptoBulkAll ds ≤ 1048576)
def OpenSpec.upto (s : _root_.Go.ChangeSpec) : _root_.Go.OpenSpec := { _root_.Go.OpenSpec.ofChange s with cond := some uptoSmall }

/-- 'tolllaw2.FlowDue', WHERE WHAT IT READS IS OF BULK AT MOST 1048576: true; the input reads as it did. -/
def flowDueUptoRow : OpenClaim := { program := "ytbhjgpbdfcppkae", sum := "93e7147a41a067f7911210dd3db4827776286f83b98673b274f918807e1992bd", func := "tollgate/tolllaw2.FlowDue", spec := "flowDue", apart := false, narrowed := true }
def FlowDueUptoSaid : Prop := flowDueUptoRow.holds Try.pinned (OpenSpec.upto flowDueSpec)

/-- 'tolllaw5.FlowSums', WHERE WHAT IT READS IS OF BULK AT MOST 1048576: true; the input reads as it did. -/
def flowSumsUptoRow : OpenClaim := { program := "ytbhjgpbdfcppkae", sum := "93e7147a41a067f7911210dd3db4827776286f83b98673b274f918807e1992bd", func := "tollgate/tolllaw5.FlowSums", spec := "flowSums", apart := false, narrowed := true }
def FlowSumsUptoSaid : Prop := flowSumsUptoRow.holds Try.pinned (OpenSpec.upto flowSumsSpec)

/-- 'tolllaw2.PickFair', WHERE WHAT IT READS IS OF BULK AT MOST 1048576: true; the input reads as it did. -/
def pickFairUptoRow : OpenClaim := { program := "ytbhjgpbdfcppkae", sum := "93e7147a41a067f7911210dd3db4827776286f83b98673b274f918807e1992bd", func := "tollgate/tolllaw2.PickFair", spec := "pickFair", apart := false, narrowed := true }
def PickFairUptoSaid : Prop := pickFairUptoRow.holds Try.pinned (OpenSpec.upto pickFairSpec)

/-- 'tolllaw5.PickWants', WHERE WHAT IT READS IS OF BULK AT MOST 1048576: true; the input reads as it did. -/
def pickWantsUptoRow : OpenClaim := { program := "ytbhjgpbdfcppkae", sum := "93e7147a41a067f7911210dd3db4827776286f83b98673b274f918807e1992bd", func := "tollgate/tolllaw5.PickWants", spec := "pickWants", apart := false, narrowed := true }
def PickWantsUptoSaid : Prop := pickWantsUptoRow.holds Try.pinned (OpenSpec.upto pickWantsSpec)

end Rows
end Go.Proofs.Ytbhjgpbdfcppkae
