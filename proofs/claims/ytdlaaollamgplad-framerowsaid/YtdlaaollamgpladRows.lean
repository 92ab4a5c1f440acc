/-
  No cell of these rows narrows 'for every input' (looked for: loops, veiled, ifaces, maps, wideKeys, modest, calm, conditions, laid).
  DERIVED. THE GIVEN ROWS OF THIS SEAT. 4 by the template 'for every input the law returns true; each argument reads behind the call as it read before'; 0 by the template 'total and deterministic' (their statements: YtdlaaollamgpladTotals.lean).
  GIVEN WITH THE SEED: the statements are not yours to turn. If you find one false, say at which input.
  Laid BY PROGRAM, IN A SANDBOX (cutbox-rows.mjs): the forced cells as the released guide's own fill.sh prints them over the translation b7d6b4546ff3f440… (all of the seat's roots in one cut). By AI agents, Wed Nov 11 2026. No macro, syntax, notation, axiom, sorry.
-/
import Derived.Test.YtdlaaollamgpladChecked
import GoSem.Claim
import GoSem.ClaimJoined
import GoSem.ClaimMapViews
import Derived.JoinedTies
import Derived.KernelRfl
namespace Go.Proofs.Ytdlaaollamgplad
/- THE CELL 'sum', in the pinned program and in every row, IS THE sha256 OF THE DUMP (.gsa) THAT YtdlaaollamgpladProg.lean LOADS. Nothing in Lean hashes anything: it is a label: what it is worth is what the hold of that sum in a sandbox is worth. -/
noncomputable def Try.pinned : Pinned := { name := "ytdlaaollamgplad", sum := "b7d6b4546ff3f440a4c0a0151bba8f10d0287281f98c881d9f3f4edda802920d", checked := Try.checked }
namespace Rows
def none {H : Type} : Left H := { results := [], args := [] }

/-- 'tolllaw5.FrameRow': WHATEVER THE INPUT: true; the input reads as it did. -/
def frameRowSpec : ChangeSpec := { name := "frameRow", fn := fun _ => fun
  | [d] => { results := [.lit (.bool true)], args := [d] }
  | _ => none }
def frameRowRow : OpenClaim := { program := "ytdlaaollamgplad", sum := "b7d6b4546ff3f440a4c0a0151bba8f10d0287281f98c881d9f3f4edda802920d", func := "tollgate/tolllaw5.FrameRow", spec := "frameRow", apart := false }
def FrameRowSaid : Prop := frameRowRow.holds Try.pinned (OpenSpec.ofChange frameRowSpec)

/-- ITS FALSE NEIGHBOUR: 'it returns false'. Refute it at one input. -/
def frameRowWrong : ChangeSpec := { name := "frameRow", fn := fun _ => fun
  | [d] => { results := [.lit (.bool false)], args := [d] }
  | _ => none }
def FrameRowWrongFalsely : Prop := frameRowRow.holds Try.pinned (OpenSpec.ofChange frameRowWrong)

/-- 'tolllaw2.StreamsSeen': WHATEVER THE INPUT: true; the input reads as it did. -/
def streamsSeenSpec : ChangeSpec := { name := "streamsSeen", fn := fun _ => fun
  | [d] => { results := [.lit (.bool true)], args := [d] }
  | _ => none }
def streamsSeenRow : OpenClaim := { program := "ytdlaaollamgplad", sum := "b7d6b4546ff3f440a4c0a0151bba8f10d0287281f98c881d9f3f4edda802920d", func := "tollgate/tolllaw2.StreamsSeen", spec := "streamsSeen", apart := false }
def StreamsSeenSaid : Prop := streamsSeenRow.holds Try.pinned (OpenSpec.ofChange streamsSeenSpec)

/-- ITS FALSE NEIGHBOUR: 'it returns false'. Refute it at one input. -/
def streamsSeenWrong : ChangeSpec := { name := "streamsSeen", fn := fun _ => fun
  | [d] => { results := [.lit (.bool false)], args := [d] }
  | _ => none }
def StreamsSeenWrongFalsely : Prop := streamsSeenRow.holds Try.pinned (OpenSpec.ofChange streamsSeenWrong)

/-- 'tolllaw2.StreamEnds': WHATEVER THE INPUT: true; the input reads as it did. -/
def streamEndsSpec : ChangeSpec := { name := "streamEnds", fn := fun _ => fun
  | [d1, d2, d3] => { results := [.lit (.bool true)], args := [d1, d2, d3] }
  | _ => none }
def streamEndsRow : OpenClaim := { program := "ytdlaaollamgplad", sum := "b7d6b4546ff3f440a4c0a0151bba8f10d0287281f98c881d9f3f4edda802920d", func := "tollgate/tolllaw2.StreamEnds", spec := "streamEnds", apart := false }
def StreamEndsSaid : Prop := streamEndsRow.holds Try.pinned (OpenSpec.ofChange streamEndsSpec)

/-- ITS FALSE NEIGHBOUR: 'it returns false'. Refute it at one input. -/
def streamEndsWrong : ChangeSpec := { name := "streamEnds", fn := fun _ => fun
  | [d1, d2, d3] => { results := [.lit (.bool false)], args := [d1, d2, d3] }
  | _ => none }
def StreamEndsWrongFalsely : Prop := streamEndsRow.holds Try.pinned (OpenSpec.ofChange streamEndsWrong)

/-- 'tolllaw5.StreamsFull': WHATEVER THE INPUT: true; the input reads as it did. -/
def streamsFullSpec : ChangeSpec := { name := "streamsFull", fn := fun _ => fun
  | [d1, d2] => { results := [.lit (.bool true)], args := [d1, d2] }
  | _ => none }
def streamsFullRow : OpenClaim := { program := "ytdlaaollamgplad", sum := "b7d6b4546ff3f440a4c0a0151bba8f10d0287281f98c881d9f3f4edda802920d", func := "tollgate/tolllaw5.StreamsFull", spec := "streamsFull", apart := false }
def StreamsFullSaid : Prop := streamsFullRow.holds Try.pinned (OpenSpec.ofChange streamsFullSpec)

/-- ITS FALSE NEIGHBOUR: 'it returns false'. Refute it at one input. -/
def streamsFullWrong : ChangeSpec := { name := "streamsFull", fn := fun _ => fun
  | [d1, d2] => { results := [.lit (.bool false)], args := [d1, d2] }
  | _ => none }
def StreamsFullWrongFalsely : Prop := streamsFullRow.holds Try.pinned (OpenSpec.ofChange streamsFullWrong)

/- THE SECOND FORM. 'bulk': how many values and letters a reading holds, each counted each time it is reached (what is shared counts as often as it is met; a slice's spare places count too). A statement '..UptoSaid' is the law's where the arguments, and the package variables that the reading takes, are together of bulk at most 1048576: NARROWER than '..Said'. Prove '..Said' where nothing that the law and all that it calls make is longer than what came in: it says more and counts as full. Else prove '..UptoSaid'. A law counts once. -/
mutual
def uptoBulk {H : Type} : DataW H → Nat
  | .lit (.string bytes) => bytes.length + 1
  | .lit _ => 1
  | .nil => 1
  | .ptr d => uptoBulk d + 1
  | .slice elems spare => uptoBulkAll elems + uptoBulkAll spare + 1
  | .agg parts => uptoBulkAll parts + 1
  | .iface _ d => uptoBulk d + 1
  | .map entries => uptoBulkEntries entries + 1
  | .held _ => 1
def uptoBulkAll {H : Type} : List (DataW H) → Nat
  | [] => 0
  | d :: r => uptoBulk d + uptoBulkAll r
def uptoBulkEntries {H : Type} : List (Lit × DataW H) → Nat
  | [] => 0
  | x :: r => uptoBulkEntry x + uptoBulkEntries r
def uptoBulkEntry {H : Type} : Lit × DataW H → Nat
  | (.string bytes, d) => bytes.length + uptoBulk d + 1
  | (_, d) => uptoBulk d + 1
 end
def uptoSmall : (H : Type) → List (DataW H) → Bool := fun _ ds => decide (uptoBulkAll ds ≤ 1048576)
def OpenSpec.upto (s : _root_.Go.ChangeSpec) : _root_.Go.OpenSpec := { _root_.Go.OpenSpec.ofChange s with cond := some uptoSmall }

/-- 'tolllaw5.FrameRow', WHERE WHAT IT READS IS OF BULK AT MOST 1048576: true; the input reads as it did. -/
def frameRowUptoRow : OpenClaim := { program := "ytdlaaollamgplad", sum := "b7d6b4546ff3f440a4c0a0151bba8f10d0287281f98c881d9f3f4edda802920d", func := "tollgate/tolllaw5.FrameRow", spec := "frameRow", apart := false, narrowed := true }
def FrameRowUptoSaid : Prop := frameRowUptoRow.holds Try.pinned (OpenSpec.upto frameRowSpec)

/-- 'tolllaw2.StreamsSeen', WHERE WHAT IT READS IS OF BULK AT MOST 1048576: true; the input reads as it did. -/
def streamsSeenUptoRow : OpenClaim := { program := "ytdlaaollamgplad", sum := "b7d6b4546ff3f440a4c0a0151bba8f10d0287281f98c881d9f3f4edda802920d", func := "tollgate/tolllaw2.StreamsSeen", spec := "streamsSeen", apart := false, narrowed := true }
def StreamsSeenUptoSaid : Prop := streamsSeenUptoRow.holds Try.pinned (OpenSpec.upto streamsSeenSpec)

/-- 'tolllaw2.StreamEnds', WHERE WHAT IT READS IS OF BULK AT MOST 1048576: true; the input reads as it did. -/
def streamEndsUptoRow : OpenClaim := { program := "ytdlaaollamgplad", sum := "b7d6b4546ff3f440a4c0a0151bba8f10d0287281f98c881d9f3f4edda802920d", func := "tollgate/tolllaw2.StreamEnds", spec := "streamEnds", apart := false, narrowed := true }
def StreamEndsUptoSaid : Prop := streamEndsUptoRow.holds Try.pinned (OpenSpec.upto streamEndsSpec)

/-- 'tolllaw5.StreamsFull', WHERE WHAT IT READS IS OF BULK AT MOST 1048576: true; the input reads as it did. -/
def streamsFullUptoRow : OpenClaim := { program := "ytdlaaollamgplad", sum := "b7d6b4546ff3f440a4c0a0151bba8f10d0287281f98c881d9f3f4edda802920d", func := "tollgate/tolllaw5.StreamsFull", spec := "streamsFull", apart := false, narrowed := true }
def StreamsFullUptoSaid : Prop := streamsFullUptoRow.holds Try.pinned (OpenSpec.upto streamsFullSpec)

end Rows
end Go.Proofs.Ytdlaaollamgplad
