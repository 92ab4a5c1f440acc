/-
  DERIVED. GIVEN WITH THE SEED: THE CARDS: each row of YteohgkgahkkjlaaGreatDoorRows.lean that lists a variable, with what it lists TIED to the program's text (the seventh form; the later family's looks); each row that meets fmt, with fmt's text TOLD by the authors' own Lean function (tested against real Go, not proved from fmt's source: count such statements apart). THE CARD IS WHAT COUNTS. Prove the row's statement (the work); the ties are given (YteohgkgahkkjlaaGreatDoorTie.lean); close each card by the builder's one call (the guide's Derived/Test/ToyasCard.lean, 'card_holds'). Laid BY PROGRAM, IN A SANDBOX (cutbox-door.mjs). By AI agents, Wed Nov 11 2026. No macro, syntax, notation, axiom, sorry.
-/
import Derived.Test.YteohgkgahkkjlaaGreatDoorRows
import GoSem.ClaimSeven
namespace Go.Proofs.YteohgkgahkkjlaaGreatDoor
namespace Rows

/-- THE TIED CARD OF 'tolllaw3.LogReads'. -/
def logReadsCard : Claim7 := { stood := { row := logReadsRow, standIns := [], harness := (true, "b8a2fa31700df292e184bb2fc3aafb58a01a878f8a279d8d7cd6b363fa1f5386"), looks := true }, kinds := [], alts := [], laidByText := true, laidKinds := [.data, .data, .data, .data, .handle, .sentinel, .sentinel, .pinned], laidTests := true, laidLooks := .later }
def LogReadsCardSaid : Prop := Claim7.holds Tryz.pinned (.plain (OpenSpec.ofChange logReadsSpec)) logReadsCard

/-- THE TIED CARD OF 'tolllaw3.LogSums'. -/
def logSumsCard : Claim7 := { stood := { row := logSumsRow, standIns := [], harness := (true, "b8a2fa31700df292e184bb2fc3aafb58a01a878f8a279d8d7cd6b363fa1f5386"), looks := true }, kinds := [], alts := [], laidByText := true, laidKinds := [.handle], laidTests := true, laidLooks := .later }
def LogSumsCardSaid : Prop := Claim7.holds Tryz.pinned (.plain (OpenSpec.ofChange logSumsSpec)) logSumsCard

/-- THE SECOND FORM's CARD OF 'tolllaw3.LogReads'. -/
def logReadsUptoCard : Claim7 := { stood := { row := logReadsUptoRow, standIns := [], harness := (true, "b8a2fa31700df292e184bb2fc3aafb58a01a878f8a279d8d7cd6b363fa1f5386"), looks := true }, kinds := [], alts := [], laidByText := true, laidKinds := [.data, .data, .data, .data, .handle, .sentinel, .sentinel, .pinned], laidTests := true, laidLooks := .later }
def LogReadsUptoCardSaid : Prop := Claim7.holds Tryz.pinned (.plain (OpenSpec.upto logReadsSpec)) logReadsUptoCard

/-- THE SECOND FORM's CARD OF 'tolllaw3.LogSums'. -/
def logSumsUptoCard : Claim7 := { stood := { row := logSumsUptoRow, standIns := [], harness := (true, "b8a2fa31700df292e184bb2fc3aafb58a01a878f8a279d8d7cd6b363fa1f5386"), looks := true }, kinds := [], alts := [], laidByText := true, laidKinds := [.handle], laidTests := true, laidLooks := .later }
def LogSumsUptoCardSaid : Prop := Claim7.holds Tryz.pinned (.plain (OpenSpec.upto logSumsSpec)) logSumsUptoCard
end Rows
end Go.Proofs.YteohgkgahkkjlaaGreatDoor
