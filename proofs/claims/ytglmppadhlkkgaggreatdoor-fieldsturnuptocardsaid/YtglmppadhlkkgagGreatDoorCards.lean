/-
  DERIVED. GIVEN WITH THE SEED: THE CARDS: each row of YtglmppadhlkkgagGreatDoorRows.lean that lists a variable, with what it lists TIED to the program's text (the seventh form; the later family's looks); each row that meets fmt, with fmt's text TOLD by the authors' own Lean function (tested against real Go, not proved from fmt's source: count such statements apart). THE CARD IS WHAT COUNTS. Prove the row's statement (the work); the ties are given (YtglmppadhlkkgagGreatDoorTie.lean); close each card by the builder's one call (the guide's Derived/Test/ToyasCard.lean, 'card_holds'). Laid BY PROGRAM, IN A SANDBOX (cutbox-door.mjs). By AI agents, Wed Nov 11 2026. No macro, syntax, notation, axiom, sorry.
-/
import Derived.Test.YtglmppadhlkkgagGreatDoorRows
import GoSem.ClaimSeven
namespace Go.Proofs.YtglmppadhlkkgagGreatDoor
namespace Rows

/-- THE TIED CARD OF 'tolllaw2.FieldsTurn'. -/
def fieldsTurnCard : Claim7 := { stood := { row := fieldsTurnRow, standIns := [], harness := (true, "86ed46d6fe9f05610c88aaf7d75de4ea49c5111a2ab59b6de5725f968155c07b"), looks := true }, kinds := [], alts := [], laidByText := true, laidKinds := [.data, .data, .data, .data, .handle, .sentinel, .sentinel, .pinned], laidTests := true, laidLooks := .later }
def FieldsTurnCardSaid : Prop := Claim7.holds Tryz.pinned (.plain (OpenSpec.ofChange fieldsTurnSpec)) fieldsTurnCard

/-- THE TIED CARD OF 'tolllaw2.FieldsBack'. -/
def fieldsBackCard : Claim7 := { stood := { row := fieldsBackRow, standIns := [], harness := (true, "86ed46d6fe9f05610c88aaf7d75de4ea49c5111a2ab59b6de5725f968155c07b"), looks := true }, kinds := [], alts := [], laidByText := true, laidKinds := [.data, .data, .data, .data, .sentinel, .sentinel, .pinned], laidTests := true, laidLooks := .later }
def FieldsBackCardSaid : Prop := Claim7.holds Tryz.pinned (.plain (OpenSpec.ofChange fieldsBackSpec)) fieldsBackCard

/-- THE TIED CARD OF 'tolllaw4.ConnBegins'. -/
def connBeginsCard : Claim7 := { stood := { row := connBeginsRow, standIns := [], harness := (true, "86ed46d6fe9f05610c88aaf7d75de4ea49c5111a2ab59b6de5725f968155c07b"), looks := true }, kinds := [], alts := [], laidByText := true, laidKinds := [.data], laidTests := true, laidLooks := .later }
def ConnBeginsCardSaid : Prop := Claim7.holds Tryz.pinned (.plain (OpenSpec.ofChange connBeginsSpec)) connBeginsCard

/-- THE TIED CARD OF 'tolllaw4.ConnFaults'. -/
def connFaultsCard : Claim7 := { stood := { row := connFaultsRow, standIns := [], harness := (true, "86ed46d6fe9f05610c88aaf7d75de4ea49c5111a2ab59b6de5725f968155c07b"), looks := true }, kinds := [], alts := [], laidByText := true, laidKinds := [.handle, .data], laidTests := true, laidLooks := .later }
def ConnFaultsCardSaid : Prop := Claim7.holds Tryz.pinned (.plain (OpenSpec.ofChange connFaultsSpec)) connFaultsCard

/-- THE TIED CARD OF 'tolllaw4.ConnPieces'. -/
def connPiecesCard : Claim7 := { stood := { row := connPiecesRow, standIns := [], harness := (true, "86ed46d6fe9f05610c88aaf7d75de4ea49c5111a2ab59b6de5725f968155c07b"), looks := true }, kinds := [], alts := [], laidByText := true, laidKinds := [.data], laidTests := true, laidLooks := .later }
def ConnPiecesCardSaid : Prop := Claim7.holds Tryz.pinned (.plain (OpenSpec.ofChange connPiecesSpec)) connPiecesCard

/-- THE SECOND FORM's CARD OF 'tolllaw2.FieldsTurn'. -/
def fieldsTurnUptoCard : Claim7 := { stood := { row := fieldsTurnUptoRow, standIns := [], harness := (true, "86ed46d6fe9f05610c88aaf7d75de4ea49c5111a2ab59b6de5725f968155c07b"), looks := true }, kinds := [], alts := [], laidByText := true, laidKinds := [.data, .data, .data, .data, .handle, .sentinel, .sentinel, .pinned], laidTests := true, laidLooks := .later }
def FieldsTurnUptoCardSaid : Prop := Claim7.holds Tryz.pinned (.plain (OpenSpec.upto fieldsTurnSpec)) fieldsTurnUptoCard

/-- THE SECOND FORM's CARD OF 'tolllaw2.FieldsBack'. -/
def fieldsBackUptoCard : Claim7 := { stood := { row := fieldsBackUptoRow, standIns := [], harness := (true, "86ed46d6fe9f05610c88aaf7d75de4ea49c5111a2ab59b6de5725f968155c07b"), looks := true }, kinds := [], alts := [], laidByText := true, laidKinds := [.data, .data, .data, .data, .sentinel, .sentinel, .pinned], laidTests := true, laidLooks := .later }
def FieldsBackUptoCardSaid : Prop := Claim7.holds Tryz.pinned (.plain (OpenSpec.upto fieldsBackSpec)) fieldsBackUptoCard

/-- THE SECOND FORM's CARD OF 'tolllaw4.ConnBegins'. -/
def connBeginsUptoCard : Claim7 := { stood := { row := connBeginsUptoRow, standIns := [], harness := (true, "86ed46d6fe9f05610c88aaf7d75de4ea49c5111a2ab59b6de5725f968155c07b"), looks := true }, kinds := [], alts := [], laidByText := true, laidKinds := [.data], laidTests := true, laidLooks := .later }
def ConnBeginsUptoCardSaid : Prop := Claim7.holds Tryz.pinned (.plain (OpenSpec.upto connBeginsSpec)) connBeginsUptoCard

/-- THE SECOND FORM's CARD OF 'tolllaw4.ConnFaults'. -/
def connFaultsUptoCard : Claim7 := { stood := { row := connFaultsUptoRow, standIns := [], harness := (true, "86ed46d6fe9f05610c88aaf7d75de4ea49c5111a2ab59b6de5725f968155c07b"), looks := true }, kinds := [], alts := [], laidByText := true, laidKinds := [.handle, .data], laidTests := true, laidLooks := .later }
def ConnFaultsUptoCardSaid : Prop := Claim7.holds Tryz.pinned (.plain (OpenSpec.upto connFaultsSpec)) connFaultsUptoCard

/-- THE SECOND FORM's CARD OF 'tolllaw4.ConnPieces'. -/
def connPiecesUptoCard : Claim7 := { stood := { row := connPiecesUptoRow, standIns := [], harness := (true, "86ed46d6fe9f05610c88aaf7d75de4ea49c5111a2ab59b6de5725f968155c07b"), looks := true }, kinds := [], alts := [], laidByText := true, laidKinds := [.data], laidTests := true, laidLooks := .later }
def ConnPiecesUptoCardSaid : Prop := Claim7.holds Tryz.pinned (.plain (OpenSpec.upto connPiecesSpec)) connPiecesUptoCard
end Rows
end Go.Proofs.YtglmppadhlkkgagGreatDoor
