/-
  DERIVED. GIVEN WITH THE SEED: THE CARDS: each row of YtkaihfminlincagDoorRows.lean that lists a variable, with what it lists TIED to the program's text (the seventh form; the later family's looks); each row that meets fmt, with fmt's text TOLD by the authors' own Lean function (tested against real Go, not proved from fmt's source: count such statements apart). THE CARD IS WHAT COUNTS. Prove the row's statement (the work); the ties are given (YtkaihfminlincagDoorTie.lean); close each card by the builder's one call (the guide's Derived/Test/ToyasCard.lean, 'card_holds'). Laid BY PROGRAM, IN A SANDBOX (cutbox-door.mjs). By AI agents, Wed Nov 11 2026. No macro, syntax, notation, axiom, sorry.
-/
import Derived.Test.YtkaihfminlincagDoorRows
import GoSem.ClaimSeven
namespace Go.Proofs.YtkaihfminlincagDoor
namespace Rows

/-- THE TIED CARD OF 'tolllaw5.FieldsClean'. -/
def fieldsCleanCard : Claim7 := { stood := { row := fieldsCleanRow, standIns := [], harness := (true, "bda81c233520feb25c489a62b5cf5fba2744fd817b9fa9a8d78a56ad06262a1d"), looks := false }, kinds := [], alts := [], laidByText := true, laidKinds := [.data, .pinned], laidTests := true, laidLooks := .later }
def FieldsCleanCardSaid : Prop := Claim7.holds Tryd.pinned (.plain (OpenSpec.ofChange fieldsCleanSpec)) fieldsCleanCard

/-- THE SECOND FORM's CARD OF 'tolllaw5.FieldsClean'. -/
def fieldsCleanUptoCard : Claim7 := { stood := { row := fieldsCleanUptoRow, standIns := [], harness := (true, "bda81c233520feb25c489a62b5cf5fba2744fd817b9fa9a8d78a56ad06262a1d"), looks := false }, kinds := [], alts := [], laidByText := true, laidKinds := [.data, .pinned], laidTests := true, laidLooks := .later }
def FieldsCleanUptoCardSaid : Prop := Claim7.holds Tryd.pinned (.plain (OpenSpec.upto fieldsCleanSpec)) fieldsCleanUptoCard
end Rows
end Go.Proofs.YtkaihfminlincagDoor
