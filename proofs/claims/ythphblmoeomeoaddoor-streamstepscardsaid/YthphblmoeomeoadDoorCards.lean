/-
  DERIVED. GIVEN WITH THE SEED: THE CARDS: each row of YthphblmoeomeoadDoorRows.lean that lists a variable, with what it lists TIED to the program's text (the seventh form; the later family's looks); each row that meets fmt, with fmt's text TOLD by the authors' own Lean function (tested against real Go, not proved from fmt's source: count such statements apart). THE CARD IS WHAT COUNTS. Prove the row's statement (the work); the ties are given (YthphblmoeomeoadDoorTie.lean); close each card by the builder's one call (the guide's Derived/Test/ToyasCard.lean, 'card_holds'). Laid BY PROGRAM, IN A SANDBOX (cutbox-door.mjs). By AI agents, Wed Nov 11 2026. No macro, syntax, notation, axiom, sorry.
-/
import Derived.Test.YthphblmoeomeoadDoorRows
import GoSem.ClaimSeven
namespace Go.Proofs.YthphblmoeomeoadDoor
namespace Rows

/-- THE TIED CARD OF 'tolllaw2.StreamSteps'. -/
def streamStepsCard : Claim7 := { stood := { row := streamStepsRow, standIns := [], harness := (true, "b39fe69d401b2e2589690bf521e81ad0f12c26ff08c08dcda4fe85aa01b2e026"), looks := true }, kinds := [], alts := [], laidByText := true, laidKinds := [.handle], laidTests := true, laidLooks := .later }
def StreamStepsCardSaid : Prop := Claim7.holds Tryd.pinned (.plain (OpenSpec.ofChange streamStepsSpec)) streamStepsCard

/-- THE SECOND FORM's CARD OF 'tolllaw2.StreamSteps'. -/
def streamStepsUptoCard : Claim7 := { stood := { row := streamStepsUptoRow, standIns := [], harness := (true, "b39fe69d401b2e2589690bf521e81ad0f12c26ff08c08dcda4fe85aa01b2e026"), looks := true }, kinds := [], alts := [], laidByText := true, laidKinds := [.handle], laidTests := true, laidLooks := .later }
def StreamStepsUptoCardSaid : Prop := Claim7.holds Tryd.pinned (.plain (OpenSpec.upto streamStepsSpec)) streamStepsUptoCard
end Rows
end Go.Proofs.YthphblmoeomeoadDoor
