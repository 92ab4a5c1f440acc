/-
  DERIVED. GIVEN WITH THE SEED: THE CARDS: each row of YtjkjeegmfhaidadDoorRows.lean that lists a variable, with what it lists TIED to the program's text (the seventh form; the later family's looks); each row that meets fmt, with fmt's text TOLD by the authors' own Lean function (tested against real Go, not proved from fmt's source: count such statements apart). THE CARD IS WHAT COUNTS. Prove the row's statement (the work); the ties are given (YtjkjeegmfhaidadDoorTie.lean); close each card by the builder's one call (the guide's Derived/Test/ToyasCard.lean, 'card_holds'). Laid BY PROGRAM, IN A SANDBOX (cutbox-door.mjs). By AI agents, Wed Nov 11 2026. No macro, syntax, notation, axiom, sorry.
-/
import Derived.Test.YtjkjeegmfhaidadDoorRows
import GoSem.ClaimSeven
namespace Go.Proofs.YtjkjeegmfhaidadDoor
namespace Rows

/-- THE TIED CARD OF 'tolllaw2.StreamSteps'. -/
def streamStepsCard : Claim7 := { stood := { row := streamStepsRow, standIns := [], harness := (true, "eb3f22322c48b250acdbceb1b3473f2c6e41bf6003d78e689ddf6ea3e87fbdaf"), looks := true }, kinds := [], alts := [], laidByText := true, laidKinds := [.handle], laidTests := true, laidLooks := .later }
def StreamStepsCardSaid : Prop := Claim7.holds Tryd.pinned (.plain (OpenSpec.ofChange streamStepsSpec)) streamStepsCard

/-- THE TIED CARD OF 'tolllaw2.FlowPlays'. -/
def flowPlaysCard : Claim7 := { stood := { row := flowPlaysRow, standIns := [], harness := (true, "eb3f22322c48b250acdbceb1b3473f2c6e41bf6003d78e689ddf6ea3e87fbdaf"), looks := true }, kinds := [], alts := [], laidByText := true, laidKinds := [.handle], laidTests := true, laidLooks := .later }
def FlowPlaysCardSaid : Prop := Claim7.holds Tryd.pinned (.plain (OpenSpec.ofChange flowPlaysSpec)) flowPlaysCard

/-- THE SECOND FORM's CARD OF 'tolllaw2.StreamSteps'. -/
def streamStepsUptoCard : Claim7 := { stood := { row := streamStepsUptoRow, standIns := [], harness := (true, "eb3f22322c48b250acdbceb1b3473f2c6e41bf6003d78e689ddf6ea3e87fbdaf"), looks := true }, kinds := [], alts := [], laidByText := true, laidKinds := [.handle], laidTests := true, laidLooks := .later }
def StreamStepsUptoCardSaid : Prop := Claim7.holds Tryd.pinned (.plain (OpenSpec.upto streamStepsSpec)) streamStepsUptoCard

/-- THE SECOND FORM's CARD OF 'tolllaw2.FlowPlays'. -/
def flowPlaysUptoCard : Claim7 := { stood := { row := flowPlaysUptoRow, standIns := [], harness := (true, "eb3f22322c48b250acdbceb1b3473f2c6e41bf6003d78e689ddf6ea3e87fbdaf"), looks := true }, kinds := [], alts := [], laidByText := true, laidKinds := [.handle], laidTests := true, laidLooks := .later }
def FlowPlaysUptoCardSaid : Prop := Claim7.holds Tryd.pinned (.plain (OpenSpec.upto flowPlaysSpec)) flowPlaysUptoCard
end Rows
end Go.Proofs.YtjkjeegmfhaidadDoor
