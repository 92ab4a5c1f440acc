/-
  DERIVED. GIVEN WITH THE SEED: THE CARDS: each row of YtmpkoidepohlaaaDoorRows.lean that lists a variable, with what it lists TIED to the program's text (the seventh form; the later family's looks); each row that meets fmt, with fmt's text TOLD by the authors' own Lean function (tested against real Go, not proved from fmt's source: count such statements apart). THE CARD IS WHAT COUNTS. Prove the row's statement (the work); the ties are given (YtmpkoidepohlaaaDoorTie.lean); close each card by the builder's one call (the guide's Derived/Test/ToyasCard.lean, 'card_holds'). Laid BY PROGRAM, IN A SANDBOX (cutbox-door.mjs). By AI agents, Wed Nov 11 2026. No macro, syntax, notation, axiom, sorry.
-/
import Derived.Test.YtmpkoidepohlaaaDoorRows
import GoSem.ClaimSeven
namespace Go.Proofs.YtmpkoidepohlaaaDoor
namespace Rows

/-- THE TIED CARD OF 'tolllaw1.WirePuts'. -/
def wirePutsCard : Claim7 := { stood := { row := wirePutsRow, standIns := [], harness := (true, "e0f1e5fc7301c1065e5331fa00baef6cc5e1be2d2a58c75be684cf4b30351cfd"), looks := true }, kinds := [], alts := [], laidByText := true, laidKinds := [.handle], laidTests := true, laidLooks := .later }
def WirePutsCardSaid : Prop := Claim7.holds Tryd.pinned (.plain (OpenSpec.ofChange wirePutsSpec)) wirePutsCard

/-- THE TIED CARD OF 'tolllaw1.WireBigs'. -/
def wireBigsCard : Claim7 := { stood := { row := wireBigsRow, standIns := [], harness := (true, "e0f1e5fc7301c1065e5331fa00baef6cc5e1be2d2a58c75be684cf4b30351cfd"), looks := true }, kinds := [], alts := [], laidByText := true, laidKinds := [.handle], laidTests := true, laidLooks := .later }
def WireBigsCardSaid : Prop := Claim7.holds Tryd.pinned (.plain (OpenSpec.ofChange wireBigsSpec)) wireBigsCard

/-- THE TIED CARD OF 'tolllaw1.WireBack'. -/
def wireBackCard : Claim7 := { stood := { row := wireBackRow, standIns := [], harness := (true, "e0f1e5fc7301c1065e5331fa00baef6cc5e1be2d2a58c75be684cf4b30351cfd"), looks := true }, kinds := [], alts := [], laidByText := true, laidKinds := [.handle], laidTests := true, laidLooks := .later }
def WireBackCardSaid : Prop := Claim7.holds Tryd.pinned (.plain (OpenSpec.ofChange wireBackSpec)) wireBackCard

/-- THE TIED CARD OF 'tolllaw1.CodeWrites'. -/
def codeWritesCard : Claim7 := { stood := { row := codeWritesRow, standIns := [], harness := (true, "e0f1e5fc7301c1065e5331fa00baef6cc5e1be2d2a58c75be684cf4b30351cfd"), looks := true }, kinds := [], alts := [], laidByText := true, laidKinds := [.handle], laidTests := true, laidLooks := .later }
def CodeWritesCardSaid : Prop := Claim7.holds Tryd.pinned (.plain (OpenSpec.ofChange codeWritesSpec)) codeWritesCard

/-- THE SECOND FORM's CARD OF 'tolllaw1.WirePuts'. -/
def wirePutsUptoCard : Claim7 := { stood := { row := wirePutsUptoRow, standIns := [], harness := (true, "e0f1e5fc7301c1065e5331fa00baef6cc5e1be2d2a58c75be684cf4b30351cfd"), looks := true }, kinds := [], alts := [], laidByText := true, laidKinds := [.handle], laidTests := true, laidLooks := .later }
def WirePutsUptoCardSaid : Prop := Claim7.holds Tryd.pinned (.plain (OpenSpec.upto wirePutsSpec)) wirePutsUptoCard

/-- THE SECOND FORM's CARD OF 'tolllaw1.WireBigs'. -/
def wireBigsUptoCard : Claim7 := { stood := { row := wireBigsUptoRow, standIns := [], harness := (true, "e0f1e5fc7301c1065e5331fa00baef6cc5e1be2d2a58c75be684cf4b30351cfd"), looks := true }, kinds := [], alts := [], laidByText := true, laidKinds := [.handle], laidTests := true, laidLooks := .later }
def WireBigsUptoCardSaid : Prop := Claim7.holds Tryd.pinned (.plain (OpenSpec.upto wireBigsSpec)) wireBigsUptoCard

/-- THE SECOND FORM's CARD OF 'tolllaw1.WireBack'. -/
def wireBackUptoCard : Claim7 := { stood := { row := wireBackUptoRow, standIns := [], harness := (true, "e0f1e5fc7301c1065e5331fa00baef6cc5e1be2d2a58c75be684cf4b30351cfd"), looks := true }, kinds := [], alts := [], laidByText := true, laidKinds := [.handle], laidTests := true, laidLooks := .later }
def WireBackUptoCardSaid : Prop := Claim7.holds Tryd.pinned (.plain (OpenSpec.upto wireBackSpec)) wireBackUptoCard

/-- THE SECOND FORM's CARD OF 'tolllaw1.CodeWrites'. -/
def codeWritesUptoCard : Claim7 := { stood := { row := codeWritesUptoRow, standIns := [], harness := (true, "e0f1e5fc7301c1065e5331fa00baef6cc5e1be2d2a58c75be684cf4b30351cfd"), looks := true }, kinds := [], alts := [], laidByText := true, laidKinds := [.handle], laidTests := true, laidLooks := .later }
def CodeWritesUptoCardSaid : Prop := Claim7.holds Tryd.pinned (.plain (OpenSpec.upto codeWritesSpec)) codeWritesUptoCard
end Rows
end Go.Proofs.YtmpkoidepohlaaaDoor
