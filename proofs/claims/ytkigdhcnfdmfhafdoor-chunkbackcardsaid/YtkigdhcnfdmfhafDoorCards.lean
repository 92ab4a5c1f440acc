/-
  DERIVED. GIVEN WITH THE SEED: THE CARDS: each row of YtkigdhcnfdmfhafDoorRows.lean that lists a variable, with what it lists TIED to the program's text (the seventh form; the later family's looks); each row that meets fmt, with fmt's text TOLD by the authors' own Lean function (tested against real Go, not proved from fmt's source: count such statements apart). THE CARD IS WHAT COUNTS. Prove the row's statement (the work); the ties are given (YtkigdhcnfdmfhafDoorTie.lean); close each card by the builder's one call (the guide's Derived/Test/ToyasCard.lean, 'card_holds'). Laid BY PROGRAM, IN A SANDBOX (cutbox-door.mjs). By AI agents, Wed Nov 11 2026. No macro, syntax, notation, axiom, sorry.
-/
import Derived.Test.YtkigdhcnfdmfhafDoorRows
import GoSem.ClaimSeven
namespace Go.Proofs.YtkigdhcnfdmfhafDoor
namespace Rows

/-- THE TIED CARD OF 'tolllaw2.ChunkBack'. -/
def chunkBackCard : Claim7 := { stood := { row := chunkBackRow, standIns := [], harness := (true, "c6e56b38b2bdcfa7d46b1046bc7efbb3255e4ec08798a4d71fb1162116880325"), looks := true }, kinds := [], alts := [], laidByText := true, laidKinds := [.data, .data, .data, .handle], laidTests := true, laidLooks := .later }
def ChunkBackCardSaid : Prop := Claim7.holds Tryd.pinned (.plain (OpenSpec.ofChange chunkBackSpec)) chunkBackCard

/-- THE TIED CARD OF 'tolllaw5.ChunkLengths'. -/
def chunkLengthsCard : Claim7 := { stood := { row := chunkLengthsRow, standIns := [], harness := (true, "c6e56b38b2bdcfa7d46b1046bc7efbb3255e4ec08798a4d71fb1162116880325"), looks := true }, kinds := [], alts := [], laidByText := true, laidKinds := [.data, .data, .data], laidTests := true, laidLooks := .later }
def ChunkLengthsCardSaid : Prop := Claim7.holds Tryd.pinned (.plain (OpenSpec.ofChange chunkLengthsSpec)) chunkLengthsCard

/-- THE SECOND FORM's CARD OF 'tolllaw2.ChunkBack'. -/
def chunkBackUptoCard : Claim7 := { stood := { row := chunkBackUptoRow, standIns := [], harness := (true, "c6e56b38b2bdcfa7d46b1046bc7efbb3255e4ec08798a4d71fb1162116880325"), looks := true }, kinds := [], alts := [], laidByText := true, laidKinds := [.data, .data, .data, .handle], laidTests := true, laidLooks := .later }
def ChunkBackUptoCardSaid : Prop := Claim7.holds Tryd.pinned (.plain (OpenSpec.upto chunkBackSpec)) chunkBackUptoCard

/-- THE SECOND FORM's CARD OF 'tolllaw5.ChunkLengths'. -/
def chunkLengthsUptoCard : Claim7 := { stood := { row := chunkLengthsUptoRow, standIns := [], harness := (true, "c6e56b38b2bdcfa7d46b1046bc7efbb3255e4ec08798a4d71fb1162116880325"), looks := true }, kinds := [], alts := [], laidByText := true, laidKinds := [.data, .data, .data], laidTests := true, laidLooks := .later }
def ChunkLengthsUptoCardSaid : Prop := Claim7.holds Tryd.pinned (.plain (OpenSpec.upto chunkLengthsSpec)) chunkLengthsUptoCard
end Rows
end Go.Proofs.YtkigdhcnfdmfhafDoor
