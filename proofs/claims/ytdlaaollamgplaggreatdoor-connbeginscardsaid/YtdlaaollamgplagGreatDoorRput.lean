/-
  CONTRACTS of the Go functions tollref1.pow and tollref1.Put. No claim by itself.
-/
import Derived.Test.YtdlaaollamgplagGreatDoorPut
import Derived.Test.YtdlaaollamgplagGreatDoorPow
namespace Go.Proofs.YtdlaaollamgplagGreatDoor
open Go.RowKit
set_option maxRecDepth 100000

end Go.Proofs.YtdlaaollamgplagGreatDoor
