/-
  CONTRACTS of the Go functions tollref1.pow and tollref1.Put. No claim by itself.
-/
import Derived.Test.YtdlaaollamgplacDoorPut
import Derived.Test.YtdlaaollamgplacDoorPow
namespace Go.Proofs.YtdlaaollamgplacDoor
open Go.RowKit
set_option maxRecDepth 100000

end Go.Proofs.YtdlaaollamgplacDoor
