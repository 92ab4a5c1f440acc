/-
  CONTRACTS of the Go functions tollref1.pow and tollref1.Put. No claim by itself.
-/
import Derived.Test.YtkjfhgoddhigmacDoorPut
import Derived.Test.YtkjfhgoddhigmacDoorPow
namespace Go.Proofs.YtkjfhgoddhigmacDoor
open Go.RowKit
set_option maxRecDepth 100000

end Go.Proofs.YtkjfhgoddhigmacDoor
