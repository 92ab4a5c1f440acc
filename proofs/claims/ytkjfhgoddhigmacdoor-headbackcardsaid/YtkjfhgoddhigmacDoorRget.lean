/-
  CONTRACTS of the Go function tollref1.Get. No claim by itself.
-/
import Derived.Test.YtkjfhgoddhigmacDoorGet
import Derived.Test.YtkjfhgoddhigmacDoorRput
namespace Go.Proofs.YtkjfhgoddhigmacDoor
open Go.RowKit
set_option maxRecDepth 100000

end Go.Proofs.YtkjfhgoddhigmacDoor
