/-
  CONTRACTS of the Go functions tollref1.pow and tollref1.Put. No claim by itself.
-/
import Derived.Test.YthphblmoeomeoacDoorPut
import Derived.Test.YthphblmoeomeoacDoorPow
namespace Go.Proofs.YthphblmoeomeoacDoor
open Go.RowKit
set_option maxRecDepth 100000

end Go.Proofs.YthphblmoeomeoacDoor
