/-
  CONTRACTS of the Go functions tollref1.pow and tollref1.Put. No claim by itself.
-/
import Derived.Test.YtfdgcpjcpccnnacDoorPut
import Derived.Test.YtfdgcpjcpccnnacDoorPow
namespace Go.Proofs.YtfdgcpjcpccnnacDoor
open Go.RowKit
set_option maxRecDepth 100000

end Go.Proofs.YtfdgcpjcpccnnacDoor
