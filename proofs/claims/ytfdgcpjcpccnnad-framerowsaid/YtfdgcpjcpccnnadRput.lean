/-
  CONTRACTS of the Go functions tollref1.pow and tollref1.Put. No claim by itself.
-/
import Derived.Test.YtfdgcpjcpccnnadPut
import Derived.Test.YtfdgcpjcpccnnadPow
namespace Go.Proofs.Ytfdgcpjcpccnnad
open Go.RowKit
set_option maxRecDepth 100000

end Go.Proofs.Ytfdgcpjcpccnnad
