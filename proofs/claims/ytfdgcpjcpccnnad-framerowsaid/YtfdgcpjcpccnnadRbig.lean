/-
  CONTRACT of the Go function tollref1.Big, where it writes. No claim by itself.
-/
import Derived.Test.YtfdgcpjcpccnnadBig
namespace Go.Proofs.Ytfdgcpjcpccnnad
open Go.RowKit

end Go.Proofs.Ytfdgcpjcpccnnad
