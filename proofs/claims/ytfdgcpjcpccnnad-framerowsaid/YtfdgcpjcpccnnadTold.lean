/-
  CONTRACTS of plain.Told and tollsame.Error: of nil, and of an error that is an Errno. No claim by itself.
-/
import Derived.Test.YtfdgcpjcpccnnadAs
namespace Go.Proofs.Ytfdgcpjcpccnnad
open Go.RowKit

end Go.Proofs.Ytfdgcpjcpccnnad
