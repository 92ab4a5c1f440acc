/-
  CONTRACT of the Go function tollref1.pow. No claim by itself.
-/
import Derived.Test.YtfdgcpjcpccnnadProg
import Derived.Test.YtfdgcpjcpccnnadMath
import Derived.WalkKit
import Derived.WalkLawsBesides
import Derived.WalkSpells
namespace Go.Proofs.Ytfdgcpjcpccnnad
open Go.RowKit

end Go.Proofs.Ytfdgcpjcpccnnad
