/-
  CONTRACTS of the Go functions tollref1.pow and tollref1.Put. No claim by itself.
-/
import Derived.Test.YtdlaaollamgpladPut
import Derived.Test.YtdlaaollamgpladPow
namespace Go.Proofs.Ytdlaaollamgplad
open Go.RowKit
set_option maxRecDepth 100000

end Go.Proofs.Ytdlaaollamgplad
