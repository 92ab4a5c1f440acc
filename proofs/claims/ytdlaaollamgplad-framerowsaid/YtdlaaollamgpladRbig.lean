/-
  CONTRACT of the Go function tollref1.Big, where it writes. No claim by itself.
-/
import Derived.Test.YtdlaaollamgpladBig
namespace Go.Proofs.Ytdlaaollamgplad
open Go.RowKit

end Go.Proofs.Ytdlaaollamgplad
