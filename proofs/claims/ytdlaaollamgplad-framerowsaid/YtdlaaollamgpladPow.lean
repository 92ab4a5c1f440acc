/-
  CONTRACT of the Go function tollref1.pow. No claim by itself.
-/
import Derived.Test.YtdlaaollamgpladProg
import Derived.Test.YtdlaaollamgpladMath
import Derived.WalkKit
import Derived.WalkLawsBesides
import Derived.WalkSpells
namespace Go.Proofs.Ytdlaaollamgplad
open Go.RowKit

end Go.Proofs.Ytdlaaollamgplad
