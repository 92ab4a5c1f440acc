/-
  CONTRACT of the Go function tollref1.pow. No claim by itself.
-/
import Derived.Test.YtdlaaollamgplagGreatDoorProg
import Derived.Test.YtdlaaollamgplagGreatDoorMath
import Derived.WalkKit
import Derived.WalkLawsBesides
import Derived.WalkSpells
namespace Go.Proofs.YtdlaaollamgplagGreatDoor
open Go.RowKit

end Go.Proofs.YtdlaaollamgplagGreatDoor
