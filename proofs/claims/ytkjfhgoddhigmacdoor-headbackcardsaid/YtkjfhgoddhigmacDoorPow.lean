/-
  CONTRACT of the Go function tollref1.pow. No claim by itself.
-/
import Derived.Test.YtkjfhgoddhigmacDoorProg
import Derived.Test.YtkjfhgoddhigmacDoorMath
import Derived.WalkKit
import Derived.WalkLawsBesides
import Derived.WalkSpells
namespace Go.Proofs.YtkjfhgoddhigmacDoor
open Go.RowKit

end Go.Proofs.YtkjfhgoddhigmacDoor
