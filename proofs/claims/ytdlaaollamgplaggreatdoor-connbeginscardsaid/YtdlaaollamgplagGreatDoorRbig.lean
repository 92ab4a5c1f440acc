/-
  CONTRACT of the Go function tollref1.Big, where it writes. No claim by itself.
-/
import Derived.Test.YtdlaaollamgplagGreatDoorBig
namespace Go.Proofs.YtdlaaollamgplagGreatDoor
open Go.RowKit

end Go.Proofs.YtdlaaollamgplagGreatDoor
