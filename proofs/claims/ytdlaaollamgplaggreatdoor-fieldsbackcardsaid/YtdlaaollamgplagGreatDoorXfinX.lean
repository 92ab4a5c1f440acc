/-
  FROM THE ONE TO THE OTHER: what Ask answers, as FieldsBack asks it. No claim by itself.
-/
import Derived.Test.YtdlaaollamgplagGreatDoorYbkX
import Derived.Test.YtdlaaollamgplagGreatDoorYakdX
import Derived.Test.YtdlaaollamgplagGreatDoorG9
namespace Go.Proofs.YtdlaaollamgplagGreatDoor
open Go Go.RowKit
theorem xask_said : XAskSaid := fun a len cap L ba bn bc B w hd hA hl hs hB hnil hbn => xask_any a len cap L ba bn bc B w hd hA hl hs hB hnil hbn
end Go.Proofs.YtdlaaollamgplagGreatDoor
