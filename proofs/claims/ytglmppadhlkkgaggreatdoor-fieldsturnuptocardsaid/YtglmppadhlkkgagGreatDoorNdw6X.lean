/-
  MESSAGES AS LINES: the developers' Token and Plain, as they are asked. No claim by itself.
-/
import Derived.Test.YtglmppadhlkkgagGreatDoorNdw5X
namespace Go.Proofs.YtglmppadhlkkgagGreatDoor
open Go Go.RowKit Go.Shelf
theorem ntok_any : NTokSaid nld := fun s w _ hs => ntoken_any s w hs
theorem nplain_any : NPlainSaid nld := fun s w _ hs => nplain_any0 s w hs
end Go.Proofs.YtglmppadhlkkgagGreatDoor
