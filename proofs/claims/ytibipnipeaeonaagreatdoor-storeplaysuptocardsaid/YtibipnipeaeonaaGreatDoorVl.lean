/-
  FACTS THAT A WALK MUST NOT SEE. No claim by itself.
-/
import Derived.Test.YtibipnipeaeonaaGreatDoorProg
import Derived.WalkKit
import Derived.WalkLawsBesides
import Derived.WalkSpells
import Derived.OwnWalk
namespace Go.Proofs.YtibipnipeaeonaaGreatDoor
def Vl (p : Prop) : Prop := p
theorem vl {p : Prop} (h : p) : Vl p := h
theorem Vl.out {p : Prop} (h : Vl p) : p := h
end Go.Proofs.YtibipnipeaeonaaGreatDoor
