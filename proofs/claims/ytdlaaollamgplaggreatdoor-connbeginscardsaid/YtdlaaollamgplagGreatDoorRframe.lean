/-
  CONTRACT of the Go function tollref1.Frame. No claim by itself.
-/
import Derived.Test.YtdlaaollamgplagGreatDoorFmath
import Derived.Test.YtdlaaollamgplagGreatDoorRbig
import Derived.Test.YtdlaaollamgplagGreatDoorArg0
import Derived.Test.YtdlaaollamgplagGreatDoorTbase
import Derived.Laws.AppendOwn
import Derived.Handy
namespace Go.Proofs.YtdlaaollamgplagGreatDoor
open Go.RowKit
set_option maxRecDepth 100000
/-- What writing a frame gives: its bytes, or none and the fault. -/
def FrMade (w w' : World) (f : Frm) (v : Value) (k : Int) : Prop :=
  (frmE f = 0 ∧ k = 0 ∧ w'.ownsRow w.heap.size 5 1 v (frmL f).length ((frmL f).map (Value.int .u8))) ∨ (frmE f ≠ 0 ∧ k = frmE f ∧ v = .slice none 0 0)
theorem frm_told {w w' : World} {f : Frm} {k : Int} (h : frmE f = k) (hk : k ≠ 0) : FrMade w w' f (.slice none 0 0) k := Or.inr ⟨by rw [h]; exact hk, h.symm, rfl⟩
end Go.Proofs.YtdlaaollamgplagGreatDoor
