/-
  WHAT DIFFERS IS KEPT APART: what the tie gives. No claim by itself.
-/
import Derived.Shelf.LaysM
import Derived.Test.YtibipnipeaeonaaGreatDoorSr10X
import Derived.Test.YtibipnipeaeonaaGreatDoorMY
import Derived.Test.YtibipnipeaeonaaGreatDoorMX
namespace Go.Proofs.YtibipnipeaeonaaGreatDoor
open Go Go.RowKit
theorem zmx_of {W : World} (h : W.ShapedOpen Tryz.prog) : mxP W := Go.Proofs.cell_of_shapedOpen_int (zero := #[.int .i64 0]) (t := 3) h (of_decide_eq_true (by kernel_rfl)) (by kernel_rfl) rfl (by kernel_rfl) (by kernel_rfl) Tryz.underlying3
theorem zgl_of {W : World} (h : W.ShapedOpen Tryz.prog) : 9 ≤ W.heap.size := by
  obtain ⟨o, _, ho, _⟩ := h.2 9 (of_decide_eq_true (by kernel_rfl)) (of_decide_eq_true (by kernel_rfl))
  exact Nat.le_of_lt (Array.getElem?_eq_some_iff.1 ho).1
end Go.Proofs.YtibipnipeaeonaaGreatDoor
