/-
  CONNECTIONS TO PLACES: what Take does, as mathematics. No claim by itself.
-/
import Derived.Test.YtibjbdcmhjbndaaDoorLo1
import Derived.Test.YtibjbdcmhjbndaaDoorNdv4
namespace Go.Proofs.YtibjbdcmhjbndaaDoor
open Go Go.RowKit
set_option maxRecDepth 100000
def takeT (S : Po) (to : ByteArray) : Int × Bool × Int × Po := if tokL (unums to) = true then takeF S to else (0, false, 2, S)
theorem take_no {S : Po} {to : ByteArray} (h : tokL (unums to) = false) : takeT S to = (0, false, 2, S) := by unfold takeT; rw [h]; rfl
theorem take_again {S : Po} {to : ByteArray} (h : tokL (unums to) = true) {x : Lk} (hb : bestK S.L to = some x) : takeT S to = (x.id, false, 0, ⟨S.many, S.last, S.now, S.turn, mapK S.L x.id setB⟩) := by
  unfold takeT takeF; rw [if_pos h, hb]
theorem take_full {S : Po} {to : ByteArray} (h : tokL (unums to) = true) (hI : PoI S) (hb : bestK S.L to = none) (hf : S.many ≤ (nB S.L : Int)) : takeT S to = (0, false, 4, S) := by
  have h1 := nB_nI S.L
  have h2 := hI.len
  have h3 : oldK S.L = none := old_none.2 (by omega)
  unfold takeT takeF
  rw [if_pos h, hb]
  simp only
  rw [if_pos (by omega), h3]
theorem take_old {S : Po} {to : ByteArray} (h : tokL (unums to) = true) {o : Lk} (hb : bestK S.L to = none) (hf : S.many ≤ (nB S.L : Int) + (nI S.L : Int)) (ho : oldK S.L = some o) :
    takeT S to = (S.last + 1, true, 0, ⟨S.many, S.last + 1, S.now, S.turn, dropK S.L o.id ++ [newK (S.last + 1) to]⟩) := by
  have h1 := nB_nI S.L
  unfold takeT takeF
  rw [if_pos h, hb]
  simp only
  rw [if_pos (by omega), ho]
theorem take_new {S : Po} {to : ByteArray} (h : tokL (unums to) = true) (hb : bestK S.L to = none) (hf : (nB S.L : Int) + (nI S.L : Int) < S.many) :
    takeT S to = (S.last + 1, true, 0, ⟨S.many, S.last + 1, S.now, S.turn, S.L ++ [newK (S.last + 1) to]⟩) := by
  have h1 := nB_nI S.L
  unfold takeT takeF
  rw [if_pos h, hb]
  simp only
  rw [if_neg (by omega)]
end Go.Proofs.YtibjbdcmhjbndaaDoor
