/-
  MESSAGES AS LINES: the document's Fields, Ask, Tell (what is wrong with them). No claim by itself.
-/
import Derived.Test.YtkaihfminlincafGreatDoorNtok
namespace Go.Proofs.YtkaihfminlincafGreatDoor
open Go.RowKit
set_option maxRecDepth 100000
theorem fds_len (L : List (ByteArray × ByteArray)) : (fdsOf L).length = L.length := by simp [fdsOf]
theorem fds_drop {L : List (ByteArray × ByteArray)} {k : Nat} (h : k < L.length) : (fdsOf L).drop k = (unums (L.getD k fnone).1, unums (L.getD k fnone).2) :: (fdsOf L).drop (k + 1) := by
  have h' : k < (fdsOf L).length := by rw [fds_len]; exact h
  rw [List.drop_eq_getElem_cons h']
  simp [fdsOf, List.getD, List.getElem?_eq_getElem h]
theorem toL_lit {s : ByteArray} {l : List UInt8} : s.toList = l ↔ unums s = l.map fun c => (c.toNat : Int) := by
  rw [ByteArray.toList_eq]
  unfold unums
  constructor
  · intro h; rw [h]
  · intro h
    exact (List.map_inj_right (fun a b e => by apply UInt8.toNat_inj.1; have e' : ((a.toNat : Int)) = ((b.toNat : Int)) := e; omega)).1 h
theorem toL_host {s : ByteArray} : s.toList = [104, 111, 115, 116] ↔ unums s = hostN := toL_lit
theorem toL_length {s : ByteArray} : s.toList = [108, 101, 110, 103, 116, 104] ↔ unums s = lengthN := toL_lit
theorem toL_coding {s : ByteArray} : s.toList = [99, 111, 100, 105, 110, 103] ↔ unums s = codingN := toL_lit
end Go.Proofs.YtkaihfminlincafGreatDoor
