/-
  BODIES IN PIECES: the document's Hex and Chunks. No claim by itself.
-/
import Derived.Test.YtdlaaollamgplagGreatDoorG2
namespace Go.Proofs.YtdlaaollamgplagGreatDoor
open Go.RowKit
set_option maxRecDepth 100000
def digitsS : ByteArray := ⟨#[48, 49, 50, 51, 52, 53, 54, 55, 56, 57, 97, 98, 99, 100, 101, 102]⟩
theorem ext_digit {d : Nat} (h : d < 16) : digitsS.extract d (d + 1) = strOfNums [hx d] := by
  match d with
  | 0 => rfl
  | 1 => rfl
  | 2 => rfl
  | 3 => rfl
  | 4 => rfl
  | 5 => rfl
  | 6 => rfl
  | 7 => rfl
  | 8 => rfl
  | 9 => rfl
  | 10 => rfl
  | 11 => rfl
  | 12 => rfl
  | 13 => rfl
  | 14 => rfl
  | 15 => rfl
  | d + 16 => omega
theorem str_app (A B : List Int) : strOfNums A ++ strOfNums B = strOfNums (A ++ B) := by
  apply ByteArray.ext
  rw [ByteArray.data_append]
  unfold strOfNums
  simp
theorem hex_nums (n : Nat) : unums (strOfNums (hexL n)) = hexL n := by
  have hb := bytes_hex n
  unfold unums
  rw [strOfNums_data, List.map_map]
  conv => rhs; rw [← List.map_id (hexL n)]
  apply List.map_congr_left
  intro x hx
  have := hb x hx
  simp [Function.comp]
  omega
end Go.Proofs.YtdlaaollamgplagGreatDoor
