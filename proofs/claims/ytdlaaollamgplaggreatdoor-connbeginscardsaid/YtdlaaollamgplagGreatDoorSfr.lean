/-
  CONTRACT of the Go function tollsame.Frame, at frames that are alike. No claim by itself.
-/
import Derived.Test.YtdlaaollamgplagGreatDoorDfr4
import Derived.Test.YtdlaaollamgplagGreatDoorCspec
import Derived.Test.YtdlaaollamgplagGreatDoorTold
namespace Go.Proofs.YtdlaaollamgplagGreatDoor
open Go.RowKit
set_option maxRecDepth 100000
theorem string_empty {w : World} (a : Addr) (cap : Nat) : (convert 23 9 (.slice (some a) 0 cap)).run Tryz.prog w = .ok (.string (strOfNums [])) w := by
  rw [run_convert_bytes_string w 23 9 5 _ 0 cap Tryz.underlying23 Tryz.underlying5 Tryz.underlying9, run_bytesToString w a 0 cap [] (by simp [loadCells, loadCellsFrom])]
  rfl
/-- string(b) of bytes that were handed in. -/
theorem string_arg {w : World} {a : Option Addr} {len cap : Nat} {Z : List Int} (h : Arg w a len cap Z) :
    (convert 23 9 (.slice a len cap)).run Tryz.prog w = .ok (.string (strOfNums Z)) w := by
  rcases h with ⟨rfl, rfl⟩ | ⟨g, off, rfl, hr⟩
  · match a with
    | none => exact run_convert_bytes_nil (P := Tryz.prog) w 23 5 Tryz.underlying23 Tryz.underlying5 0 cap 9 Tryz.underlying9
    | some a => exact string_empty a cap
  · exact run_convert_bytes_arg w 23 5 Tryz.underlying23 Tryz.underlying5 g off len cap Z hr.hlen hr.hcell 9 Tryz.underlying9
theorem string_own {w : World} {base n : Nat} {v : Value} {L : List Int} (hl : L.length = n) (h : w.ownsRow base 5 1 v n (L.map (Value.int .u8))) : (convert 23 9 v).run Tryz.prog w = .ok (.string (strOfNums L)) w := by
  obtain ⟨h1, ⟨rfl, rfl⟩ | ⟨g, cap, cur, rfl, r⟩⟩ := h
  · have e : L = [] := List.eq_nil_of_length_eq_zero hl
    rw [e]
    exact run_convert_bytes_nil (P := Tryz.prog) w 23 5 Tryz.underlying23 Tryz.underlying5 0 0 9 Tryz.underlying9
  · exact string_of_row hl ⟨h1, Or.inr ⟨g, cap, cur, rfl, r⟩⟩ (Below.refl _ _)
end Go.Proofs.YtdlaaollamgplagGreatDoor
