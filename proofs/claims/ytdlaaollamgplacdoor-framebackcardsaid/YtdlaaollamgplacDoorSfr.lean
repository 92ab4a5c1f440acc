/-
  CONTRACT of the Go function tollsame.Frame, at frames that are alike. No claim by itself.
-/
import Derived.Test.YtdlaaollamgplacDoorDfr4
import Derived.Test.YtdlaaollamgplacDoorCspec
import Derived.Test.YtdlaaollamgplacDoorTold
namespace Go.Proofs.YtdlaaollamgplacDoor
open Go.RowKit
set_option maxRecDepth 100000
theorem string_empty {w : World} (a : Addr) (cap : Nat) : (convert 29 9 (.slice (some a) 0 cap)).run Tryd.prog w = .ok (.string (strOfNums [])) w := by
  rw [run_convert_bytes_string w 29 9 5 _ 0 cap Tryd.underlying29 Tryd.underlying5 Tryd.underlying9, run_bytesToString w a 0 cap [] (by simp [loadCells, loadCellsFrom])]
  rfl
/-- string(b) of bytes that were handed in. -/
theorem string_arg {w : World} {a : Option Addr} {len cap : Nat} {Z : List Int} (h : Arg w a len cap Z) :
    (convert 29 9 (.slice a len cap)).run Tryd.prog w = .ok (.string (strOfNums Z)) w := by
  rcases h with ⟨rfl, rfl⟩ | ⟨g, off, rfl, hr⟩
  · match a with
    | none => exact run_convert_bytes_nil (P := Tryd.prog) w 29 5 Tryd.underlying29 Tryd.underlying5 0 cap 9 Tryd.underlying9
    | some a => exact string_empty a cap
  · exact run_convert_bytes_arg w 29 5 Tryd.underlying29 Tryd.underlying5 g off len cap Z hr.hlen hr.hcell 9 Tryd.underlying9
theorem string_own {w : World} {base n : Nat} {v : Value} {L : List Int} (hl : L.length = n) (h : w.ownsRow base 5 1 v n (L.map (Value.int .u8))) : (convert 29 9 v).run Tryd.prog w = .ok (.string (strOfNums L)) w := by
  obtain ⟨h1, ⟨rfl, rfl⟩ | ⟨g, cap, cur, rfl, r⟩⟩ := h
  · have e : L = [] := List.eq_nil_of_length_eq_zero hl
    rw [e]
    exact run_convert_bytes_nil (P := Tryd.prog) w 29 5 Tryd.underlying29 Tryd.underlying5 0 0 9 Tryd.underlying9
  · exact string_of_row hl ⟨h1, Or.inr ⟨g, cap, cur, rfl, r⟩⟩ (Below.refl _ _)
set_option maxHeartbeats 4000000 in
theorem sframe_same (k fl st : Int) (a : Option Addr) (len cap : Nat) (b : Option Addr) (len' cap' : Nat) (Z : List Int) (w : World) (hA : Arg w a len cap Z) (hB : Arg w b len' cap' Z) :
    Calls Tryd.prog 19 #[.agg #[.int .i64 k, .int .i64 fl, .int .i64 st, .slice a len cap], .agg #[.int .i64 k, .int .i64 fl, .int .i64 st, .slice b len' cap']] w fun e w' => e = .returned (.bool true) ∧ Below w.heap.size w w' := by
  have hb : Below w.heap.size w ((w.alloc (.cells #[.int .i64 k, .int .i64 fl, .int .i64 st, .slice a len cap] 43)).alloc (.cells #[.int .i64 k, .int .i64 fl, .int .i64 st, .slice b len' cap'] 43)) := ((Below.refl _ _).alloc (Nat.le_refl _) _).alloc (by simp) _
  have c1 := string_arg (hA.below hb)
  have c2 := string_arg (hB.below hb)
  generalize strOfNums Z = S at *
  clear hA hB
  go_enter Tryd.func19, Tryd.ntmps19
  go_wp2
  go_ret
  exact ⟨by simp, by repeat (first | exact Below.refl _ _ | refine Below.alloc ?_ (by first | (simp; done) | (simp; omega)) _)⟩
end Go.Proofs.YtdlaaollamgplacDoor
