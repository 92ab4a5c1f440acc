/-
  CONTRACT of the Go function tollsame.Frame, at frames that are alike. No claim by itself.
-/
import Derived.Test.YtdlaaollamgpladDfr4
import Derived.Test.YtdlaaollamgpladCspec
import Derived.Test.YtdlaaollamgpladTold
namespace Go.Proofs.Ytdlaaollamgplad
open Go.RowKit
set_option maxRecDepth 100000
theorem string_empty {w : World} (a : Addr) (cap : Nat) : (convert 23 9 (.slice (some a) 0 cap)).run Try.prog w = .ok (.string (strOfNums [])) w := by
  rw [run_convert_bytes_string w 23 9 5 _ 0 cap Try.underlying23 Try.underlying5 Try.underlying9, run_bytesToString w a 0 cap [] (by simp [loadCells, loadCellsFrom])]
  rfl
/-- string(b) of bytes that were handed in. -/
theorem string_arg {w : World} {a : Option Addr} {len cap : Nat} {Z : List Int} (h : Arg w a len cap Z) :
    (convert 23 9 (.slice a len cap)).run Try.prog w = .ok (.string (strOfNums Z)) w := by
  rcases h with ⟨rfl, rfl⟩ | ⟨g, off, rfl, hr⟩
  · match a with
    | none => exact run_convert_bytes_nil (P := Try.prog) w 23 5 Try.underlying23 Try.underlying5 0 cap 9 Try.underlying9
    | some a => exact string_empty a cap
  · exact run_convert_bytes_arg w 23 5 Try.underlying23 Try.underlying5 g off len cap Z hr.hlen hr.hcell 9 Try.underlying9
theorem string_own {w : World} {base n : Nat} {v : Value} {L : List Int} (hl : L.length = n) (h : w.ownsRow base 5 1 v n (L.map (Value.int .u8))) : (convert 23 9 v).run Try.prog w = .ok (.string (strOfNums L)) w := by
  obtain ⟨h1, ⟨rfl, rfl⟩ | ⟨g, cap, cur, rfl, r⟩⟩ := h
  · have e : L = [] := List.eq_nil_of_length_eq_zero hl
    rw [e]
    exact run_convert_bytes_nil (P := Try.prog) w 23 5 Try.underlying23 Try.underlying5 0 0 9 Try.underlying9
  · exact string_of_row hl ⟨h1, Or.inr ⟨g, cap, cur, rfl, r⟩⟩ (Below.refl _ _)
set_option maxHeartbeats 4000000 in
theorem sframe_same (k fl st : Int) (a : Option Addr) (len cap : Nat) (b : Option Addr) (len' cap' : Nat) (Z : List Int) (w : World) (hA : Arg w a len cap Z) (hB : Arg w b len' cap' Z) :
    Calls Try.prog 9 #[.agg #[.int .i64 k, .int .i64 fl, .int .i64 st, .slice a len cap], .agg #[.int .i64 k, .int .i64 fl, .int .i64 st, .slice b len' cap']] w fun e w' => e = .returned (.bool true) ∧ Below w.heap.size w w' := by
  have hb : Below w.heap.size w ((w.alloc (.cells #[.int .i64 k, .int .i64 fl, .int .i64 st, .slice a len cap] 29)).alloc (.cells #[.int .i64 k, .int .i64 fl, .int .i64 st, .slice b len' cap'] 29)) := ((Below.refl _ _).alloc (Nat.le_refl _) _).alloc (by simp) _
  have c1 := string_arg (hA.below hb)
  have c2 := string_arg (hB.below hb)
  generalize strOfNums Z = S at *
  clear hA hB
  go_enter Try.func9, Try.ntmps9
  go_wp2
  go_ret
  exact ⟨by simp, by repeat (first | exact Below.refl _ _ | refine Below.alloc ?_ (by first | (simp; done) | (simp; omega)) _)⟩
end Go.Proofs.Ytdlaaollamgplad
