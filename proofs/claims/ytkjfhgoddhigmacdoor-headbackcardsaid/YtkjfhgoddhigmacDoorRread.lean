/-
  CONTRACT of the Go function tollref1.ReadText. No claim by itself.
-/
import Derived.Test.YtkjfhgoddhigmacDoorRtext
import Derived.Test.YtkjfhgoddhigmacDoorRget
import Derived.Test.YtkjfhgoddhigmacDoorRdecode
import Derived.Test.YtkjfhgoddhigmacDoorArg0
import Derived.Deep.QuietTactic
import Derived.BigQuiet
namespace Go.Proofs.YtkjfhgoddhigmacDoor
open Go.RowKit
set_option maxRecDepth 100000
/-- A part of a row, wherever the cut lays it. -/
theorem cut_row {w : World} {g off len cap : Nat} {Z : List Int} (h : Row w g off len cap Z) (u n : Nat) (hun : u + n ≤ len) :
    ∃ o, (if cap = u then some (⟨g, off, none⟩ : Addr) else some ⟨g, off + u, none⟩) = some ⟨g, o, none⟩ ∧ Row w g o n (cap - u) ((Z.drop u).take n) := by
  have hl := h.hlen
  have hc := h.hcap
  have hm := h.hmax
  have hlen : ((Z.drop u).take n).length = n := by rw [List.length_take, List.length_drop]; omega
  have hby : ∀ t, 0 ≤ ((Z.drop u).take n).getD t 0 ∧ ((Z.drop u).take n).getD t 0 < 256 := fun t => by
    by_cases ht : t < n
    · have e : ((Z.drop u).take n).getD t 0 = Z.getD (u + t) 0 := by simp [List.getD, ht, List.getElem?_drop]
      rw [e]; exact h.hbyte _
    · have e : ((Z.drop u).take n).getD t 0 = 0 := by simp [List.getD, List.getElem?_take, ht]
      rw [e]; decide
  by_cases e : cap = u
  · refine ⟨off, by rw [if_pos e], hlen, by omega, by omega, fun t ht => by omega, hby⟩
  · refine ⟨off + u, by rw [if_neg e], hlen, by omega, by omega, fun t ht => ?_, hby⟩
    have e2 : ((Z.drop u).take n).getD t 0 = Z.getD (u + t) 0 := by simp [List.getD, ht, List.getElem?_drop]
    rw [e2, Nat.add_assoc]
    exact h.hcell _ (by omega)
theorem conv_row {w : World} {g off n cap : Nat} {O : List Int} (h : Row w g off n cap O) : (convert 29 9 (.slice (some ⟨g, off, none⟩) n cap)).run Tryd.prog w = .ok (.string (strOfNums O)) w :=
  run_convert_bytes_arg w 29 5 Tryd.underlying29 Tryd.underlying5 g off n cap O h.hlen h.hcell 9 Tryd.underlying9
theorem row_mem {w : World} {g off n cap : Nat} {O : List Int} (h : Row w g off n cap O) : ∀ x ∈ O, 0 ≤ x ∧ x < 256 := by
  intro x hx
  obtain ⟨i, hi, rfl⟩ := List.getElem_of_mem hx
  have := h.hbyte i
  simpa [List.getD, List.getElem?_eq_getElem hi] using this
/-- What is given back where a text is read. -/
def rval (Z : List Int) : Value := .tuple #[.string (strOfNums (rtF Z).1), .int .i64 (rtF Z).2.1, .int .i64 (rtF Z).2.2]
end Go.Proofs.YtkjfhgoddhigmacDoor
