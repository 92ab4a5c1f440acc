/-
  CONTRACTS of the Go function tollref1.Get. No claim by itself.
-/
import Derived.Deep.RegionHeld3
import Derived.Deep.AppendLies
import Derived.Test.YtkjfhgoddhigmacDoorM19
import Derived.Test.YtkjfhgoddhigmacDoorM17
import Derived.Test.YtkjfhgoddhigmacDoorM18
namespace Go.Proofs.YtkjfhgoddhigmacDoor
open Go.RowKit
set_option maxRecDepth 100000

end Go.Proofs.YtkjfhgoddhigmacDoor
/-
  CONTRACT of the Go function tollref1.Decode, for at most 2097152 bytes. No claim by itself.
-/
namespace Go.Proofs.YtkjfhgoddhigmacDoor
open Go.RowKit
set_option maxRecDepth 100000
/-- What a reading of bytes as a text gives. -/
def ToldText (d : Option (List Int)) (st : ByteArray) (ok : Bool) : Prop :=
  (∃ t, d = some t ∧ ok = true ∧ st = strOfNums t) ∨ (d = none ∧ ok = false ∧ st = ⟨#[]⟩)
theorem string_of_own {w : World} {base n : Nat} {v : Value} {O : List Int} (hn : O.length = n) (h : w.ownsRow base 5 1 v n (O.map (Value.int .u8))) :
    (convert 29 9 v).run Tryd.prog w = .ok (.string (strOfNums O)) w := by
  obtain ⟨h1, ⟨rfl, h0⟩ | ⟨g, cap, cur, rfl, hb, hc, h2⟩⟩ := id h
  · have e : O = [] := List.eq_nil_of_length_eq_zero (by omega)
    rw [e, run_convert_bytes_nil (P := Tryd.prog) w 29 5 Tryd.underlying29 Tryd.underlying5 0 0 9 Tryd.underlying9]
    rfl
  · refine run_convert_bytes_arg w 29 5 Tryd.underlying29 Tryd.underlying5 g 0 n cap O hn (fun i hi => ?_) 9 Tryd.underlying9
    have hcc := h.cellAt i (by omega)
    rw [Nat.zero_add, hcc]
    simp [List.getElem?_eq_getElem (show i < O.length by omega)]
theorem mem_drop {U r : List Int} {y : Int} {t n : Nat} (h : U.drop t = y :: r) (hn : U.length = n) : ∀ z, z ∈ y :: r ↔ ∃ q, t ≤ q ∧ q < n ∧ U.getD q 0 = z := by
  intro z
  rw [← h]
  constructor
  · intro hz
    obtain ⟨i, hi, rfl⟩ := List.getElem_of_mem hz
    rw [List.length_drop] at hi
    refine ⟨t + i, by omega, by omega, ?_⟩
    rw [List.getElem_drop]
    simp [List.getD, List.getElem?_eq_getElem (show t + i < U.length by omega)]
  · rintro ⟨q, h1, h2, rfl⟩
    have e : U.getD q 0 = (U.drop t)[q - t]'(by rw [List.length_drop]; omega) := by
      rw [List.getElem_drop]
      have : t + (q - t) = q := by omega
      simp [List.getD, List.getElem?_eq_getElem (show q < U.length by omega), this]
    rw [e]
    exact List.getElem_mem _
theorem map_snoc (d : Option (List Int)) (O : List Int) (o : Int) : (d.map (o :: ·)).map (O ++ ·) = d.map ((O ++ [o]) ++ ·) := by
  cases d <;> simp
end Go.Proofs.YtkjfhgoddhigmacDoor
