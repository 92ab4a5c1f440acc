/-
  CONTRACT of the Go function tollref1.ReadText. No claim by itself.
-/
import Derived.Test.YtkjfhgoddhigmabDoorRtext
import Derived.Test.YtkjfhgoddhigmabDoorRget
import Derived.Test.YtkjfhgoddhigmabDoorRdecode
import Derived.Test.YtkjfhgoddhigmabDoorArg0
import Derived.Deep.QuietTactic
import Derived.BigQuiet
namespace Go.Proofs.YtkjfhgoddhigmabDoor
open Go.RowKit
set_option maxRecDepth 100000
/-- A part of a row, wherever the cut lays it. -/
theorem cut_row {w : World} {g off len cap : Nat} {Z : List Int} (h : Row w g off len cap Z) (u n : Nat) (hun : u + n ≤ len) :
    ∃ o, (if cap = u then some (⟨g, off, none⟩ : Addr) else some ⟨g, off + u, none⟩) = some ⟨g, o, none⟩ ∧ Row w g o n (cap - u) ((Z.drop u).take n) := by
  have hl := h.hlen
  have hc := h.hcap
  have hm := h.hmax
  have hlen : ((Z.drop u).take n).length = n := by rw [List.length_take, List.length_drop]; omega
  have hby : ∀ t, 0 ≤ ((Z.drop u).take n).getD t 0 ∧ ((Z.drop u).take n).getD t 0 < 256 := fun t => by
    by_cases ht : t < n
    · have e : ((Z.drop u).take n).getD t 0 = Z.getD (u + t) 0 := by simp [List.getD, ht, List.getElem?_drop]
      rw [e]; exact h.hbyte _
    · have e : ((Z.drop u).take n).getD t 0 = 0 := by simp [List.getD, List.getElem?_take, ht]
      rw [e]; decide
  by_cases e : cap = u
  · refine ⟨off, by rw [if_pos e], hlen, by omega, by omega, fun t ht => by omega, hby⟩
  · refine ⟨off + u, by rw [if_neg e], hlen, by omega, by omega, fun t ht => ?_, hby⟩
    have e2 : ((Z.drop u).take n).getD t 0 = Z.getD (u + t) 0 := by simp [List.getD, ht, List.getElem?_drop]
    rw [e2, Nat.add_assoc]
    exact h.hcell _ (by omega)
theorem conv_row {w : World} {g off n cap : Nat} {O : List Int} (h : Row w g off n cap O) : (convert 50 9 (.slice (some ⟨g, off, none⟩) n cap)).run Tryd.prog w = .ok (.string (strOfNums O)) w :=
  run_convert_bytes_arg w 50 5 Tryd.underlying50 Tryd.underlying5 g off n cap O h.hlen h.hcell 9 Tryd.underlying9
theorem row_mem {w : World} {g off n cap : Nat} {O : List Int} (h : Row w g off n cap O) : ∀ x ∈ O, 0 ≤ x ∧ x < 256 := by
  intro x hx
  obtain ⟨i, hi, rfl⟩ := List.getElem_of_mem hx
  have := h.hbyte i
  simpa [List.getD, List.getElem?_eq_getElem hi] using this
/-- What is given back where a text is read. -/
def rval (Z : List Int) : Value := .tuple #[.string (strOfNums (rtF Z).1), .int .i64 (rtF Z).2.1, .int .i64 (rtF Z).2.2]
set_option maxHeartbeats 4000000 in
theorem rread_bad (a : Option Addr) (len cap : Nat) (Z : List Int) (w : World) (n u k : Int) (hl : Z.length = len) (hg : getF Z 7 = (n, u, k)) (hu0 : 0 ≤ u) (hu1 : u ≤ len) (hlm : len ≤ 4611686018427387904)
    (hget : Calls Tryd.prog 37 #[.slice a len cap, .int .i64 7] w fun e w' => e = .returned (.tuple #[.int .i64 n, .int .i64 u, .int .i64 k]) ∧ w = w') (hbad : k ≠ 0 ∨ 400 < n ∨ (len : Int) - u < n) :
    Calls Tryd.prog 24 #[.slice a len cap] w fun e w' => e = .returned (rval Z) ∧ Below w.heap.size w w' := by
  have HG := hide hg
  have hu0' := hu0
  have hlm' := hlm
  clear hu0 hlm
  by_cases hk : k = 0
  · subst hk
    by_cases h4 : 400 < n
    · have E : Hid (rval Z = .tuple #[.string ⟨#[]⟩, .int .i64 0, .int .i64 4]) := by
        show rval Z = _
        unfold rval rtF; rw [HG.out, if_neg (by simp), if_pos h4]; rfl
      have hd : decide (400 < n) = true := by simpa using h4
      clear hg hbad
      go_enter Tryd.func24, Tryd.ntmps24
      go_wp2_with fail
      refine hget.mono ?_
      rintro e w' ⟨rfl, rfl⟩
      clear hget
      go_wp2
      go_ret3
      exact ⟨by rw [E.out]; rfl, Below.refl _ _⟩
    · have h8 : (len : Int) - u < n := by omega
      have E : Hid (rval Z = .tuple #[.string ⟨#[]⟩, .int .i64 0, .int .i64 8]) := by
        show rval Z = _
        unfold rval rtF; rw [HG.out, if_neg (by simp), if_neg h4, if_pos (by rw [hl]; exact h8)]; rfl
      have hd : decide (400 < n) = false := by simp; omega
      have hd2 : decide ((len : Int) - u < n) = true := by simpa using h8
      clear hg hbad
      go_enter Tryd.func24, Tryd.ntmps24
      go_wp2_with fail
      refine hget.mono ?_
      rintro e w' ⟨rfl, rfl⟩
      clear hget
      go_wp2
      go_ret3
      exact ⟨by rw [E.out]; rfl, Below.refl _ _⟩
  · have E : Hid (rval Z = .tuple #[.string ⟨#[]⟩, .int .i64 0, .int .i64 k]) := by
      show rval Z = _
      unfold rval rtF; rw [HG.out, if_pos hk]; rfl
    have hd : (k != 0) = true := by simpa using hk
    clear hg hbad
    go_enter Tryd.func24, Tryd.ntmps24
    go_wp2_with fail
    refine hget.mono ?_
    rintro e w' ⟨rfl, rfl⟩
    clear hget
    go_wp2
    go_ret3
    exact ⟨by rw [E.out]; rfl, Below.refl _ _⟩
end Go.Proofs.YtkjfhgoddhigmabDoor
