/-
  WHAT WAS DONE: the document's answer, a number of digits. No claim by itself.
-/
import Derived.Test.YteohgkgahkkjlaaGreatDoorH2
import Derived.Test.YteohgkgahkkjlaaGreatDoorWr4
namespace Go.Proofs.YteohgkgahkkjlaaGreatDoor
open Go Go.RowKit
set_option maxRecDepth 100000
theorem hdec_len : ∀ (j n : Nat), n < 10 ^ (j + 1) → (decL n).length ≤ j + 1
  | 0, n, h => by rw [decL_one (by simpa using h)]; simp
  | j + 1, n, h => by
    by_cases h1 : n < 10
    · rw [decL_one h1]; simp
    · rw [decL_more h1, List.length_append]
      have := hdec_len j (n / 10) (by rw [Nat.pow_succ] at h; omega)
      simp
      omega
theorem hdec_first : ∀ n : Nat, 1 ≤ n → (decL n).getD 0 0 ≠ 48 := by
  intro n
  induction n using Nat.strongRecOn with
  | _ n ih =>
    intro h1
    by_cases h : n < 10
    · rw [decL_one h, dc_at h]
      simp
      omega
    · rw [decL_more h]
      have hp := decL_pos (n / 10)
      have e : (decL (n / 10) ++ [dc (n % 10)]).getD 0 0 = (decL (n / 10)).getD 0 0 := by
        rw [List.getD, List.getElem?_append_left (by omega)]
        rfl
      rw [e]
      exact ih (n / 10) (by omega) (by omega)
theorem hdec_step {n d : Nat} (hn : 1 ≤ n) (hd : d < 10) : decL (n * 10 + d) = decL n ++ [dc d] := by
  rw [decL_more (by omega), show (n * 10 + d) / 10 = n by omega, show (n * 10 + d) % 10 = d by omega]
/-- What the document's number says of a text. -/
def NumQ (v : Int) (Z : List Int) : Prop := (∃ n : Nat, n < 10000000 ∧ Z = decL n ∧ v = (n : Int)) ∨ (v = -1 ∧ ∀ n : Nat, n < 10000000 → Z ≠ decL n)
/-- How far it has read. -/
def NQ (Z : List Int) (k m : Nat) : Prop := m < 10 ^ k ∧ (k = 0 ∨ Z.take k = decL m) ∧ (1 ≤ k → 1 < Z.length → 1 ≤ m)
theorem nq_zero (Z : List Int) : NQ Z 0 0 := ⟨by simp, Or.inl rfl, fun h => by omega⟩
theorem take_more {Z : List Int} {k : Nat} (h : k < Z.length) : Z.take (k + 1) = Z.take k ++ [Z.getD k 0] := by
  rw [List.take_add_one, List.getD, List.getElem?_eq_getElem h]
  rfl
theorem nq_step {Z : List Int} {k m d : Nat} (h : NQ Z k m) (hk : k < Z.length) (hz : Z.getD k 0 = 48 + (d : Int)) (hd : d < 10) (hf : 1 < Z.length → Z.getD 0 0 ≠ 48) : NQ Z (k + 1) (m * 10 + d) := by
  obtain ⟨h1, h2, h3⟩ := h
  refine ⟨by rw [Nat.pow_succ]; omega, Or.inr ?_, fun _ hl => ?_⟩
  · rw [take_more hk, hz, ← dc_at hd]
    rcases h2 with rfl | h2
    · have : m = 0 := by simpa using h1
      subst this
      rw [Nat.zero_mul, Nat.zero_add, decL_one hd]
      rfl
    · by_cases hm : 1 ≤ m
      · rw [h2, hdec_step hm hd]
      · exfalso
        have hk0 : k ≠ 0 := fun e => by
          subst e
          have := decL_pos m
          rw [← h2] at this
          simp at this
        exact hm (h3 (by omega) (by omega))
  · by_cases hk0 : k = 0
    · subst hk0
      have := hf hl
      rw [hz] at this
      omega
    · have := h3 (by omega) hl
      omega
theorem nq_end {Z : List Int} {m : Nat} (h : NQ Z Z.length m) (h0 : Z ≠ []) (h7 : Z.length ≤ 7) : NumQ (m : Int) Z := by
  obtain ⟨h1, h2, _⟩ := h
  refine Or.inl ⟨m, ?_, ?_, rfl⟩
  · have := Nat.pow_le_pow_right (n := 10) (by omega) h7
    omega
  · rcases h2 with h2 | h2
    · exact absurd (List.length_eq_zero_iff.1 h2) h0
    · rw [List.take_length] at h2
      exact h2
theorem nq_no {Z : List Int} {k : Nat} (hk : k < Z.length) (hd : Z.getD k 0 < 48 ∨ 57 < Z.getD k 0) : NumQ (-1) Z := by
  refine Or.inr ⟨rfl, fun n _ e => ?_⟩
  have hm : Z.getD k 0 ∈ Z := by
    rw [List.getD, List.getElem?_eq_getElem hk]
    exact List.getElem_mem _
  rw [e] at hm
  have := decL_ge n _ hm
  rw [e] at hd
  omega
theorem nq_bad {Z : List Int} (h : Z = [] ∨ 7 < Z.length ∨ (1 < Z.length ∧ Z.getD 0 0 = 48)) : NumQ (-1) Z := by
  refine Or.inr ⟨rfl, fun n hn e => ?_⟩
  rw [e] at h
  rcases h with h | h | ⟨h, h'⟩
  · have := decL_pos n
    rw [h] at this
    simp at this
  · have := hdec_len 6 n (by omega)
    omega
  · by_cases h1 : 1 ≤ n
    · exact hdec_first n h1 h'
    · obtain rfl : n = 0 := by omega
      rw [decL_one (by omega)] at h
      simp at h
end Go.Proofs.YteohgkgahkkjlaaGreatDoor
