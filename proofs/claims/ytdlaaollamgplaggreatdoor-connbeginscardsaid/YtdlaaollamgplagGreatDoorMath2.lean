/-
  PLAIN MATHEMATICS for the proofs of this seat: numbers of fixed size, as bytes, the high ones first. Nothing of the program stands here. No claim by itself.
-/
import Derived.Test.YtdlaaollamgplagGreatDoorMath
namespace Go.Proofs.YtdlaaollamgplagGreatDoor
open Go
/-- The greatest number that so many bytes may stand for. -/
def most (s : Int) : Int := if s = 1 then 255 else if s = 2 then 65535 else if s = 3 then 16777215 else 2147483647
/-- What Big takes. -/
def bigOk (n s : Int) : Prop := 1 ≤ s ∧ s ≤ 4 ∧ 0 ≤ n ∧ n ≤ most s
/-- A number in so many bytes. -/
def bigL : Nat → Int → List Int
  | 0, _ => []
  | k + 1, n => (n / 256 ^ k % 256) :: bigL k n
theorem bigL_len : ∀ (k : Nat) (n : Int), (bigL k n).length = k
  | 0, _ => rfl
  | k + 1, n => by simp [bigL, bigL_len k n]
theorem bigL_byte : ∀ (k : Nat) (n : Int), ∀ x ∈ bigL k n, 0 ≤ x ∧ x < 256
  | 0, _, x, hx => by simp [bigL] at hx
  | k + 1, n, x, hx => by
    simp only [bigL, List.mem_cons] at hx
    rcases hx with rfl | hx
    · omega
    · exact bigL_byte k n x hx
theorem gr_8 (j : Nat) : gr (8 * (j : Int)) + 1 = 256 ^ j := by
  rw [← gr_p2, show (8 * (j : Int)).toNat = 8 * j from by omega]
  unfold p2
  rw [Int.pow_mul]; rfl
theorem pow256_bd (k : Nat) (hk : k ≤ 4) : 1 ≤ (256 : Int) ^ k ∧ (256 : Int) ^ k ≤ 4294967296 := by
  have h1 : (256 : Nat) ^ k ≤ 256 ^ 4 := Nat.pow_le_pow_right (by decide) hk
  have h2 : (0 : Nat) < 256 ^ k := Nat.pos_of_ne_zero (by simp)
  have e : ((256 ^ k : Nat) : Int) = (256 : Int) ^ k := by simp
  omega
/-- The number of bytes, the high ones first. -/
def word (Z : List Int) : Int := Z.foldl (fun n c => n * 256 + c) 0
theorem word_snoc (Z : List Int) (c : Int) : word (Z ++ [c]) = word Z * 256 + c := by simp [word]
theorem take_snoc (Z : List Int) (k : Nat) (hk : k < Z.length) : Z.take (k + 1) = Z.take k ++ [Z.getD k 0] := by
  rw [List.take_succ_eq_append_getElem hk]
  simp [List.getD, List.getElem?_eq_getElem hk]
theorem word_take (Z : List Int) (k : Nat) (hk : k < Z.length) : word (Z.take (k + 1)) = word (Z.take k) * 256 + Z.getD k 0 := by
  rw [take_snoc Z k hk, word_snoc]
theorem word_bd (Z : List Int) (hb : ∀ t, 0 ≤ Z.getD t 0 ∧ Z.getD t 0 < 256) : ∀ k, k ≤ Z.length → 0 ≤ word (Z.take k) ∧ word (Z.take k) < 256 ^ k
  | 0, _ => by simp [word]
  | k + 1, h => by
    have ih := word_bd Z hb k (by omega)
    have hc := hb k
    rw [word_take Z k (by omega), Int.pow_succ]
    omega
/-- The number in the first so many bytes, and the fault. -/
def readF (Z : List Int) (s : Int) : Int × Int :=
  if s < 1 ∨ 4 < s then (0, 1) else if (Z.length : Int) < s then (0, 8) else if 2147483647 < word (Z.take s.toNat) then (0, 10) else (word (Z.take s.toNat), 0)
theorem shl_or (n c : Int) (h0 : 0 ≤ n) (h1 : n < 4294967296) (h2 : 0 ≤ c) (h3 : c < 256) : bits .or .i64 (n * 256) c = n * 256 + c :=
  i64_or_join 8 (n * 256) c (by omega) (by omega) (by omega) h2 (by omega) (by omega)
end Go.Proofs.YtdlaaollamgplagGreatDoor
