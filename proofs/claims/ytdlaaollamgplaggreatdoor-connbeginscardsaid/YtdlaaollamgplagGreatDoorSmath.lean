/-
  A HEAD THAT IS SPLIT, SETTINGS: mathematics. No claim by itself.
-/
import Derived.Test.YtdlaaollamgplagGreatDoorFmath
namespace Go.Proofs.YtdlaaollamgplagGreatDoor
open Go
/-- How many frames a block of so many bytes makes. -/
def nP (len : Nat) : Nat := (len - 1) / 1024 + 1
/-- Piece j of a block. -/
def pc (Z : List Int) (j : Nat) : List Int := (Z.drop (1024 * j)).take 1024
/-- Frame j of a block of n frames. -/
def sfr (st : Int) (Z : List Int) (e : Bool) (n j : Nat) : Frm :=
  (if j = 0 then 1 else 2, (if j = 0 ∧ e = true then 1 else 0) + (if j + 1 = n then 4 else 0), st, pc Z j)
def splitL (st : Int) (Z : List Int) (e : Bool) : List Frm := (List.range (nP Z.length)).map (sfr st Z e (nP Z.length))
theorem nP_pos (len : Nat) : 0 < nP len := Nat.succ_pos _
theorem nP_le (len : Nat) : len ≤ 1024 * nP len := by unfold nP; omega
theorem nP_lt (len j : Nat) (h : j + 1 < nP len) : 1024 * (j + 1) < len := by unfold nP at h; omega
theorem nP_of (len j : Nat) (h : 1024 * j < len) : j < nP len := by unfold nP; omega
theorem nP_step (len j : Nat) (h : 1024 * j < len) (h' : len ≤ 1024 * (j + 1)) : nP len = j + 1 := by unfold nP; omega
theorem nP_zero : nP 0 = 1 := rfl
theorem splitL_len (st : Int) (Z : List Int) (e : Bool) : (splitL st Z e).length = nP Z.length := by simp [splitL]
theorem splitL_get (st : Int) (Z : List Int) (e : Bool) (j : Nat) (h : j < nP Z.length) : (splitL st Z e)[j]? = some (sfr st Z e (nP Z.length) j) := by
  simp [splitL, h]
theorem pc_len (Z : List Int) (j : Nat) : (pc Z j).length = min 1024 (Z.length - 1024 * j) := by simp [pc]
theorem pc_take (Z : List Int) : ∀ n, ((List.range n).map (pc Z)).flatten = Z.take (1024 * n)
  | 0 => by simp
  | n + 1 => by
    rw [List.range_succ, List.map_append, List.flatten_append, pc_take Z n]
    simp only [List.map_cons, List.map_nil, List.flatten_cons, List.flatten_nil, List.append_nil]
    unfold pc
    rw [show 1024 * (n + 1) = 1024 * n + 1024 by omega, List.take_add]
theorem pc_all (Z : List Int) : ((List.range (nP Z.length)).map (pc Z)).flatten = Z := by
  rw [pc_take, List.take_of_length_le (nP_le _)]
theorem sfr_ok (Z : List Int) (e : Bool) (n j : Nat) : frmE (sfr 3 Z e n j) = 0 := by
  have hl : (pc Z j).length ≤ 1024 := by rw [pc_len]; omega
  unfold frmE sfr
  simp only
  rw [if_neg (by split <;> split <;> split <;> omega), if_neg (by omega)]
/-- Settings as bytes. -/
def setL (l : List (Int × Int)) : List Int := (l.map (fun p => bigL 2 p.1 ++ bigL 4 p.2)).flatten
theorem setL_len : ∀ l : List (Int × Int), (setL l).length = 6 * l.length
  | [] => rfl
  | p :: r => by
    have := setL_len r
    unfold setL at this ⊢
    rw [List.map_cons, List.flatten_cons, List.length_append, this, List.length_append, bigL_len, bigL_len, List.length_cons]
    omega
theorem setL_snoc (l : List (Int × Int)) (p : Int × Int) : setL (l ++ [p]) = setL l ++ (bigL 2 p.1 ++ bigL 4 p.2) := by simp [setL]
/-- The numbers of setting j. -/
def sId (Z : List Int) (j : Nat) : Int := word ((Z.drop (6 * j)).take 2)
def sVal (Z : List Int) (j : Nat) : Int := word ((Z.drop (6 * j + 2)).take 4)
theorem word_nonneg : ∀ (L : List Int) (n : Int), 0 ≤ n → (∀ x ∈ L, 0 ≤ x) → 0 ≤ L.foldl (fun n x => n * 256 + x) n
  | [], n, h, _ => h
  | x :: r, n, h, hb => by
    rw [List.foldl_cons]
    have := hb x (by simp)
    exact word_nonneg r _ (by omega) (fun y hy => hb y (by simp [hy]))
end Go.Proofs.YtdlaaollamgplagGreatDoor
