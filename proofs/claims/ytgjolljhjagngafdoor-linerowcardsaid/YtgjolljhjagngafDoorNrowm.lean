/-
  MESSAGES AS LINES: requests in a row, written one behind the other and read one by one. No claim by itself.
-/
import Derived.Test.YtgjolljhjagngafDoorNlike
namespace Go.Proofs.YtgjolljhjagngafDoor
/-- What is written of the first k of them. -/
def rowsL (R : List Rq) (k : Nat) : List Int := ((R.take k).map askL).flatten
theorem rows_zero (R : List Rq) : rowsL R 0 = [] := by simp [rowsL]
theorem rows_succ {R : List Rq} {k : Nat} (h : k < R.length) : rowsL R (k + 1) = rowsL R k ++ askL (R.getD k default) := by
  unfold rowsL
  have e : R.getD k default = R[k] := by simp [List.getD, List.getElem?_eq_getElem h]
  rw [e, List.take_add_one, List.getElem?_eq_getElem h]
  simp only [Option.toList_some, List.map_append, List.map_cons, List.map_nil, List.flatten_append, List.flatten_cons, List.flatten_nil, List.append_nil]
/-- What is left when i of k are read. -/
def leftL (R : List Rq) (i k : Nat) : List Int := (((R.take k).drop i).map askL).flatten
theorem left_zero (R : List Rq) (k : Nat) : leftL R 0 k = rowsL R k := by simp [leftL, rowsL]
theorem left_end (R : List Rq) (k : Nat) : leftL R k k = [] := by simp [leftL]
theorem left_more {R : List Rq} {i k : Nat} (h : i < k) (hk : k ≤ R.length) : leftL R i k = askL (R.getD i default) ++ leftL R (i + 1) k := by
  unfold leftL
  have hl : i < (R.take k).length := by simp; omega
  rw [List.drop_eq_getElem_cons hl]
  simp only [List.map_cons, List.flatten_cons, List.getElem_take]
  rw [show R.getD i default = R[i]'(by omega) from by simp [List.getD, List.getElem?_eq_getElem (show i < R.length by omega)]]
theorem ask_len (r : Rq) : 1 ≤ (askL r).length := by
  unfold askL
  simp
  omega
theorem left_read {R : List Rq} {i k : Nat} (h : i < k) (hk : k ≤ R.length) (he : askE (R.getD i default) = 0) : endF askP (leftL R i k) = (0, R.getD i default, ((askL (R.getD i default)).length : Int)) := by
  rw [left_more h hk]
  exact endF_at (ask_say he _)
theorem left_drop {R : List Rq} {i k : Nat} (h : i < k) (hk : k ≤ R.length) : (leftL R i k).drop (askL (R.getD i default)).length = leftL R (i + 1) k := by
  rw [left_more h hk]
  simp
theorem rows_len {R : List Rq} : ∀ k, (∀ i, i < k → (askL (R.getD i default)).length ≤ 15000) → k ≤ R.length → (rowsL R k).length ≤ 15000 * k := by
  intro k
  induction k with
  | zero => intro _ _; simp [rowsL]
  | succ k ih =>
    intro h hk
    rw [rows_succ (by omega), List.length_append]
    have := ih (fun i hi => h i (by omega)) (by omega)
    have := h k (by omega)
    omega
end Go.Proofs.YtgjolljhjagngafDoor
