/-
  CONTRACT of the Go function tollref1.Check. No claim by itself.
-/
import Derived.Test.YtdlaaollamgplacDoorRrdframe
namespace Go.Proofs.YtdlaaollamgplacDoor
open Go.RowKit
set_option maxRecDepth 100000
/-- What the settings of a frame are worth: the first one that is bad tells. -/
def setsF : Nat → List Int → Int
  | 0, _ => 0
  | m + 1, Z => if word (Z.take 2) = 4 ∧ 2147483647 < word ((Z.drop 2).take 4) then 3 else if word (Z.take 2) = 5 ∧ word ((Z.drop 2).take 4) < 1024 then 1 else setsF m (Z.drop 6)
/-- The code that a frame is worth; e1: whether its first flag is set. -/
def chkF (k st : Int) (e1 : Bool) (Z : List Int) : Int :=
  if (0 ≤ k ∧ k ≤ 3) ∧ st = 0 then 1
  else if (k = 4 ∨ k = 5 ∨ k = 6) ∧ st ≠ 0 then 1
  else if (k = 3 ∧ Z.length ≠ 4) ∨ (k = 5 ∧ Z.length ≠ 8) ∨ (k = 6 ∧ Z.length < 8) ∨ (k = 7 ∧ Z.length ≠ 4) then 6
  else if k = 4 ∧ (Z.length % 6 ≠ 0 ∨ (0 < Z.length ∧ e1 = true)) then 6
  else if k = 7 then (if word Z = 0 ∨ 2147483647 < word Z then 1 else 0)
  else if k = 4 then setsF (Z.length / 6) Z
  else 0
set_option maxHeartbeats 8000000 in
/-- Kinds whose frames are bad by their stream alone. -/
theorem rchk_st0 (k fl : Int) (a : Option Addr) (len cap : Nat) (w : World) (hk : k = 0 ∨ k = 1 ∨ k = 2 ∨ k = 3) :
    Calls Tryd.prog 21 #[.agg #[.int .i64 k, .int .i64 fl, .int .i64 0, .slice a len cap]] w fun e w' => e = .returned (.int .i64 1) ∧ Below w.heap.size w w' := by
  rcases hk with rfl | rfl | rfl | rfl
  all_goals
    go_enter Tryd.func21, Tryd.ntmps21
    go_wp2
    go_returns
    exact ⟨rfl, (Below.refl _ _).alloc (Nat.le_refl _) _⟩
set_option maxHeartbeats 8000000 in
theorem rchk_st1 (k fl st : Int) (a : Option Addr) (len cap : Nat) (w : World) (hk : k = 4 ∨ k = 5 ∨ k = 6) (hs : st ≠ 0) :
    Calls Tryd.prog 21 #[.agg #[.int .i64 k, .int .i64 fl, .int .i64 st, .slice a len cap]] w fun e w' => e = .returned (.int .i64 1) ∧ Below w.heap.size w w' := by
  have d : decide (st = 0) = false := decide_eq_false hs
  rcases hk with rfl | rfl | rfl
  all_goals
    go_enter Tryd.func21, Tryd.ntmps21
    go_wp2
    go_returns
    exact ⟨rfl, (Below.refl _ _).alloc (Nat.le_refl _) _⟩
set_option maxHeartbeats 8000000 in
theorem rchk_012 (k fl st : Int) (a : Option Addr) (len cap : Nat) (w : World) (hk : k = 0 ∨ k = 1 ∨ k = 2) (hs : st ≠ 0) :
    Calls Tryd.prog 21 #[.agg #[.int .i64 k, .int .i64 fl, .int .i64 st, .slice a len cap]] w fun e w' => e = .returned (.int .i64 0) ∧ Below w.heap.size w w' := by
  have d : decide (st = 0) = false := decide_eq_false hs
  rcases hk with rfl | rfl | rfl
  all_goals
    go_enter Tryd.func21, Tryd.ntmps21
    go_wp2
    go_loop [6] (fun i => i = .int .i64 0) (fun _ => 0)
    case atStart => rfl
    case round =>
      subst hrel
      go_wp2
      go_returns
      exact ⟨rfl, (Below.refl _ _).alloc (Nat.le_refl _) _⟩
end Go.Proofs.YtdlaaollamgplacDoor
