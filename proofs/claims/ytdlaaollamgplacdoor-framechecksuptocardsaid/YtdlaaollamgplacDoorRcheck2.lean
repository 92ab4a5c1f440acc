/-
  CONTRACT of the Go function tollref1.Check, kind by kind. No claim by itself.
-/
import Derived.Test.YtdlaaollamgplacDoorRcheck
namespace Go.Proofs.YtdlaaollamgplacDoor
open Go.RowKit
set_option maxRecDepth 100000
set_option maxHeartbeats 8000000 in
theorem rchk_3n (fl st : Int) (a : Option Addr) (len cap : Nat) (w : World) (hs : st ≠ 0) (hl : len ≠ 4) :
    Calls Tryd.prog 21 #[.agg #[.int .i64 3, .int .i64 fl, .int .i64 st, .slice a len cap]] w fun e w' => e = .returned (.int .i64 6) ∧ Below w.heap.size w w' := by
  have d : decide (st = 0) = false := decide_eq_false hs
  have dl : decide ((len : Int) = 4) = false := decide_eq_false (by omega)
  go_enter Tryd.func21, Tryd.ntmps21
  go_wp2
  go_returns
  exact ⟨rfl, (Below.refl _ _).alloc (Nat.le_refl _) _⟩
set_option maxHeartbeats 8000000 in
theorem rchk_3 (fl st : Int) (a : Option Addr) (len cap : Nat) (w : World) (hs : st ≠ 0) (hl : len = 4) :
    Calls Tryd.prog 21 #[.agg #[.int .i64 3, .int .i64 fl, .int .i64 st, .slice a len cap]] w fun e w' => e = .returned (.int .i64 0) ∧ Below w.heap.size w w' := by
  have d : decide (st = 0) = false := decide_eq_false hs
  subst hl
  go_enter Tryd.func21, Tryd.ntmps21
  go_wp2
  go_loop [6] (fun i => i = .int .i64 0) (fun _ => 0)
  case atStart => rfl
  case round =>
    subst hrel
    go_wp2
    go_returns
    exact ⟨rfl, (Below.refl _ _).alloc (Nat.le_refl _) _⟩
set_option maxHeartbeats 8000000 in
theorem rchk_5n (fl : Int) (a : Option Addr) (len cap : Nat) (w : World) (hl : len ≠ 8) :
    Calls Tryd.prog 21 #[.agg #[.int .i64 5, .int .i64 fl, .int .i64 0, .slice a len cap]] w fun e w' => e = .returned (.int .i64 6) ∧ Below w.heap.size w w' := by
  have dl : decide ((len : Int) = 8) = false := decide_eq_false (by omega)
  go_enter Tryd.func21, Tryd.ntmps21
  go_wp2
  go_returns
  exact ⟨rfl, (Below.refl _ _).alloc (Nat.le_refl _) _⟩
set_option maxHeartbeats 8000000 in
theorem rchk_5 (fl : Int) (a : Option Addr) (len cap : Nat) (w : World) (hl : len = 8) :
    Calls Tryd.prog 21 #[.agg #[.int .i64 5, .int .i64 fl, .int .i64 0, .slice a len cap]] w fun e w' => e = .returned (.int .i64 0) ∧ Below w.heap.size w w' := by
  subst hl
  go_enter Tryd.func21, Tryd.ntmps21
  go_wp2
  go_loop [6] (fun i => i = .int .i64 0) (fun _ => 0)
  case atStart => rfl
  case round =>
    subst hrel
    go_wp2
    go_returns
    exact ⟨rfl, (Below.refl _ _).alloc (Nat.le_refl _) _⟩
set_option maxHeartbeats 8000000 in
theorem rchk_6n (fl : Int) (a : Option Addr) (len cap : Nat) (w : World) (hl : len < 8) :
    Calls Tryd.prog 21 #[.agg #[.int .i64 6, .int .i64 fl, .int .i64 0, .slice a len cap]] w fun e w' => e = .returned (.int .i64 6) ∧ Below w.heap.size w w' := by
  have dl : decide ((len : Int) < 8) = true := decide_eq_true (by omega)
  go_enter Tryd.func21, Tryd.ntmps21
  go_wp2
  go_returns
  exact ⟨rfl, (Below.refl _ _).alloc (Nat.le_refl _) _⟩
set_option maxHeartbeats 8000000 in
theorem rchk_6 (fl : Int) (a : Option Addr) (len cap : Nat) (w : World) (hl : 8 ≤ len) :
    Calls Tryd.prog 21 #[.agg #[.int .i64 6, .int .i64 fl, .int .i64 0, .slice a len cap]] w fun e w' => e = .returned (.int .i64 0) ∧ Below w.heap.size w w' := by
  have dl : decide ((len : Int) < 8) = false := decide_eq_false (by omega)
  go_enter Tryd.func21, Tryd.ntmps21
  go_wp2
  go_loop [6] (fun i => i = .int .i64 0) (fun _ => 0)
  case atStart => rfl
  case round =>
    subst hrel
    go_wp2
    go_returns
    exact ⟨rfl, (Below.refl _ _).alloc (Nat.le_refl _) _⟩
set_option maxHeartbeats 8000000 in
theorem rchk_7n (fl st : Int) (a : Option Addr) (len cap : Nat) (w : World) (hl : len ≠ 4) :
    Calls Tryd.prog 21 #[.agg #[.int .i64 7, .int .i64 fl, .int .i64 st, .slice a len cap]] w fun e w' => e = .returned (.int .i64 6) ∧ Below w.heap.size w w' := by
  have dl : decide ((len : Int) = 4) = false := decide_eq_false (by omega)
  go_enter Tryd.func21, Tryd.ntmps21
  go_wp2
  go_returns
  exact ⟨rfl, (Below.refl _ _).alloc (Nat.le_refl _) _⟩
set_option maxHeartbeats 8000000 in
theorem rchk_neg (fl k st : Int) (a : Option Addr) (len cap : Nat) (w : World) (hk : k < 0) :
    Calls Tryd.prog 21 #[.agg #[.int .i64 k, .int .i64 fl, .int .i64 st, .slice a len cap]] w fun e w' => e = .returned (.int .i64 0) ∧ Below w.heap.size w w' := by
  have d0 : decide (0 ≤ k) = false := decide_eq_false (by omega)
  have d3 : decide (k = 3) = false := decide_eq_false (by omega)
  have d4 : decide (k = 4) = false := decide_eq_false (by omega)
  have d5 : decide (k = 5) = false := decide_eq_false (by omega)
  have d6 : decide (k = 6) = false := decide_eq_false (by omega)
  have d7 : decide (k = 7) = false := decide_eq_false (by omega)
  go_enter Tryd.func21, Tryd.ntmps21
  go_wp2
  go_loop [6] (fun i => i = .int .i64 0) (fun _ => 0)
  case atStart => rfl
  case round =>
    subst hrel
    go_wp2
    go_returns
    exact ⟨rfl, (Below.refl _ _).alloc (Nat.le_refl _) _⟩
set_option maxHeartbeats 8000000 in
theorem rchk_far (fl k st : Int) (a : Option Addr) (len cap : Nat) (w : World) (hk : 7 < k) :
    Calls Tryd.prog 21 #[.agg #[.int .i64 k, .int .i64 fl, .int .i64 st, .slice a len cap]] w fun e w' => e = .returned (.int .i64 0) ∧ Below w.heap.size w w' := by
  have d0 : decide (0 ≤ k) = true := decide_eq_true (by omega)
  have e0 : decide (k ≤ 3) = false := decide_eq_false (by omega)
  have d3 : decide (k = 3) = false := decide_eq_false (by omega)
  have d4 : decide (k = 4) = false := decide_eq_false (by omega)
  have d5 : decide (k = 5) = false := decide_eq_false (by omega)
  have d6 : decide (k = 6) = false := decide_eq_false (by omega)
  have d7 : decide (k = 7) = false := decide_eq_false (by omega)
  go_enter Tryd.func21, Tryd.ntmps21
  go_wp2
  go_loop [6] (fun i => i = .int .i64 0) (fun _ => 0)
  case atStart => rfl
  case round =>
    subst hrel
    go_wp2
    go_returns
    exact ⟨rfl, (Below.refl _ _).alloc (Nat.le_refl _) _⟩
end Go.Proofs.YtdlaaollamgplacDoor
