/-
  CONTRACT of the Go function tollref1.Frame. No claim by itself.
-/
import Derived.Test.YtdlaaollamgplacDoorFmath
import Derived.Test.YtdlaaollamgplacDoorRbig
import Derived.Test.YtdlaaollamgplacDoorArg0
import Derived.Test.YtdlaaollamgplacDoorTbase
import Derived.Laws.AppendOwn
import Derived.Handy
namespace Go.Proofs.YtdlaaollamgplacDoor
open Go.RowKit
set_option maxRecDepth 100000
/-- What writing a frame gives: its bytes, or none and the fault. -/
def FrMade (w w' : World) (f : Frm) (v : Value) (k : Int) : Prop :=
  (frmE f = 0 ∧ k = 0 ∧ w'.ownsRow w.heap.size 5 1 v (frmL f).length ((frmL f).map (Value.int .u8))) ∨ (frmE f ≠ 0 ∧ k = frmE f ∧ v = .slice none 0 0)
theorem frm_told {w w' : World} {f : Frm} {k : Int} (h : frmE f = k) (hk : k ≠ 0) : FrMade w w' f (.slice none 0 0) k := Or.inr ⟨by rw [h]; exact hk, h.symm, rfl⟩
set_option maxHeartbeats 4000000 in
theorem rframe_bad (k fl st : Int) (a : Option Addr) (len cap : Nat) (Z : List Int) (w : World) (hZ : Z.length = len) (hbad : frmE (k, fl, st, Z) ≠ 0) :
    Calls Tryd.prog 14 #[.agg #[.int .i64 k, .int .i64 fl, .int .i64 st, .slice a len cap]] w fun e w' => (∃ v x, e = .returned (.tuple #[v, .int .i64 x]) ∧ FrMade w w' (k, fl, st, Z) v x) ∧ Below w.heap.size w w' := by
  by_cases h1 : k < 0 ∨ 255 < k ∨ fl < 0 ∨ 255 < fl ∨ st < 0 ∨ 2147483647 < st
  · have E : Hid (frmE (k, fl, st, Z) = 1) := by show frmE _ = 1; unfold frmE; rw [if_pos h1]
    clear hbad
    by_cases c1 : k < 0
    · have d1 : decide (k < 0) = true := decide_eq_true c1
      go_enter Tryd.func14, Tryd.ntmps14
      go_wp2
      go_ret2
      exact ⟨⟨_, _, rfl, frm_told E.out (by decide)⟩, (Below.refl _ _).alloc (Nat.le_refl _) _⟩
    · have d1 : decide (k < 0) = false := decide_eq_false c1
      by_cases c2 : 255 < k
      · have d2 : decide (255 < k) = true := decide_eq_true c2
        go_enter Tryd.func14, Tryd.ntmps14
        go_wp2
        go_ret2
        exact ⟨⟨_, _, rfl, frm_told E.out (by decide)⟩, (Below.refl _ _).alloc (Nat.le_refl _) _⟩
      · have d2 : decide (255 < k) = false := decide_eq_false c2
        by_cases c3 : fl < 0
        · have d3 : decide (fl < 0) = true := decide_eq_true c3
          go_enter Tryd.func14, Tryd.ntmps14
          go_wp2
          go_ret2
          exact ⟨⟨_, _, rfl, frm_told E.out (by decide)⟩, (Below.refl _ _).alloc (Nat.le_refl _) _⟩
        · have d3 : decide (fl < 0) = false := decide_eq_false c3
          by_cases c4 : 255 < fl
          · have d4 : decide (255 < fl) = true := decide_eq_true c4
            go_enter Tryd.func14, Tryd.ntmps14
            go_wp2
            go_ret2
            exact ⟨⟨_, _, rfl, frm_told E.out (by decide)⟩, (Below.refl _ _).alloc (Nat.le_refl _) _⟩
          · have d4 : decide (255 < fl) = false := decide_eq_false c4
            by_cases c5 : st < 0
            · have d5 : decide (st < 0) = true := decide_eq_true c5
              go_enter Tryd.func14, Tryd.ntmps14
              go_wp2
              go_ret2
              exact ⟨⟨_, _, rfl, frm_told E.out (by decide)⟩, (Below.refl _ _).alloc (Nat.le_refl _) _⟩
            · have d5 : decide (st < 0) = false := decide_eq_false c5
              have d6 : decide (2147483647 < st) = true := decide_eq_true (by omega)
              go_enter Tryd.func14, Tryd.ntmps14
              go_wp2
              go_ret2
              exact ⟨⟨_, _, rfl, frm_told E.out (by decide)⟩, (Below.refl _ _).alloc (Nat.le_refl _) _⟩
  · have E : Hid (frmE (k, fl, st, Z) = 4) := by
      show frmE _ = 4
      unfold frmE at hbad ⊢
      rw [if_neg h1] at hbad ⊢
      split at hbad
      · rename_i h; rw [if_pos h]
      · simp at hbad
    have h4 : 1024 < len := by
      unfold frmE at hbad
      rw [if_neg h1] at hbad
      split at hbad
      · rename_i h; rw [← hZ]; exact h
      · simp at hbad
    have d1 : decide (k < 0) = false := decide_eq_false (by omega)
    have d2 : decide (255 < k) = false := decide_eq_false (by omega)
    have d3 : decide (fl < 0) = false := decide_eq_false (by omega)
    have d4 : decide (255 < fl) = false := decide_eq_false (by omega)
    have d5 : decide (st < 0) = false := decide_eq_false (by omega)
    have d6 : decide (2147483647 < st) = false := decide_eq_false (by omega)
    have d7 : decide ((1024 : Int) < (len : Int)) = true := decide_eq_true (by omega)
    clear hbad h1
    go_enter Tryd.func14, Tryd.ntmps14
    go_wp2
    go_ret2
    exact ⟨⟨_, _, rfl, frm_told E.out (by decide)⟩, (Below.refl _ _).alloc (Nat.le_refl _) _⟩
end Go.Proofs.YtdlaaollamgplacDoor
