/-
  CONTRACT of the Go function tollref1.Check, kinds that read their body. No claim by itself.
-/
import Derived.Test.YtdlaaollamgplacDoorRcheck
namespace Go.Proofs.YtdlaaollamgplacDoor
open Go.RowKit
set_option maxRecDepth 100000
set_option maxHeartbeats 8000000 in
theorem rchk_7 (fl st : Int) (g off cap : Nat) (Z : List Int) (w : World) (hr : Row w g off 4 cap Z) :
    Calls Tryd.prog 21 #[.agg #[.int .i64 7, .int .i64 fl, .int .i64 st, .slice (some ⟨g, off, none⟩) 4 cap]] w fun e w' => e = .returned (.int .i64 (if word Z = 0 ∨ 2147483647 < word Z then 1 else 0)) ∧ Below w.heap.size w w' := by
  obtain ⟨w0, hw0⟩ : ∃ w0, w0 = w.alloc (.cells #[.int .i64 7, .int .i64 fl, .int .i64 st, .slice (some ⟨g, off, none⟩) 4 cap] 43) := ⟨_, rfl⟩
  have hb0 : Below w.heap.size w w0 := by rw [hw0]; exact (Below.refl _ _).alloc (Nat.le_refl _) _
  have HW := hide (word_any g off 4 cap Z w0 (hr.below hb0) (by decide))
  have HW0 := hide hw0
  have HB := hide hb0
  generalize word Z = n at *
  obtain ⟨R, hR⟩ : ∃ R : Int, R = if n = 0 ∨ 2147483647 < n then 1 else 0 := ⟨_, rfl⟩
  rw [← hR]
  have HR := hide hR
  clear hr hw0 hb0 hR
  go_enter Tryd.func21, Tryd.ntmps21
  go_wp2_with fail
  rw [← HW0.out]
  refine HW.out.mono ?_
  rintro e w' ⟨rfl, rfl⟩
  clear HW
  have E0 := HB.out
  clear HW0
  by_cases h0 : n = 0
  · subst h0
    go_wp2
    go_returns
    have e := HR.out
    simp at e
    subst e
    exact ⟨rfl, HB.out⟩
  · have d0 : decide (n = 0) = false := decide_eq_false h0
    by_cases h1 : 2147483647 < n
    · have d1 : decide (2147483647 < n) = true := decide_eq_true h1
      go_wp2
      go_returns
      have e := HR.out
      rw [if_pos (Or.inr h1)] at e
      subst e
      exact ⟨rfl, HB.out⟩
    · have d1 : decide (2147483647 < n) = false := decide_eq_false h1
      go_wp2
      go_loop [6] (fun i => i = .int .i64 0) (fun _ => 0)
      case atStart => rfl
      case round =>
        subst hrel
        go_wp2
        go_returns
        have e := HR.out
        rw [if_neg (by omega)] at e
        subst e
        exact ⟨rfl, HB.out⟩
end Go.Proofs.YtdlaaollamgplacDoor
