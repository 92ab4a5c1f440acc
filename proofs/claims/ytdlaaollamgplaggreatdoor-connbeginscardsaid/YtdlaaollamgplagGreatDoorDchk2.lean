/-
  CONTRACTS of the Go functions frame.wrongStream, frame.wrongSize and frame.checkWide. No claim by itself.
-/
import Derived.Test.YtdlaaollamgplagGreatDoorSfr
namespace Go.Proofs.YtdlaaollamgplagGreatDoor
open Go.RowKit
set_option maxRecDepth 100000
def wsF (k st : Int) : Bool := if k = 0 ∨ k = 1 ∨ k = 2 ∨ k = 3 then st == 0 else if k = 4 ∨ k = 5 ∨ k = 6 then st != 0 else false
set_option maxHeartbeats 4000000 in
theorem wstream_any (k fl st : Int) (a : Option Addr) (len cap : Nat) (w : World) :
    Calls Tryz.prog 72 #[.agg #[.int .i64 k, .int .i64 fl, .int .i64 st, .slice a len cap]] w fun e w' => e = .returned (.bool (wsF k st)) ∧ Below w.heap.size w w' := by
  have HW := hide (show Below w.heap.size w (w.alloc (.cells #[.int .i64 k, .int .i64 fl, .int .i64 st, .slice a len cap] 60)) from (Below.refl _ _).alloc (Nat.le_refl _) _)
  by_cases h0 : k = 0 ∨ k = 1 ∨ k = 2 ∨ k = 3
  · unfold wsF
    rw [if_pos h0]
    rcases h0 with rfl | rfl | rfl | rfl
    all_goals
      go_enter Tryz.func72, Tryz.ntmps72
      go_wp2
      go_ret
      exact ⟨rfl, HW.out⟩
  · by_cases h4 : k = 4 ∨ k = 5 ∨ k = 6
    · unfold wsF
      rw [if_neg h0, if_pos h4]
      clear h0
      rcases h4 with rfl | rfl | rfl
      all_goals
        go_enter Tryz.func72, Tryz.ntmps72
        go_wp2
        go_ret
        exact ⟨rfl, HW.out⟩
    · unfold wsF
      rw [if_neg h0, if_neg h4]
      have n0 : ¬ (k = 0) := by omega
      have n1 : ¬ (k = 1) := by omega
      have n2 : ¬ (k = 2) := by omega
      have n3 : ¬ (k = 3) := by omega
      have n4 : ¬ (k = 4) := by omega
      have n5 : ¬ (k = 5) := by omega
      have n6 : ¬ (k = 6) := by omega
      clear h0 h4
      go_enter Tryz.func72, Tryz.ntmps72
      go_wp2
      go_ret
      exact ⟨rfl, HW.out⟩
def wzF (k fl : Int) (n : Nat) : Bool :=
  if k = 3 then (n : Int) != 4 else if k = 4 then (n : Int) % 6 != 0 || (bits .and .i64 fl 1 != 0 && decide (0 < (n : Int))) else if k = 5 then (n : Int) != 8 else if k = 6 then decide ((n : Int) < 8) else if k = 7 then (n : Int) != 4 else false
set_option maxHeartbeats 4000000 in
theorem wsize_any (k fl st : Int) (a : Option Addr) (len cap : Nat) (w : World) :
    Calls Tryz.prog 73 #[.agg #[.int .i64 k, .int .i64 fl, .int .i64 st, .slice a len cap]] w fun e w' => e = .returned (.bool (wzF k fl len)) ∧ Below w.heap.size w w' := by
  have HW := hide (show Below w.heap.size w (w.alloc (.cells #[.int .i64 k, .int .i64 fl, .int .i64 st, .slice a len cap] 60)) from (Below.refl _ _).alloc (Nat.le_refl _) _)
  have n4 : (4 : Int) ≠ 3 := by decide
  unfold wzF
  by_cases h3 : k = 3
  · rw [if_pos h3]
    subst h3
    go_enter Tryz.func73, Tryz.ntmps73
    go_wp2
    go_ret
    exact ⟨rfl, HW.out⟩
  rw [if_neg h3]
  by_cases h4 : k = 4
  · rw [if_pos h4]
    subst h4
    clear h3 n4
    obtain ⟨b1, e1⟩ : ∃ b, ((len : Int) % 6 != 0) = b := ⟨_, rfl⟩
    obtain ⟨b2, e2⟩ : ∃ b, (bits .and .i64 fl 1 != 0) = b := ⟨_, rfl⟩
    rw [e1, e2]
    cases b1 <;> cases b2
    all_goals
      go_enter Tryz.func73, Tryz.ntmps73
      go_wp2
      all_goals (go_ret; exact ⟨by first | rfl | simp, HW.out⟩)
  rw [if_neg h4]
  by_cases h5 : k = 5
  · rw [if_pos h5]
    subst h5
    go_enter Tryz.func73, Tryz.ntmps73
    go_wp2
    go_ret
    exact ⟨rfl, HW.out⟩
  rw [if_neg h5]
  by_cases h6 : k = 6
  · rw [if_pos h6]
    subst h6
    go_enter Tryz.func73, Tryz.ntmps73
    go_wp2
    go_ret
    exact ⟨rfl, HW.out⟩
  rw [if_neg h6]
  by_cases h7 : k = 7
  · rw [if_pos h7]
    subst h7
    go_enter Tryz.func73, Tryz.ntmps73
    go_wp2
    go_ret
    exact ⟨rfl, HW.out⟩
  rw [if_neg h7]
  go_enter Tryz.func73, Tryz.ntmps73
  go_wp2
  go_ret
  exact ⟨rfl, HW.out⟩
theorem cwide_any (g off cap : Nat) (Z : List Int) (w : World) (hr : Row w g off 4 cap Z) :
    Calls Tryz.prog 74 #[.slice (some ⟨g, off, none⟩) 4 cap] w fun e w' => e = .returned (.int .i64 (if word Z = 0 ∨ 2147483647 < word Z then 1 else 0)) ∧ Below w.heap.size w w' := by
  have HN := hide (number_any g off 4 cap Z w hr (by decide))
  clear hr
  generalize word Z = x at *
  by_cases h0 : x = 0
  · rw [if_pos (Or.inl h0)]
    subst h0
    go_enter Tryz.func74, Tryz.ntmps74
    go_wp2_with fail
    refine HN.out.mono ?_
    rintro e w1 ⟨rfl, rfl⟩
    go_wp2
    go_ret
    exact ⟨rfl, Below.refl _ _⟩
  by_cases h1 : 2147483647 < x
  · rw [if_pos (Or.inr h1)]
    go_enter Tryz.func74, Tryz.ntmps74
    go_wp2_with fail
    refine HN.out.mono ?_
    rintro e w1 ⟨rfl, rfl⟩
    go_wp2
    go_ret
    exact ⟨rfl, Below.refl _ _⟩
  · rw [if_neg (by simp [h0, h1])]
    have b0 : (x == 0) = false := beq_eq_false_iff_ne.2 h0
    clear h0
    go_enter Tryz.func74, Tryz.ntmps74
    go_wp2_with fail
    refine HN.out.mono ?_
    rintro e w1 ⟨rfl, rfl⟩
    go_wp2
    go_ret
    exact ⟨rfl, Below.refl _ _⟩
end Go.Proofs.YtdlaaollamgplagGreatDoor
