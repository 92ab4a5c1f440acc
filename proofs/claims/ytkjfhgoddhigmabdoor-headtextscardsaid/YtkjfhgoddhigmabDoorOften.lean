/-
  CONTRACT of the Go function tollref1.Often. No claim by itself.
-/
import Derived.Test.YtkjfhgoddhigmabDoorPow
import Derived.Test.YtkjfhgoddhigmabDoorCmath
namespace Go.Proofs.YtkjfhgoddhigmabDoor
open Go.RowKit
/-- The byte at a place of the constant text. -/
theorem oft_at (k : Nat) (hlt : k < 32) : ∀ h, ((((⟨#[101, 116, 97, 111, 105, 110, 115, 104, 114, 100, 108, 117, 99, 109, 102, 119, 121, 112, 118, 98, 103, 107, 120, 106, 113, 122, 45, 47, 46, 58, 48, 32]⟩ : ByteArray)[k]'h).toNat : Nat) : Int) = oft.getD k 0 := by
  obtain rfl | rfl | rfl | rfl | rfl | rfl | rfl | rfl | rfl | rfl | rfl | rfl | rfl | rfl | rfl | rfl | rfl | rfl | rfl | rfl | rfl | rfl | rfl | rfl | rfl | rfl | rfl | rfl | rfl | rfl | rfl | rfl : k = 0 ∨ k = 1 ∨ k = 2 ∨ k = 3 ∨ k = 4 ∨ k = 5 ∨ k = 6 ∨ k = 7 ∨ k = 8 ∨ k = 9 ∨ k = 10 ∨ k = 11 ∨ k = 12 ∨ k = 13 ∨ k = 14 ∨ k = 15 ∨ k = 16 ∨ k = 17 ∨ k = 18 ∨ k = 19 ∨ k = 20 ∨ k = 21 ∨ k = 22 ∨ k = 23 ∨ k = 24 ∨ k = 25 ∨ k = 26 ∨ k = 27 ∨ k = 28 ∨ k = 29 ∨ k = 30 ∨ k = 31 := by omega
  all_goals (intro h; rfl)
set_option maxHeartbeats 2000000 in
theorem often_any (c : Int) (w : World) :
    Calls Tryd.prog 50 #[.int .u8 c] w fun e w' => e = .returned (.int .i64 (oidx c)) ∧ w = w' := by
  go_enter Tryd.func50, Tryd.ntmps50
  go_wp2
  go_loop [3] (fun i => ∃ k : Nat, i = .int .i64 k ∧ k ≤ 32 ∧ Hid (oidx c = oidxFrom (oft.drop k) k c)) (fun i => 32 - (intOf i).toNat)
  case atStart => exact ⟨0, rfl, by omega, rfl⟩
  case round =>
    obtain ⟨k, rfl, hk, HR⟩ := hrel
    by_cases hlt : k < 32
    · have hstep : oidxFrom (oft.drop k) k c = if oft.getD k 0 = c then (k : Int) else oidxFrom (oft.drop (k + 1)) ((k : Int) + 1) c := by
        rw [drop_at oft k _ (by exact hlt) rfl]; rfl
      have HR2 : Hid (oidx c = if oft.getD k 0 = c then (k : Int) else oidxFrom (oft.drop (k + 1)) ((k : Int) + 1) c) := HR.out.trans hstep
      have hix := oft_at k hlt
      generalize oft.getD k 0 = o at *
      clear HR hstep
      by_cases hc : o = c
      · have e := HR2.out
        rw [if_pos hc] at e
        have E : Hid (oidx c = (k : Int)) := e
        have hcb : (o == c) = true := by rw [beq_iff_eq]; exact hc
        clear e HR2 hc
        go_wp2
        go_ret
        exact ⟨by rw [E.out]; rfl, rfl⟩
      · have e := HR2.out
        rw [if_neg hc] at e
        have E : Hid (oidx c = oidxFrom (oft.drop (k + 1)) ((k : Int) + 1) c) := e
        have hcb : (o == c) = false := by rw [beq_eq_false_iff_ne]; exact hc
        clear e HR2 hc
        go_wp2
        go_round
        case rel => exact ⟨k + 1, by go_num, by omega, E⟩
        case measure => simp [intOf]; omega
    · have E : Hid (oidx c = -1) := by
        show oidx c = -1
        have e : k = 32 := by omega
        have h := HR.out
        rw [e] at h
        exact h
      have hge : 32 ≤ (k : Int) := by omega
      go_wp2
      go_ret
      exact ⟨by rw [E.out]; rfl, rfl⟩
end Go.Proofs.YtkjfhgoddhigmabDoor
