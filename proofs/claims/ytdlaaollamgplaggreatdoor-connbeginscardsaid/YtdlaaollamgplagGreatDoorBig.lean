/-
  CONTRACTS of the Go functions wire.maySize, wire.holds, wire.Big, tollref1.holds and tollref1.Big. No claim by itself.
-/
import Derived.Test.YtdlaaollamgplagGreatDoorRput
import Derived.Test.YtdlaaollamgplagGreatDoorMath2
namespace Go.Proofs.YtdlaaollamgplagGreatDoor
open Go.RowKit
theorem maySize_yes (s : Int) (w : World) (h1 : 1 ≤ s) (h2 : s ≤ 4) :
    Calls Tryz.prog 76 #[.int .i64 s] w fun e w' => e = .returned (.bool true) ∧ w = w' := by
  go_enter Tryz.func76, Tryz.ntmps76
  go_wp2
  go_ret
  exact ⟨rfl, rfl⟩
theorem maySize_no (s : Int) (w : World) (h : s < 1 ∨ 4 < s) :
    Calls Tryz.prog 76 #[.int .i64 s] w fun e w' => e = .returned (.bool false) ∧ w = w' := by
  rcases h with h | h
  · go_enter Tryz.func76, Tryz.ntmps76
    go_wp2
    go_ret
    exact ⟨rfl, rfl⟩
  · have h0 : 1 ≤ s := by omega
    have hd : decide (s ≤ 4) = false := by simp; omega
    go_enter Tryz.func76, Tryz.ntmps76
    go_wp2
    go_ret
    exact ⟨rfl, rfl⟩
theorem gr8 : gr 8 = 255 := by decide
theorem gr16 : gr 16 = 65535 := by decide
theorem gr24 : gr 24 = 16777215 := by decide
theorem gr32 : gr 32 = 4294967295 := by decide
theorem holds_any (s : Int) (w : World) (h1 : 1 ≤ s) (h2 : s ≤ 4) :
    Calls Tryz.prog 123 #[.int .i64 s] w fun e w' => e = .returned (.int .i64 (most s)) ∧ w = w' := by
  obtain rfl | rfl | rfl | rfl : s = 1 ∨ s = 2 ∨ s = 3 ∨ s = 4 := by omega
  · go_enter Tryz.func123, Tryz.ntmps123
    go_wp2_with (go_at_call 185; refine (great _ _ (by omega) (by omega)).mono ?_; rintro e w' ⟨rfl, rfl⟩; rw [gr8])
    go_ret
    exact ⟨rfl, rfl⟩
  · go_enter Tryz.func123, Tryz.ntmps123
    go_wp2_with (go_at_call 185; refine (great _ _ (by omega) (by omega)).mono ?_; rintro e w' ⟨rfl, rfl⟩; rw [gr16])
    go_ret
    exact ⟨rfl, rfl⟩
  · go_enter Tryz.func123, Tryz.ntmps123
    go_wp2_with (go_at_call 185; refine (great _ _ (by omega) (by omega)).mono ?_; rintro e w' ⟨rfl, rfl⟩; rw [gr24])
    go_ret
    exact ⟨rfl, rfl⟩
  · go_enter Tryz.func123, Tryz.ntmps123
    go_wp2_with (go_at_call 185; refine (great _ _ (by omega) (by omega)).mono ?_; rintro e w' ⟨rfl, rfl⟩; rw [gr32])
    go_ret
    exact ⟨rfl, rfl⟩
theorem big_no (n s : Int) (w : World) (h : ¬ bigOk n s) :
    Calls Tryz.prog 67 #[.int .i64 n, .int .i64 s] w fun e w' => e = .returned (.tuple #[.slice none 0 0, .iface 88 (.int .i64 1)]) ∧ w = w' := by
  have h : ¬ (1 ≤ s ∧ s ≤ 4 ∧ 0 ≤ n ∧ n ≤ most s) := h
  by_cases c1 : s < 1 ∨ 4 < s
  · clear h
    go_enter Tryz.func67, Tryz.ntmps67
    go_wp2_with (go_at_call 76; refine (maySize_no _ _ c1).mono ?_; rintro e w' ⟨rfl, rfl⟩)
    go_ret2
    exact ⟨rfl, rfl⟩
  · have h1 : 1 ≤ s := by omega
    have h2 : s ≤ 4 := by omega
    by_cases c2 : n < 0
    · clear h c1
      go_enter Tryz.func67, Tryz.ntmps67
      go_wp2_with (go_at_call 76; refine (maySize_yes _ _ h1 h2).mono ?_; rintro e w' ⟨rfl, rfl⟩)
      go_ret2
      exact ⟨rfl, rfl⟩
    · have c2' : 0 ≤ n := by omega
      have c3 : most s < n := by omega
      clear h c1
      go_enter Tryz.func67, Tryz.ntmps67
      go_wp2_with (first | (go_at_call 76; refine (maySize_yes _ _ h1 h2).mono ?_; rintro e w' ⟨rfl, rfl⟩) | (go_at_call 123; refine (holds_any _ _ h1 h2).mono ?_; rintro e w' ⟨rfl, rfl⟩))
      go_ret2
      exact ⟨rfl, rfl⟩
set_option maxHeartbeats 2000000 in
theorem big_1 (n : Int) (w : World) (h0 : 0 ≤ n) (h1 : n ≤ most 1) :
    Calls Tryz.prog 67 #[.int .i64 n, .int .i64 1] w fun e w' => e = .returned (.tuple #[.slice (some ⟨w.heap.size, 0, none⟩) 1 1, .nilIface]) ∧ w' = w.alloc (.cells #[.int .u8 (n % 256)] 5) := by
  have hmk : ∀ w, (Instr.makeSlice 23 (.int .i64 1) (.int .i64 1)).run Tryz.prog w = .ok (.slice (some ⟨w.heap.size, 0, none⟩) 1 1) (w.alloc (.cells #[.int .u8 0] 5)) := fun _ => by kernel_rfl
  go_enter Tryz.func67, Tryz.ntmps67
  go_wp2_with (first | (go_at_call 76; refine (maySize_yes _ _ (by omega) (by omega)).mono ?_; rintro e w' ⟨rfl, rfl⟩) | (go_at_call 123; refine (holds_any _ _ (by omega) (by omega)).mono ?_; rintro e w' ⟨rfl, rfl⟩))
  refine wp_loop_rounds 2 ?_
  rw [rounds_succ]
  go_wp2
  rw [rounds_succ]
  go_wp2
  go_ret2
  exact ⟨rfl, rfl⟩
set_option maxHeartbeats 2000000 in
theorem big_2 (n : Int) (w : World) (h0 : 0 ≤ n) (h1 : n ≤ most 2) :
    Calls Tryz.prog 67 #[.int .i64 n, .int .i64 2] w fun e w' => e = .returned (.tuple #[.slice (some ⟨w.heap.size, 0, none⟩) 2 2, .nilIface]) ∧ w' = w.alloc (.cells #[.int .u8 (n / 256 % 256), .int .u8 (n % 256)] 5) := by
  have hmk : ∀ w, (Instr.makeSlice 23 (.int .i64 2) (.int .i64 2)).run Tryz.prog w = .ok (.slice (some ⟨w.heap.size, 0, none⟩) 2 2) (w.alloc (.cells #[.int .u8 0, .int .u8 0] 5)) := fun _ => by kernel_rfl
  go_enter Tryz.func67, Tryz.ntmps67
  go_wp2_with (first | (go_at_call 76; refine (maySize_yes _ _ (by omega) (by omega)).mono ?_; rintro e w' ⟨rfl, rfl⟩) | (go_at_call 123; refine (holds_any _ _ (by omega) (by omega)).mono ?_; rintro e w' ⟨rfl, rfl⟩))
  refine wp_loop_rounds 3 ?_
  rw [rounds_succ]
  go_wp2
  rw [rounds_succ]
  go_wp2
  rw [rounds_succ]
  go_wp2
  go_ret2
  exact ⟨rfl, rfl⟩
set_option maxHeartbeats 2000000 in
theorem big_3 (n : Int) (w : World) (h0 : 0 ≤ n) (h1 : n ≤ most 3) :
    Calls Tryz.prog 67 #[.int .i64 n, .int .i64 3] w fun e w' => e = .returned (.tuple #[.slice (some ⟨w.heap.size, 0, none⟩) 3 3, .nilIface]) ∧ w' = w.alloc (.cells #[.int .u8 (n / 65536 % 256), .int .u8 (n / 256 % 256), .int .u8 (n % 256)] 5) := by
  have hmk : ∀ w, (Instr.makeSlice 23 (.int .i64 3) (.int .i64 3)).run Tryz.prog w = .ok (.slice (some ⟨w.heap.size, 0, none⟩) 3 3) (w.alloc (.cells #[.int .u8 0, .int .u8 0, .int .u8 0] 5)) := fun _ => by kernel_rfl
  go_enter Tryz.func67, Tryz.ntmps67
  go_wp2_with (first | (go_at_call 76; refine (maySize_yes _ _ (by omega) (by omega)).mono ?_; rintro e w' ⟨rfl, rfl⟩) | (go_at_call 123; refine (holds_any _ _ (by omega) (by omega)).mono ?_; rintro e w' ⟨rfl, rfl⟩))
  refine wp_loop_rounds 4 ?_
  rw [rounds_succ]
  go_wp2
  rw [rounds_succ]
  go_wp2
  rw [rounds_succ]
  go_wp2
  rw [rounds_succ]
  go_wp2
  go_ret2
  exact ⟨rfl, rfl⟩
set_option maxHeartbeats 2000000 in
theorem big_4 (n : Int) (w : World) (h0 : 0 ≤ n) (h1 : n ≤ most 4) :
    Calls Tryz.prog 67 #[.int .i64 n, .int .i64 4] w fun e w' => e = .returned (.tuple #[.slice (some ⟨w.heap.size, 0, none⟩) 4 4, .nilIface]) ∧ w' = w.alloc (.cells #[.int .u8 (n / 16777216 % 256), .int .u8 (n / 65536 % 256), .int .u8 (n / 256 % 256), .int .u8 (n % 256)] 5) := by
  have hmk : ∀ w, (Instr.makeSlice 23 (.int .i64 4) (.int .i64 4)).run Tryz.prog w = .ok (.slice (some ⟨w.heap.size, 0, none⟩) 4 4) (w.alloc (.cells #[.int .u8 0, .int .u8 0, .int .u8 0, .int .u8 0] 5)) := fun _ => by kernel_rfl
  go_enter Tryz.func67, Tryz.ntmps67
  go_wp2_with (first | (go_at_call 76; refine (maySize_yes _ _ (by omega) (by omega)).mono ?_; rintro e w' ⟨rfl, rfl⟩) | (go_at_call 123; refine (holds_any _ _ (by omega) (by omega)).mono ?_; rintro e w' ⟨rfl, rfl⟩))
  refine wp_loop_rounds 5 ?_
  rw [rounds_succ]
  go_wp2
  rw [rounds_succ]
  go_wp2
  rw [rounds_succ]
  go_wp2
  rw [rounds_succ]
  go_wp2
  rw [rounds_succ]
  go_wp2
  go_ret2
  exact ⟨rfl, rfl⟩
theorem big_yes (n s : Int) (w : World) (hok : bigOk n s) :
    Calls Tryz.prog 67 #[.int .i64 n, .int .i64 s] w fun e w' => ∃ g, e = .returned (.tuple #[.slice (some ⟨g, 0, none⟩) (bigL s.toNat n).length (bigL s.toNat n).length, .nilIface]) ∧ w'.ownsRow w.heap.size 5 1 (.slice (some ⟨g, 0, none⟩) (bigL s.toNat n).length (bigL s.toNat n).length) (bigL s.toNat n).length ((bigL s.toNat n).map (Value.int .u8)) ∧ Below w.heap.size w w' := by
  obtain ⟨h1, h2, h3, h4⟩ := hok
  obtain rfl | rfl | rfl | rfl : s = 1 ∨ s = 2 ∨ s = 3 ∨ s = 4 := by omega
  · refine (big_1 n w h3 h4).mono ?_
    rintro e w' ⟨rfl, rfl⟩
    have e : bigL ((1 : Int)).toNat n = [n % 256] := by simp [bigL]
    rw [e]
    exact ⟨_, rfl, World.ownsRow_lit w #[.int .u8 (n % 256)] 1 (Nat.le_refl _) (by decide) rfl, (Below.refl _ _).alloc (Nat.le_refl _) _⟩
  · refine (big_2 n w h3 h4).mono ?_
    rintro e w' ⟨rfl, rfl⟩
    have e : bigL ((2 : Int)).toNat n = [n / 256 % 256, n % 256] := by simp [bigL]
    rw [e]
    exact ⟨_, rfl, World.ownsRow_lit w #[.int .u8 (n / 256 % 256), .int .u8 (n % 256)] 2 (Nat.le_refl _) (by decide) rfl, (Below.refl _ _).alloc (Nat.le_refl _) _⟩
  · refine (big_3 n w h3 h4).mono ?_
    rintro e w' ⟨rfl, rfl⟩
    have e : bigL ((3 : Int)).toNat n = [n / 65536 % 256, n / 256 % 256, n % 256] := by simp [bigL]
    rw [e]
    exact ⟨_, rfl, World.ownsRow_lit w #[.int .u8 (n / 65536 % 256), .int .u8 (n / 256 % 256), .int .u8 (n % 256)] 3 (Nat.le_refl _) (by decide) rfl, (Below.refl _ _).alloc (Nat.le_refl _) _⟩
  · refine (big_4 n w h3 h4).mono ?_
    rintro e w' ⟨rfl, rfl⟩
    have e : bigL ((4 : Int)).toNat n = [n / 16777216 % 256, n / 65536 % 256, n / 256 % 256, n % 256] := by simp [bigL]
    rw [e]
    exact ⟨_, rfl, World.ownsRow_lit w #[.int .u8 (n / 16777216 % 256), .int .u8 (n / 65536 % 256), .int .u8 (n / 256 % 256), .int .u8 (n % 256)] 4 (Nat.le_refl _) (by decide) rfl, (Below.refl _ _).alloc (Nat.le_refl _) _⟩
end Go.Proofs.YtdlaaollamgplagGreatDoor
