/-
  CONTRACTS of the Go functions bits.Mul64 and bits.Mul at 1 and a number below 4294967296. No claim by itself.
-/
import Derived.Test.YtkjfhgoddhigmacDoorCspec
import Derived.Laws.CopyOwn
import Derived.Lib.MakeNoZero
namespace Go.Proofs.YtkjfhgoddhigmacDoor
open Go.RowKit
theorem u64_mask32 (y : Int) (h0 : 0 ≤ y) (h1 : y < 18446744073709551616) : bits .and .u64 y 4294967295 = y % 4294967296 := by
  obtain ⟨a, rfl⟩ := Int.eq_ofNat_of_zero_le h0
  rw [show (4294967295 : Int) = ((4294967295 : Nat) : Int) from rfl, u64_and_nat a _ (by omega) (by decide)]
  have := Nat.and_two_pow_sub_one_eq_mod a 32
  rw [show (2 : Nat) ^ 32 - 1 = 4294967295 from by decide] at this
  rw [this, show (2 : Nat) ^ 32 = 4294967296 from by decide]
  omega
set_option maxHeartbeats 2000000 in
theorem mul64_one (y : Nat) (h : y ≤ 281474976710656) (w : World) :
    Calls Tryd.prog 58 #[.int .u64 1, .int .u64 y] w fun e w' => e = .returned (.tuple #[.int .u64 0, .int .u64 y]) ∧ w = w' := by
  have e1 : bits .and .u64 1 4294967295 = 1 := u64_mask32 1 (by decide) (by decide)
  have e2 := u64_mask32 y (by omega) (by omega)
  have e3 : bits .and .u64 0 4294967295 = 0 := u64_mask32 0 (by decide) (by decide)
  obtain ⟨y0, hy0⟩ : ∃ y0 : Int, (y : Int) % 4294967296 = y0 := ⟨_, rfl⟩
  obtain ⟨y1, hy1⟩ : ∃ y1 : Int, (y : Int) / 4294967296 = y1 := ⟨_, rfl⟩
  rw [hy0] at e2
  have b0 : 0 ≤ y0 := by omega
  have b1 : y0 < 4294967296 := by omega
  have b2 : 0 ≤ y1 := by omega
  have b3 : y1 ≤ 65536 := by omega
  have e4 : y0 / 4294967296 = 0 := by omega
  have e5 : y1 / 4294967296 = 0 := by omega
  clear hy0
  go_enter Tryd.func58, Tryd.ntmps58
  go_wp2
  go_ret2
  exact ⟨rfl, rfl⟩
theorem mul_one_ (y : Nat) (h : y ≤ 281474976710656) (w : World) :
    Calls Tryd.prog 51 #[.int .u64 1, .int .u64 y] w fun e w' => e = .returned (.tuple #[.int .u64 0, .int .u64 y]) ∧ w = w' := by
  go_enter Tryd.func51, Tryd.ntmps51
  go_wp2_with fail
  refine (mul64_one y h _).mono ?_
  rintro _ _ ⟨rfl, rfl⟩
  go_wp2
  go_ret2
  exact ⟨rfl, rfl⟩
end Go.Proofs.YtkjfhgoddhigmacDoor
