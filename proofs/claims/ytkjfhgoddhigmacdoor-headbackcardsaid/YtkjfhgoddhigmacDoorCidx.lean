/-
  CONTRACTS of the Go functions strings.IndexByte and code.spell at the bytes that are often. No claim by itself.
-/
import Derived.Test.YtkjfhgoddhigmacDoorCspec
import Derived.Laws.Externs
import Derived.Laws.StandIn
namespace Go.Proofs.YtkjfhgoddhigmacDoor
open Go.RowKit
/-- The bytes that are often, as the program's text has them. -/
def oftB : ByteArray := ⟨#[101, 116, 97, 111, 105, 110, 115, 104, 114, 100, 108, 117, 99, 109, 102, 119, 121, 112, 118, 98, 103, 107, 120, 106, 113, 122, 45, 47, 46, 58, 48, 32]⟩
theorem first_fin : ∀ c : Fin 256, firstIdx oftB ((c.val : Int)).toNat.toUInt8 = oidx (c.val : Int) := by decide +kernel
theorem first_oft (c : Int) (h0 : 0 ≤ c) (h1 : c < 256) : firstIdx oftB c.toNat.toUInt8 = oidx c := by
  have h := first_fin ⟨c.toNat, by omega⟩
  have e : ((c.toNat : Nat) : Int) = c := by omega
  simp only [e] at h
  exact h
theorem isl_any (c : Int) (h0 : 0 ≤ c) (h1 : c < 256) (w : World) :
    Calls Tryd.prog 59 #[.string oftB, .int .u8 c] w fun e w' => e = .returned (.int .i64 (oidx c)) ∧ w = w' := by
  go_enter Tryd.func59, Tryd.ntmps59
  have hx := @run_callFunc_indexByte Tryd.prog 62 _ Tryd.func62 (by kernel_rfl) (by kernel_rfl) (by kernel_rfl) (by kernel_rfl)
  have hr : ∀ W : World, (Extern.BytealgIndexByte.indexByte #[.string oftB, .int .u8 c]).run Tryd.prog W = .ok (.int .i64 (oidx c)) W := fun W => by rw [run_indexByte_string, first_oft c h0 h1]
  go_wp2_with fail
  go_ret
  exact ⟨rfl, rfl⟩
theorem idx_any (c : Int) (h0 : 0 ≤ c) (h1 : c < 256) (w : World) :
    Calls Tryd.prog 53 #[.string oftB, .int .u8 c] w fun e w' => e = .returned (.int .i64 (oidx c)) ∧ w = w' := by
  go_enter Tryd.func53, Tryd.ntmps53
  go_wp2_with fail
  refine (isl_any c h0 h1 _).mono ?_
  rintro _ _ ⟨rfl, rfl⟩
  go_wp2
  go_ret
  exact ⟨rfl, rfl⟩
end Go.Proofs.YtkjfhgoddhigmacDoor
