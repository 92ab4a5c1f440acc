/-
  CONTRACT of the Go function tollref1.Size. No claim by itself.
-/
import Derived.Test.YtkjfhgoddhigmabDoorTmath
namespace Go.Proofs.YtkjfhgoddhigmabDoor
open Go.RowKit
theorem rsize_any (n v : ByteArray) (w : World) (h : n.size + v.size ≤ 1152921504606846976) :
    Calls Tryd.prog 21 #[.agg #[.string n, .string v]] w fun e w' => e = .returned (.int .i64 (fsize (n, v) : Int)) ∧ w' = w.alloc (.cells #[.string n, .string v] 36) := by
  have E : Hid (((n.size : Int) + (v.size : Int) + 32) = (fsize (n, v) : Int)) := by show _ = (fsize (n, v) : Int); unfold fsize; push_cast; rfl
  have h1 : (n.size : Int) + (v.size : Int) ≤ 1152921504606846976 := by omega
  go_enter Tryd.func21, Tryd.ntmps21
  go_wp2
  rw [E.out]
  go_ret
  exact ⟨rfl, rfl⟩
end Go.Proofs.YtkjfhgoddhigmabDoor
