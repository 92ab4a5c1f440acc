/-
  WHAT IS ASKED of package head's Text and ReadText. No claim by itself.
-/
import Derived.Test.YtkjfhgoddhigmacDoorHmath
import Derived.Test.YtkjfhgoddhigmacDoorCspec
namespace Go.Proofs.YtkjfhgoddhigmacDoor
open Go.RowKit
/-- An error as the program tells it: nil, or an Errno. -/
def Err (k : Int) (x : Value) : Prop := (k = 0 ∧ x = .nilIface) ∨ (k ≠ 0 ∧ x = .iface 49 (.int .i64 k))
def HReadSaid : Prop := ∀ (a : Option Addr) (len cap : Nat) (Z : List Int) (w : World), Arg w a len cap Z → len ≤ 140737488351232 →
    Calls Tryd.prog 50 #[.slice a len cap] w fun e w' => Below w.heap.size w w' ∧ ∃ x, e = .returned (.tuple #[.string (strOfNums (rtF Z).1), .int .i64 (rtF Z).2.1, x]) ∧ Err (rtF Z).2.2 x
end Go.Proofs.YtkjfhgoddhigmacDoor
