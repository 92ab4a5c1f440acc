/-
  WHAT IS ASKED of package head's Text and ReadText. No claim by itself.
-/
import Derived.Test.YtkjfhgoddhigmabDoorHmath
import Derived.Test.YtkjfhgoddhigmabDoorCspec
namespace Go.Proofs.YtkjfhgoddhigmabDoor
open Go.RowKit
/-- An error as the program tells it: nil, or an Errno. -/
def Err (k : Int) (x : Value) : Prop := (k = 0 ∧ x = .nilIface) ∨ (k ≠ 0 ∧ x = .iface 61 (.int .i64 k))
def HTextSaid : Prop := ∀ (s : ByteArray) (w : World),
    Calls Tryd.prog 23 #[.string s] w fun e w' => Below w.heap.size w w' ∧ ∃ v x, e = .returned (.tuple #[v, x]) ∧
      ((s.size ≤ 400 ∧ Err 0 x ∧ Made w' w.heap.size v (txtL (nums s)).length (txtL (nums s))) ∨ (400 < s.size ∧ Err 4 x ∧ Made w' w.heap.size v 0 []))
def HReadSaid : Prop := ∀ (a : Option Addr) (len cap : Nat) (Z : List Int) (w : World), Arg w a len cap Z → len ≤ 140737488351232 →
    Calls Tryd.prog 25 #[.slice a len cap] w fun e w' => Below w.heap.size w w' ∧ ∃ x, e = .returned (.tuple #[.string (strOfNums (rtF Z).1), .int .i64 (rtF Z).2.1, x]) ∧ Err (rtF Z).2.2 x
end Go.Proofs.YtkjfhgoddhigmabDoor
