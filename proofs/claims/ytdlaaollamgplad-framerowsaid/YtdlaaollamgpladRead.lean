/-
  CONTRACTS of the Go functions wire.Read, tollref1.Word and tollref1.Read. No claim by itself.
-/
import Derived.Test.YtdlaaollamgpladBig
import Derived.Test.YtdlaaollamgpladGet
namespace Go.Proofs.Ytdlaaollamgplad
open Go.RowKit
/-- A number and an error, as a reading gives them. -/
def Told2 (t : Int × Int) (n : Int) (x : Value) : Prop :=
  (t = (n, 0) ∧ x = .nilIface) ∨ ∃ k, k ≠ 0 ∧ t = (n, k) ∧ x = .iface 58 (.int .i64 k)
end Go.Proofs.Ytdlaaollamgplad
