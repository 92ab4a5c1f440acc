/-
  CONTRACTS of the Go functions wire.Read, tollref1.Word and tollref1.Read. No claim by itself.
-/
import Derived.Test.YtfdgcpjcpccnnadBig
import Derived.Test.YtfdgcpjcpccnnadGet
namespace Go.Proofs.Ytfdgcpjcpccnnad
open Go.RowKit
/-- A number and an error, as a reading gives them. -/
def Told2 (t : Int × Int) (n : Int) (x : Value) : Prop :=
  (t = (n, 0) ∧ x = .nilIface) ∨ ∃ k, k ≠ 0 ∧ t = (n, k) ∧ x = .iface 37 (.int .i64 k)
end Go.Proofs.Ytfdgcpjcpccnnad
