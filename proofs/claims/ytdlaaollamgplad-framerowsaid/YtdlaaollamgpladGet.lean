/-
  CONTRACTS of the Go function wire.Get. No claim by itself.
-/
import Derived.Test.YtdlaaollamgpladPut
import Derived.Test.YtdlaaollamgpladRow
namespace Go.Proofs.Ytdlaaollamgplad
open Go.RowKit
set_option maxRecDepth 100000
/-- A number, how many bytes it takes, and an error, as a reading gives them. -/
def Told3 (t : Int × Int × Int) (n u : Int) (x : Value) : Prop :=
  (t = (n, u, 0) ∧ x = .nilIface) ∨ ∃ k, k ≠ 0 ∧ t = (n, u, k) ∧ x = .iface 58 (.int .i64 k)
end Go.Proofs.Ytdlaaollamgplad
