/-
  errors.As at the target *api.Errno, by contracts (after the guide's worked toy of errors.As at a pointer target): a nil error: false; an error that is an Errno: true, and the target is set; four new blocks. No claim by itself.
-/
import Derived.Test.YtdlaaollamgpladProg
import Derived.WalkKit
import Derived.LaidEql
import Derived.Stop.Asserts
import Derived.RowKitTokens
namespace Go.Proofs.Ytdlaaollamgplad
open Go.RowKit Go.Extern.Stop Go.Stop Go.Extern

theorem Try.kind25 (w : World) : ((ReflectliteType.abiMethod fun t => (fun a : Nat => Value.int IntKind.u8 (a : Int)) <$> Rtype.kind t) #[.pointer (some ⟨0, 58, none⟩)]).run Try.prog w = .ok (.int .u8 2) w := by kernel_rfl

theorem Try.valueOf25 (e : Int) (w : World) : (ReflectliteValue.unpack (.iface 58 (.int .i64 e))).run Try.prog w
    = .ok (.agg #[.pointer (some ⟨0, 58, none⟩), .pointer (some ⟨w.heap.size, 0, none⟩), .int .u64 130]) (w.alloc (.cells #[.int .i64 e] 58)) := by kernel_rfl

theorem Try.mk25 (p : Addr) (w : World) : (ReflectliteValue.mk 58 p ReflectliteValue.flagAddr).run Try.prog w = .ok (.agg #[.pointer (some ⟨0, 58, none⟩), .pointer (some p), .int .u64 386]) w := by kernel_rfl
theorem Try.parts25a (a : Addr) (w : World) : (ReflectliteValue.parts (.agg #[.pointer (some ⟨0, 58, none⟩), .pointer (some a), .int .u64 386])).run Try.prog w = .ok (some (58, a, 386)) w := by kernel_rfl
theorem Try.parts25 (a : Addr) (w : World) : (ReflectliteValue.parts (.agg #[.pointer (some ⟨0, 58, none⟩), .pointer (some a), .int .u64 130])).run Try.prog w = .ok (some (58, a, 130)) w := by kernel_rfl
theorem Try.direct25 (w : World) : (Rtype.directlyAssignable 58 58).run Try.prog w = .ok true w := by kernel_rfl
theorem Try.size25 (w : World) : (sizeOf 58).run Try.prog w = .ok 1 w := by kernel_rfl
theorem Try.set25 (ta b : Addr) (e : Int) (old : Value) (W : World) (hb : W.cell? b = some (.int .i64 e)) (ht : W.cell? ta = some old) (hf : W.frozen? ta = false) :
    (ReflectliteValue.set #[.agg #[.pointer (some ⟨0, 58, none⟩), .pointer (some ta), .int .u64 386], .agg #[.pointer (some ⟨0, 58, none⟩), .pointer (some b), .int .u64 130]]).run Try.prog W
      = .ok (.tuple #[]) (W.setCell ta (.int .i64 e)) := by
  change Sem.run Try.prog (ReflectliteValue.parts (.agg #[.pointer (some ⟨0, 58, none⟩), .pointer (some ta), .int .u64 386]) >>= fun r => ReflectliteValue.parts (.agg #[.pointer (some ⟨0, 58, none⟩), .pointer (some b), .int .u64 130]) >>= _) W = _
  simp only [Sem.run_bind, Try.parts25a, Try.parts25, Result.andThen]
  simp [ReflectliteValue.flagAddr, loadVar, isAgg, underlying, Try.underlying58, hb, Result.andThen, Try.direct25, storeVar, Value.cells, storeCells, Addr.add]
  rw [run_store Try.prog W ta _ _ (by rfl)]
  simp [ht, hf]

end Go.Proofs.Ytdlaaollamgplad
