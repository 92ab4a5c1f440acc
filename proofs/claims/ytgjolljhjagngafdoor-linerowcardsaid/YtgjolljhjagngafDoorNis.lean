/-
  CONTRACT of the Go function errors.Is at api.Errno. No claim by itself.
-/
import Derived.Test.YtgjolljhjagngafDoorNdv9
import Derived.WalkKit
import Derived.LaidEql
import Derived.Stop.Asserts
import Derived.RowKitTokens
import Derived.LoopN
namespace Go.Proofs.YtgjolljhjagngafDoor
open Go Go.RowKit Go.Extern.Stop Go.Stop Go.Extern
set_option maxRecDepth 100000
theorem isTypeOf (v : Value) (w : World) : (Extern.ReflectliteType.typeOf #[.iface 58 v]).run Tryd.prog w = .ok (.iface 148 (.agg #[.pointer (some ⟨5, 58, none⟩)])) w := by kernel_rfl
theorem callComp (w : World) : (callFunc 155 #[.agg #[.pointer (some ⟨5, 58, none⟩)]]).run Tryd.prog w = .ok (.value (.bool true)) w := by
  rw [@run_callFunc_extern Tryd.prog 155 _ (Extern.ReflectliteType.method fun t => do Go.Extern.Rtype.noPackHeld "Comparable" t; pure (.bool (← typeInfo t).comparable)) Tryd.func155 (by kernel_rfl) (by kernel_rfl) (by kernel_rfl) (by kernel_rfl)]
  kernel_rfl
theorem isMethodComparable (v : Value) (w : World) : (Go.method 303 148 v "Comparable").run Tryd.prog w = .ok (155, v) w := by kernel_rfl
theorem noIsE (v : Value) (xT : TypeId) (w : World) : (Instr.typeAssert (.iface 58 v) xT 164 true).run Tryd.prog w = .ok (.tuple #[.nilIface, .bool false]) w := run_typeAssert_lacksB Tryd.underlying164 (by kernel_rfl) (by kernel_rfl) v xT w
theorem noUnwrapE (v : Value) (xT : TypeId) (w : World) : (Instr.typeAssert (.iface 58 v) xT 155 true).run Tryd.prog w = .ok (.tuple #[.nilIface, .bool false]) w := run_typeAssert_lacksB Tryd.underlying155 (by kernel_rfl) (by kernel_rfl) v xT w
theorem noUnwrapsE (v : Value) (xT : TypeId) (w : World) : (Instr.typeAssert (.iface 58 v) xT 156 true).run Tryd.prog w = .ok (.tuple #[.nilIface, .bool false]) w := run_typeAssert_lacksB Tryd.underlying156 (by kernel_rfl) (by kernel_rfl) v xT w
theorem eComp : (Tryd.prog.info? 58).map (·.comparable) = some true := by kernel_rfl
theorem eqIn_errno (d : Nat) (e : Int) (w : World) : (Op.equalIn (d + 2) 24 (.iface 58 (.int .i64 e)) (.iface 58 (.int .i64 8))).run Tryd.prog w = .ok (decide (e = 8)) w := by
  obtain ⟨i, hi, hc⟩ := Option.map_eq_some_iff.1 eComp
  simp [Op.equalIn, run_underlying Tryd.underlying24, run_underlying Tryd.underlying58, typeInfo, hi, hc]
  rw [Bool.eq_iff_iff]
  simp
theorem eql_errno (e : Int) (w : World) : (binOp .eql 24 (.iface 58 (.int .i64 e)) (.iface 58 (.int .i64 8))).run Tryd.prog w = .ok (.bool (decide (e = 8))) w := by
  simp only [binOp]
  simp [Op.equal, Op.maxDepth, eqIn_errno 9998]
theorem nis_any (e : Int) (w : World) : Calls Tryd.prog 100 #[errW e, .iface 58 (.int .i64 8)] w fun x w' => x = .returned (.bool (decide (e = 8))) ∧ w = w' := by
  by_cases h0 : e = 0
  · subst h0
    rw [errW_0]
    have hn := run_eql_iface_nil_left (P := Tryd.prog) w 58 (.int .i64 8) Tryd.underlying24
    go_enter Tryd.func100, Tryd.ntmps100
    go_wp2
    go_ret
    exact ⟨rfl, rfl⟩
  · rw [errW_ne h0]
    have h8 := @run_callFunc_extern Tryd.prog 112 _ Extern.ReflectliteType.typeOf Tryd.func112 (by kernel_rfl) (by kernel_rfl) (by kernel_rfl) (by kernel_rfl)
    have tT := isTypeOf
    have cT := callComp
    have mR := isMethodComparable
    have nE := noIsE
    have uE := noUnwrapE
    have vE := noUnwrapsE
    have heq := eql_errno e
    by_cases h : e = 8
    · rw [decide_eq_true h]
      rw [decide_eq_true h] at heq
      clear h h0
      go_enter Tryd.func100, Tryd.ntmps100
      go_wp2
      refine wp_loop_rounds 1 ?_
      rw [rounds_succ]
      go_wp2
      go_ret
      exact ⟨rfl, rfl⟩
    · rw [decide_eq_false h]
      rw [decide_eq_false h] at heq
      clear h h0
      go_enter Tryd.func100, Tryd.ntmps100
      go_wp2
      refine wp_loop_rounds 1 ?_
      rw [rounds_succ]
      go_wp2
      go_ret
      exact ⟨rfl, rfl⟩
end Go.Proofs.YtgjolljhjagngafDoor
