/-
  CONTRACT of the Go function errors.Is at api.Errno. No claim by itself.
-/
import Derived.Test.YtdlaaollamgplagGreatDoorKapp
import Derived.WalkKit
import Derived.LaidEql
import Derived.Stop.Asserts
import Derived.RowKitTokens
import Derived.LoopN
namespace Go.Proofs.YtdlaaollamgplagGreatDoor
open Go Go.RowKit Go.Extern.Stop Go.Stop Go.Extern
set_option maxRecDepth 100000
theorem isTypeOf (v : Value) (w : World) : (Extern.ReflectliteType.typeOf #[.iface 88 v]).run Tryz.prog w = .ok (.iface 227 (.agg #[.pointer (some ⟨10, 88, none⟩)])) w := by kernel_rfl
theorem callComp (w : World) : (callFunc 319 #[.agg #[.pointer (some ⟨10, 88, none⟩)]]).run Tryz.prog w = .ok (.value (.bool true)) w := by
  rw [@run_callFunc_extern Tryz.prog 319 _ (Extern.ReflectliteType.method fun t => do Go.Extern.Rtype.noPackHeld "Comparable" t; pure (.bool (← typeInfo t).comparable)) Tryz.func319 (by kernel_rfl) (by kernel_rfl) (by kernel_rfl) (by kernel_rfl)]
  kernel_rfl
theorem isMethodComparable (v : Value) (w : World) : (Go.method 461 227 v "Comparable").run Tryz.prog w = .ok (319, v) w := by kernel_rfl
theorem noIsE (v : Value) (xT : TypeId) (w : World) : (Instr.typeAssert (.iface 88 v) xT 229 true).run Tryz.prog w = .ok (.tuple #[.nilIface, .bool false]) w := run_typeAssert_lacksB Tryz.underlying229 (by kernel_rfl) (by kernel_rfl) v xT w
theorem noUnwrapE (v : Value) (xT : TypeId) (w : World) : (Instr.typeAssert (.iface 88 v) xT 232 true).run Tryz.prog w = .ok (.tuple #[.nilIface, .bool false]) w := run_typeAssert_lacksB Tryz.underlying232 (by kernel_rfl) (by kernel_rfl) v xT w
theorem noUnwrapsE (v : Value) (xT : TypeId) (w : World) : (Instr.typeAssert (.iface 88 v) xT 234 true).run Tryz.prog w = .ok (.tuple #[.nilIface, .bool false]) w := run_typeAssert_lacksB Tryz.underlying234 (by kernel_rfl) (by kernel_rfl) v xT w
theorem eComp : (Tryz.prog.info? 88).map (·.comparable) = some true := by kernel_rfl
theorem eqIn_errno (d : Nat) (e t : Int) (w : World) : (Op.equalIn (d + 2) 31 (.iface 88 (.int .i64 e)) (.iface 88 (.int .i64 t))).run Tryz.prog w = .ok (decide (e = t)) w := by
  obtain ⟨i, hi, hc⟩ := Option.map_eq_some_iff.1 eComp
  simp [Op.equalIn, run_underlying Tryz.underlying31, run_underlying Tryz.underlying88, typeInfo, hi, hc]
  rw [Bool.eq_iff_iff]
  simp
theorem eql_errno (e t : Int) (w : World) : (binOp .eql 31 (.iface 88 (.int .i64 e)) (.iface 88 (.int .i64 t))).run Tryz.prog w = .ok (.bool (decide (e = t))) w := by
  simp only [binOp]
  simp [Op.equal, Op.maxDepth, eqIn_errno 9998]
theorem nis_any (e t : Int) (ht : t ≠ 0) (w : World) : Calls Tryz.prog 69 #[errW e, .iface 88 (.int .i64 t)] w fun x w' => x = .returned (.bool (decide (e = t))) ∧ w = w' := by
  by_cases h0 : e = 0
  · subst h0
    have h0t : decide ((0 : Int) = t) = false := decide_eq_false (fun h => ht h.symm)
    rw [h0t]
    show Calls _ _ #[.nilIface, _] _ _
    have hn := run_eql_iface_nil_left (P := Tryz.prog) w 88 (.int .i64 t) Tryz.underlying31
    go_enter Tryz.func69, Tryz.ntmps69
    go_wp2
    go_ret
    exact ⟨rfl, rfl⟩
  · have hne : errW e = .iface 88 (.int .i64 e) := if_neg h0
    rw [hne]
    clear hne
    have h8 := @run_callFunc_extern Tryz.prog 125 _ Extern.ReflectliteType.typeOf Tryz.func125 (by kernel_rfl) (by kernel_rfl) (by kernel_rfl) (by kernel_rfl)
    have tT := isTypeOf
    have cT := callComp
    have mR := isMethodComparable
    have nE := noIsE
    have uE := noUnwrapE
    have vE := noUnwrapsE
    have heq := eql_errno e t
    by_cases h : e = t
    · rw [decide_eq_true h]
      rw [decide_eq_true h] at heq
      clear h h0
      go_enter Tryz.func69, Tryz.ntmps69
      go_wp2
      refine wp_loop_rounds 1 ?_
      rw [rounds_succ]
      go_wp2
      go_ret
      exact ⟨rfl, rfl⟩
    · rw [decide_eq_false h]
      rw [decide_eq_false h] at heq
      clear h h0
      go_enter Tryz.func69, Tryz.ntmps69
      go_wp2
      refine wp_loop_rounds 1 ?_
      rw [rounds_succ]
      go_wp2
      go_ret
      exact ⟨rfl, rfl⟩
end Go.Proofs.YtdlaaollamgplagGreatDoor
