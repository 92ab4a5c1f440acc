/-
  CONTRACT of the Go function tollsame.Fields, at lists that are the same. No claim by itself.
-/
import Derived.Deep.QuietTactic
import Derived.BigQuiet
import Derived.WalkKit
import Derived.LaidEql
import Derived.Stop.Asserts
import Derived.RowKitTokens
import Derived.Test.YtkjfhgoddhigmacGreatDoorM01
import Derived.Test.YtkjfhgoddhigmacGreatDoorM32
import Derived.Test.YtkjfhgoddhigmacGreatDoorProg
namespace Go.Proofs.YtkjfhgoddhigmacGreatDoor
open Go.RowKit
set_option maxRecDepth 100000
set_option maxHeartbeats 4000000 in
theorem sfields_any (a a2 : Option Addr) (len cap cap2 : Nat) (L : List (ByteArray × ByteArray)) (w : World) (h1 : FArg w a len cap L) (h2 : FArg w a2 len cap2 L) (hlm : len ≤ 4611686018427387904) :
    Calls Tryz.prog 15 #[.slice a len cap, .slice a2 len cap2] w fun e w' => e = .returned (.bool true) ∧ Below w.heap.size w w' := by
  have heq : ∀ (a b : ByteArray) (w : World), (binOp .neq 60 (.agg #[.string a, .string b]) (.agg #[.string a, .string b])).run Tryz.prog w = .ok (.bool false) w := fun a b w => by rw [run_neqF]; simp
  have hgd := eqGuardF
  have H1 : Hid (∀ wx, Below w.heap.size w wx → FArg wx a len cap L) := fun wx hb => h1.below hb
  have H2 : Hid (∀ wx, Below w.heap.size w wx → FArg wx a2 len cap2 L) := fun wx hb => h2.below hb
  clear h1 h2
  go_enter Tryz.func15, Tryz.ntmps15
  go_wp2_with fail
  go_loopw [5] (fun i wr => ∃ k : Nat, i = .int .i64 k ∧ k ≤ len ∧ Below w.heap.size w wr) (fun i _ => len - (intOf i).toNat)
  case atStart => exact ⟨0, rfl, by omega, Below.refl _ _⟩
  case round =>
    obtain ⟨k, rfl, hk, hbel⟩ := hrel
    by_cases hlt : k < len
    · rcases H1.out wr hbel with ⟨h0, _⟩ | ⟨g, off, rfl, hr⟩
      · omega
      rcases H2.out wr hbel with ⟨h0, _⟩ | ⟨g2, off2, rfl, hr2⟩
      · omega
      have c1 := hr.hname k hlt
      have c2 := hr.hvalue k hlt
      have c3 := hr2.hname k hlt
      have c4 := hr2.hvalue k hlt
      have hcap := hr.hcap
      have hcap2 := hr2.hcap
      have hk0 : (0 : Int) ≤ (k : Int) := by omega
      have hk1 : (k : Int) < (len : Int) := by omega
      generalize L.getD k fnone = f at *
      obtain ⟨n, v⟩ := f
      have HBE := hide hbel
      clear hr hr2 hbel
      go_wp2_with fail
      go_quiet (fail)
      go_wp2
      go_roundw
      case rel => exact ⟨k + 1, by go_num, by omega, drewN_below HBE.out _⟩
      case measure => simp [intOf]; omega
    · have hge : ¬ (k : Int) < (len : Int) := by omega
      go_wp2
      go_ret
      exact ⟨rfl, hbel⟩
end Go.Proofs.YtkjfhgoddhigmacGreatDoor
/-
  TWO CODERS SIDE BY SIDE; bytes and fields that one of them made. No claim by itself.
-/
namespace Go.Proofs.YtkjfhgoddhigmacGreatDoor
open Go.RowKit
set_option maxRecDepth 100000
/-- Two coders that share nothing. -/
structure Two (base : Nat) (w : World) (c1 : Nat) (s1 : CSt) (S1 : Nat → Prop) (c2 : Nat) (s2 : CSt) (S2 : Nat → Prop) : Prop where
  h1 : HCod w c1 s1 S1
  h2 : HCod w c2 s2 S2
  hd : ∀ k, S1 k → ¬ S2 k
  hb1 : ∀ k, S1 k → base ≤ k
  hb2 : ∀ k, S2 k → base ≤ k
  hbase : base ≤ w.heap.size
theorem Two.below {base : Nat} {w w' : World} {c1 c2 : Nat} {s1 s2 : CSt} {S1 S2 : Nat → Prop} (h : Two base w c1 s1 S1 c2 s2 S2) (hb : Below w.heap.size w w') : Two base w' c1 s1 S1 c2 s2 S2 :=
  ⟨h.h1.below hb, h.h2.below hb, h.hd, h.hb1, h.hb2, Nat.le_trans h.hbase hb.size⟩
theorem Two.left {base : Nat} {w w' : World} {c1 c2 : Nat} {s1 s2 s1' : CSt} {S1 S2 S1' : Nat → Prop} (h : Two base w c1 s1 S1 c2 s2 S2) (ho : Off S1 w w') (hc : HCod w' c1 s1' S1') (hS : ∀ k, S1' k → S1 k ∨ w.heap.size ≤ k) : Two base w' c1 s1' S1' c2 s2 S2 := by
  refine ⟨hc, h.h2.off ho (fun k h2 h1 => h.hd k h1 h2) h.h1.hal, fun k hk h2 => ?_, fun k hk => ?_, h.hb2, Nat.le_trans h.hbase ho.size⟩
  · rcases hS k hk with h1 | h1
    · exact h.hd k h1 h2
    · have := h.h2.hlt k h2; omega
  · rcases hS k hk with h1 | h1
    · exact h.hb1 k h1
    · have := h.hbase; omega
theorem Two.right {base : Nat} {w w' : World} {c1 c2 : Nat} {s1 s2 s2' : CSt} {S1 S2 S2' : Nat → Prop} (h : Two base w c1 s1 S1 c2 s2 S2) (ho : Off S2 w w') (hc : HCod w' c2 s2' S2') (hS : ∀ k, S2' k → S2 k ∨ w.heap.size ≤ k) : Two base w' c1 s1 S1 c2 s2' S2' := by
  refine ⟨h.h1.off ho (fun k h1 h2 => h.hd k h1 h2) h.h2.hal, hc, fun k hk h2 => ?_, h.hb1, fun k hk => ?_, Nat.le_trans h.hbase ho.size⟩
  · rcases hS k h2 with h1 | h1
    · exact h.hd k hk h1
    · have := h.h1.hlt k hk; omega
  · rcases hS k hk with h1 | h1
    · exact h.hb2 k h1
    · have := h.hbase; omega
theorem Two.belowL {base : Nat} {a w w' : World} {c1 c2 : Nat} {s1 s2 : CSt} {S1 S2 : Nat → Prop} (h : Two base w c1 s1 S1 c2 s2 S2) (hb : Below base a w) (ho : Off S1 w w') : Below base a w' := Below.off hb ho h.hbase h.hb1
theorem Two.belowR {base : Nat} {a w w' : World} {c1 c2 : Nat} {s1 s2 : CSt} {S1 S2 : Nat → Prop} (h : Two base w c1 s1 S1 c2 s2 S2) (hb : Below base a w) (ho : Off S2 w w') : Below base a w' := Below.off hb ho h.hbase h.hb2
theorem own_off {S : Nat → Prop} {w w' : World} {base e size n : Nat} {v : Value} {xs : List Value} (h : w.ownsRow base e size v n xs) (ho : Off S w w') (hn : ∀ k, v.ownBlock = some k → ¬ S k) : w'.ownsRow base e size v n xs :=
  own_kept h (fun k hk => ho.block k (h.lt k hk).2 (hn k hk))
/-- Bytes that were made: their value, and that they stay. -/
theorem argS_of {S : Nat → Prop} {w : World} {base n : Nat} {v : Value} {Z : List Int} (hl : Z.length = n) (h : w.ownsRow base 5 1 v n (Z.map (Value.int .u8))) (hb : ∀ x ∈ Z, 0 ≤ x ∧ x < 256) (hn : ∀ k, v.ownBlock = some k → ¬ S k) : ∃ a cap, v = .slice a n cap ∧ ArgS S w a n cap Z := by
  obtain ⟨_, a, cap, rfl, _⟩ := slen_own h
  refine ⟨a, cap, rfl, fun wx ho => ?_⟩
  have hx := own_off h ho hn
  by_cases h0 : n = 0
  · exact Or.inl ⟨h0, List.eq_nil_of_length_eq_zero (by omega)⟩
  · obtain ⟨g, cap', e⟩ := shape_n hx (by omega)
    cases e
    exact Or.inr ⟨g, 0, rfl, row_of hl hx hb⟩
theorem farg_of {w : World} {base n : Nat} {v : Value} {L : List (ByteArray × ByteArray)} (hl : L.length = n) (h : w.ownsRow base 60 2 v n (fcells L)) : ∃ a cap, v = .slice a n cap ∧ FArg w a n cap L := by
  obtain ⟨a, cap, rfl⟩ := dslen_own h
  refine ⟨a, cap, rfl, ?_⟩
  by_cases h0 : n = 0
  · exact Or.inl ⟨h0, List.eq_nil_of_length_eq_zero (by omega)⟩
  · obtain ⟨g, cap', e, _, _⟩ := World.ownsRow.form h (by omega)
    cases e
    exact Or.inr ⟨g, 0, rfl, dfrow_of hl h⟩
theorem HFit.new {max : Int} (h0 : 0 ≤ max) (h1 : max ≤ 4096) : HFit ⟨max, max, max, [], [], [], false⟩ := ⟨Fit.nil h0 h1, Fit.nil h0 h1, ⟨h0, h1⟩, fun x hx => by simp at hx, fun h => absurd rfl h⟩
theorem HFit.inn' {st : CSt} (h : HFit st) {mi : Int} {AI : List (ByteArray × ByteArray)} (hF : Fit mi AI) : HFit { st with mi := mi, AI := AI } := ⟨h.out, hF, h.hmost, h.hsz, h.hlast⟩
/-- Bytes that Encode wrote. -/
theorem enc_bytes {st : CSt} (h : HFit st) (L : List (ByteArray × ByteArray)) : ∀ x ∈ szL st.sz ++ (encL st.mo st.AO L).1, 0 ≤ x ∧ x < 256 := by
  intro x hx
  rcases List.mem_append.1 hx with h1 | h1
  · exact szL_byte st.sz h.hsz x h1
  · exact encL_byte L h.out x h1
theorem not_much {L : List (ByteArray × ByteArray)} (h : ¬ tooMuch L) : L.length ≤ 40 ∧ weight L ≤ 2000 ∧ ∀ f ∈ L, small f :=
  ⟨Nat.le_of_not_lt (fun h1 => h (Or.inl h1)), Nat.le_of_not_lt (fun h1 => h (Or.inr (Or.inl h1))), fun f hf => Classical.byContradiction (fun h1 => h (Or.inr (Or.inr ⟨f, hf, h1⟩)))⟩
end Go.Proofs.YtkjfhgoddhigmacGreatDoor
/-
  errors.As at the target *api.Errno, by contracts (after the guide's worked toy of errors.As at a pointer target): a nil error: false; an error that is an Errno: true, and the target is set; four new blocks. No claim by itself.
-/
namespace Go.Proofs.YtkjfhgoddhigmacGreatDoor
open Go.RowKit Go.Extern.Stop Go.Stop Go.Extern

theorem as_nil (t : Value) (w : World) :
    Calls Tryz.prog 34 #[.nilIface, t] w fun e w' => e = .returned (.bool false) ∧ w' = w := by
  go_enter Tryz.func34, Tryz.ntmps34
  go_wp2
  go_ret
  exact ⟨rfl, rfl⟩

theorem Tryz.valueOf27 (t : Addr) (w : World) : (ReflectliteValue.unpack (.iface 75 (.pointer (some t)))).run Tryz.prog w
    = .ok (.agg #[.pointer (some ⟨3, 75, none⟩), .pointer (some ⟨w.heap.size, 0, none⟩), .int .u64 150]) (w.alloc (.cells #[.pointer (some t)] 75)) := by kernel_rfl
theorem Tryz.type27 (a : Addr) (w : World) : (ReflectliteValue.methodAny (ReflectliteValue.valueError "reflectlite.Value.Type" 0) (fun t _ _ _ => ReflectliteType.toType t) #[.agg #[.pointer (some ⟨3, 75, none⟩), .pointer (some a), .int .u64 150]]).run Tryz.prog w
    = .ok (.iface 115 (.agg #[.pointer (some ⟨3, 75, none⟩)])) w := by kernel_rfl
theorem Tryz.methodKind (h : Value) (w : World) : (Go.method 290 115 (.agg #[h]) "Kind").run Tryz.prog w = .ok (111, h) w := by kernel_rfl
theorem Tryz.kind27 (w : World) : ((ReflectliteType.abiMethod fun t => (fun a : Nat => Value.int IntKind.u8 (a : Int)) <$> Rtype.kind t) #[.pointer (some ⟨3, 75, none⟩)]).run Tryz.prog w = .ok (.int .u8 22) w := by kernel_rfl
theorem Tryz.kind25 (w : World) : ((ReflectliteType.abiMethod fun t => (fun a : Nat => Value.int IntKind.u8 (a : Int)) <$> Rtype.kind t) #[.pointer (some ⟨3, 53, none⟩)]).run Tryz.prog w = .ok (.int .u8 2) w := by kernel_rfl

theorem Tryz.parts27 (a : Addr) (w : World) : (ReflectliteValue.parts (.agg #[.pointer (some ⟨3, 75, none⟩), .pointer (some a), .int .u64 150])).run Tryz.prog w = .ok (some (75, a, 150)) w := by kernel_rfl
theorem Tryz.isNil27 (a p : Addr) (W : World) (ha : W.cell? a = some (.pointer (some p))) :
    (ReflectliteValue.method (ReflectliteValue.valueError "reflectlite.Value.IsNil" 0) ReflectliteValue.isNil #[.agg #[.pointer (some ⟨3, 75, none⟩), .pointer (some a), .int .u64 150]]).run Tryz.prog W = .ok (.bool false) W := by
  change Sem.run Tryz.prog (ReflectliteValue.parts (.agg #[.pointer (some ⟨3, 75, none⟩), .pointer (some a), .int .u64 150]) >>= _) W = _
  simp only [Sem.run_bind, Tryz.parts27, Result.andThen]
  simp [ReflectliteValue.isNil, loadVar, isAgg, underlying, Tryz.underlying75, ha, Result.andThen]

theorem Tryz.methodElem (h : Value) (w : World) : (Go.method 290 115 (.agg #[h]) "Elem").run Tryz.prog w = .ok (121, .agg #[h]) w := by kernel_rfl
theorem Tryz.methodImplements (h : Value) (w : World) : (Go.method 290 115 (.agg #[h]) "Implements").run Tryz.prog w = .ok (122, .agg #[h]) w := by kernel_rfl
theorem Tryz.methodAssignableTo (h : Value) (w : World) : (Go.method 290 115 (.agg #[h]) "AssignableTo").run Tryz.prog w = .ok (119, .agg #[h]) w := by kernel_rfl
theorem Tryz.elem27 (w : World) : (ReflectliteType.method ReflectliteType.elem #[.agg #[.pointer (some ⟨3, 75, none⟩)]]).run Tryz.prog w = .ok (.iface 115 (.agg #[.pointer (some ⟨3, 53, none⟩)])) w := by kernel_rfl
theorem Tryz.implements25 (w : World) : (ReflectliteType.relation "Implements" ReflectliteType.implements_ #[.agg #[.pointer (some ⟨3, 53, none⟩)], .iface 115 (.agg #[.pointer (some ⟨3, 27, none⟩)])]).run Tryz.prog w = .ok (.bool true) w := by kernel_rfl
theorem Tryz.typeOf25 (v : Value) (w : World) : (ReflectliteType.typeOf #[.iface 53 v]).run Tryz.prog w = .ok (.iface 115 (.agg #[.pointer (some ⟨3, 53, none⟩)])) w := by kernel_rfl
theorem Tryz.assignable25 (w : World) : (ReflectliteType.relation "AssignableTo" ReflectliteType.assignableTo #[.agg #[.pointer (some ⟨3, 53, none⟩)], .iface 115 (.agg #[.pointer (some ⟨3, 53, none⟩)])]).run Tryz.prog w = .ok (.bool true) w := by kernel_rfl
theorem Tryz.valueOf25 (e : Int) (w : World) : (ReflectliteValue.unpack (.iface 53 (.int .i64 e))).run Tryz.prog w
    = .ok (.agg #[.pointer (some ⟨3, 53, none⟩), .pointer (some ⟨w.heap.size, 0, none⟩), .int .u64 130]) (w.alloc (.cells #[.int .i64 e] 53)) := by kernel_rfl

theorem Tryz.elemOf27 (w : World) : (Rtype.elem? 75).run Tryz.prog w = .ok (some 53) w := by kernel_rfl
theorem Tryz.mk25 (p : Addr) (w : World) : (ReflectliteValue.mk 53 p ReflectliteValue.flagAddr).run Tryz.prog w = .ok (.agg #[.pointer (some ⟨3, 53, none⟩), .pointer (some p), .int .u64 386]) w := by kernel_rfl
theorem Tryz.elemV27 (a p : Addr) (W : World) (ha : W.cell? a = some (.pointer (some p))) :
    (ReflectliteValue.method (ReflectliteValue.valueError "reflectlite.Value.Elem" 0) ReflectliteValue.elem #[.agg #[.pointer (some ⟨3, 75, none⟩), .pointer (some a), .int .u64 150]]).run Tryz.prog W
      = .ok (.agg #[.pointer (some ⟨3, 53, none⟩), .pointer (some p), .int .u64 386]) W := by
  change Sem.run Tryz.prog (ReflectliteValue.parts (.agg #[.pointer (some ⟨3, 75, none⟩), .pointer (some a), .int .u64 150]) >>= _) W = _
  simp only [Sem.run_bind, Tryz.parts27, Result.andThen]
  simp [ReflectliteValue.elem, loadVar, isAgg, underlying, Tryz.underlying75, ha, Result.andThen, Tryz.elemOf27, Tryz.mk25]
theorem Tryz.parts25a (a : Addr) (w : World) : (ReflectliteValue.parts (.agg #[.pointer (some ⟨3, 53, none⟩), .pointer (some a), .int .u64 386])).run Tryz.prog w = .ok (some (53, a, 386)) w := by kernel_rfl
theorem Tryz.parts25 (a : Addr) (w : World) : (ReflectliteValue.parts (.agg #[.pointer (some ⟨3, 53, none⟩), .pointer (some a), .int .u64 130])).run Tryz.prog w = .ok (some (53, a, 130)) w := by kernel_rfl
theorem Tryz.direct25 (w : World) : (Rtype.directlyAssignable 53 53).run Tryz.prog w = .ok true w := by kernel_rfl
theorem Tryz.size25 (w : World) : (sizeOf 53).run Tryz.prog w = .ok 1 w := by kernel_rfl
theorem Tryz.set25 (ta b : Addr) (e : Int) (old : Value) (W : World) (hb : W.cell? b = some (.int .i64 e)) (ht : W.cell? ta = some old) (hf : W.frozen? ta = false) :
    (ReflectliteValue.set #[.agg #[.pointer (some ⟨3, 53, none⟩), .pointer (some ta), .int .u64 386], .agg #[.pointer (some ⟨3, 53, none⟩), .pointer (some b), .int .u64 130]]).run Tryz.prog W
      = .ok (.tuple #[]) (W.setCell ta (.int .i64 e)) := by
  change Sem.run Tryz.prog (ReflectliteValue.parts (.agg #[.pointer (some ⟨3, 53, none⟩), .pointer (some ta), .int .u64 386]) >>= fun r => ReflectliteValue.parts (.agg #[.pointer (some ⟨3, 53, none⟩), .pointer (some b), .int .u64 130]) >>= _) W = _
  simp only [Sem.run_bind, Tryz.parts25a, Tryz.parts25, Result.andThen]
  simp [ReflectliteValue.flagAddr, loadVar, isAgg, underlying, Tryz.underlying53, hb, Result.andThen, Tryz.direct25, storeVar, Value.cells, storeCells, Addr.add]
  rw [run_store Tryz.prog W ta _ _ (by rfl)]
  simp [ht, hf]

set_option maxHeartbeats 4000000 in
theorem as_hit (e : Int) (t : Addr) (old : Value) (w : World) (hg : w.cell? ⟨0, 0, none⟩ = some (.iface 115 (.agg #[.pointer (some ⟨3, 27, none⟩)]))) (ht0 : w.cell? t = some old) (hf0 : w.frozen? t = false) :
    Calls Tryz.prog 34 #[.iface 53 (.int .i64 e), .iface 75 (.pointer (some t))] w fun ev w' => ev = .returned (.bool true) ∧ w' = ((((w.alloc (.cells #[.pointer (some t)] 75)).alloc (.cells #[.pointer (some ⟨3, 75, none⟩), .pointer (some ⟨w.heap.size, 0, none⟩), .int .u64 150] 95)).alloc (.cells #[.pointer (some ⟨3, 75, none⟩), .pointer (some ⟨w.heap.size, 0, none⟩), .int .u64 150] 95)).alloc (.cells #[.int .i64 e] 53)).setCell t (.int .i64 e) := by
  have h6 := @run_callFunc_extern Tryz.prog 50 _ (fun args => ReflectliteValue.unpack (args.getD 0 (.tuple #[]))) Tryz.func50 (by kernel_rfl) (by kernel_rfl) (by kernel_rfl) (by kernel_rfl)
  have h7 := @run_callFunc_extern Tryz.prog 51 _ (ReflectliteValue.methodAny (ReflectliteValue.valueError "reflectlite.Value.Type" 0) (fun t _ _ _ => ReflectliteType.toType t)) Tryz.func51 (by kernel_rfl) (by kernel_rfl) (by kernel_rfl) (by kernel_rfl)
  have h8 := @run_callFunc_extern Tryz.prog 52 _ (ReflectliteValue.method (ReflectliteValue.valueError "reflectlite.Value.IsNil" 0) ReflectliteValue.isNil) Tryz.func52 (by kernel_rfl) (by kernel_rfl) (by kernel_rfl) (by kernel_rfl)
  have h27 := @run_callFunc_extern Tryz.prog 111 _ (ReflectliteType.abiMethod fun t => do pure (.int .u8 (← Rtype.kind t))) Tryz.func111 (by kernel_rfl) (by kernel_rfl) (by kernel_rfl) (by kernel_rfl)
  have h37 := @run_callFunc_extern Tryz.prog 121 _ (ReflectliteType.method ReflectliteType.elem) Tryz.func121 (by kernel_rfl) (by kernel_rfl) (by kernel_rfl) (by kernel_rfl)
  have h38 := @run_callFunc_extern Tryz.prog 122 _ (ReflectliteType.relation "Implements" ReflectliteType.implements_) Tryz.func122 (by kernel_rfl) (by kernel_rfl) (by kernel_rfl) (by kernel_rfl)
  have h10 := @run_callFunc_extern Tryz.prog 66 _ ReflectliteType.typeOf Tryz.func66 (by kernel_rfl) (by kernel_rfl) (by kernel_rfl) (by kernel_rfl)
  have h35 := @run_callFunc_extern Tryz.prog 119 _ (ReflectliteType.relation "AssignableTo" ReflectliteType.assignableTo) Tryz.func119 (by kernel_rfl) (by kernel_rfl) (by kernel_rfl) (by kernel_rfl)
  have h11 := @run_callFunc_extern Tryz.prog 67 _ (ReflectliteValue.method (ReflectliteValue.valueError "reflectlite.Value.Elem" 0) ReflectliteValue.elem) Tryz.func67 (by kernel_rfl) (by kernel_rfl) (by kernel_rfl) (by kernel_rfl)
  have h12 := @run_callFunc_extern Tryz.prog 68 _ ReflectliteValue.set Tryz.func68 (by kernel_rfl) (by kernel_rfl) (by kernel_rfl) (by kernel_rfl)
  have tO := Tryz.typeOf25
  have mA := Tryz.methodAssignableTo
  have a25 := Tryz.assignable25
  have v25 := Tryz.valueOf25
  have f6 := Tryz.valueOf27
  have f7 := Tryz.type27
  have mK := Tryz.methodKind
  have mE := Tryz.methodElem
  have mI := Tryz.methodImplements
  have k27 := Tryz.kind27
  have k25 := Tryz.kind25
  have e27 := Tryz.elem27
  have i25 := Tryz.implements25
  have n8 := Tryz.isNil27 ⟨w.heap.size, 0, none⟩ t ((w.alloc (.cells #[.pointer (some t)] 75)).alloc (.cells #[.pointer (some ⟨3, 75, none⟩), .pointer (some ⟨w.heap.size, 0, none⟩), .int .u64 150] 95)) (by simp)
  have hlt : 0 < w.heap.size := by
    rcases Nat.lt_or_ge 0 w.heap.size with h | h
    · exact h
    · simp [World.cell?, Array.getElem?_eq_none h] at hg
  have hg2 : ((w.alloc (.cells #[.pointer (some t)] 75)).alloc (.cells #[.pointer (some ⟨3, 75, none⟩), .pointer (some ⟨w.heap.size, 0, none⟩), .int .u64 150] 95)).cell? ⟨0, 0, none⟩ = some (.iface 115 (.agg #[.pointer (some ⟨3, 27, none⟩)])) := by
    rw [World.cell?_alloc_lt _ _ ⟨0, 0, none⟩ (by first | (simp; done) | (simp; omega)), World.cell?_alloc_lt _ _ ⟨0, 0, none⟩ hlt]; exact hg
  have htl : t.block < w.heap.size := by
    rcases Nat.lt_or_ge t.block w.heap.size with h | h
    · exact h
    · simp [World.cell?, Array.getElem?_eq_none h] at ht0
  have el := Tryz.elemV27 ⟨w.heap.size, 0, none⟩ t (((w.alloc (.cells #[.pointer (some t)] 75)).alloc (.cells #[.pointer (some ⟨3, 75, none⟩), .pointer (some ⟨w.heap.size, 0, none⟩), .int .u64 150] 95)).alloc (.cells #[.pointer (some ⟨3, 75, none⟩), .pointer (some ⟨w.heap.size, 0, none⟩), .int .u64 150] 95)) (by rw [World.cell?_alloc_lt _ _ ⟨w.heap.size, 0, none⟩ (by simp; omega)]; simp)
  have st := Tryz.set25 t ⟨w.heap.size + 1 + 1 + 1, 0, none⟩ e old ((((w.alloc (.cells #[.pointer (some t)] 75)).alloc (.cells #[.pointer (some ⟨3, 75, none⟩), .pointer (some ⟨w.heap.size, 0, none⟩), .int .u64 150] 95)).alloc (.cells #[.pointer (some ⟨3, 75, none⟩), .pointer (some ⟨w.heap.size, 0, none⟩), .int .u64 150] 95)).alloc (.cells #[.int .i64 e] 53))
    (by rw [World.cell?_alloc_at _ _ _ _ (by simp)]; rfl)
    (by rw [World.cell?_alloc_lt _ _ t (by simp; omega), World.cell?_alloc_lt _ _ t (by simp; omega), World.cell?_alloc_lt _ _ t (by simp; omega), World.cell?_alloc_lt _ _ t htl]; exact ht0)
    (by rw [World.frozen?_alloc_old _ _ t (by simp; omega), World.frozen?_alloc_old _ _ t (by simp; omega), World.frozen?_alloc_old _ _ t (by simp; omega), World.frozen?_alloc_old _ _ t (Nat.ne_of_lt htl)]; exact hf0)
  go_enter Tryz.func34, Tryz.ntmps34
  go_wp2
  refine wp_loop_rounds 1 ?_
  rw [rounds_succ]
  go_wp2
  go_ret
  exact ⟨rfl, rfl⟩
end Go.Proofs.YtkjfhgoddhigmacGreatDoor
