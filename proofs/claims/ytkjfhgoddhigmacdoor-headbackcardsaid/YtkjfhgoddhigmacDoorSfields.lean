/-
  CONTRACT of the Go function tollsame.Fields, at lists that are the same. No claim by itself.
-/
import Derived.Test.YtkjfhgoddhigmacDoorTspec
import Derived.Deep.QuietTactic
import Derived.BigQuiet
namespace Go.Proofs.YtkjfhgoddhigmacDoor
open Go.RowKit
set_option maxRecDepth 100000
set_option maxHeartbeats 4000000 in
theorem sfields_any (a a2 : Option Addr) (len cap cap2 : Nat) (L : List (ByteArray × ByteArray)) (w : World) (h1 : FArg w a len cap L) (h2 : FArg w a2 len cap2 L) (hlm : len ≤ 4611686018427387904) :
    Calls Tryd.prog 9 #[.slice a len cap, .slice a2 len cap2] w fun e w' => e = .returned (.bool true) ∧ Below w.heap.size w w' := by
  have heq : ∀ (a b : ByteArray) (w : World), (binOp .neq 33 (.agg #[.string a, .string b]) (.agg #[.string a, .string b])).run Tryd.prog w = .ok (.bool false) w := fun a b w => by rw [run_neqF]; simp
  have hgd := eqGuardF
  have H1 : Hid (∀ wx, Below w.heap.size w wx → FArg wx a len cap L) := fun wx hb => h1.below hb
  have H2 : Hid (∀ wx, Below w.heap.size w wx → FArg wx a2 len cap2 L) := fun wx hb => h2.below hb
  clear h1 h2
  go_enter Tryd.func9, Tryd.ntmps9
  go_wp2_with fail
  go_loopw [5] (fun i wr => ∃ k : Nat, i = .int .i64 k ∧ k ≤ len ∧ Below w.heap.size w wr) (fun i _ => len - (intOf i).toNat)
  case atStart => exact ⟨0, rfl, by omega, Below.refl _ _⟩
  case round =>
    obtain ⟨k, rfl, hk, hbel⟩ := hrel
    by_cases hlt : k < len
    · rcases H1.out wr hbel with ⟨h0, _⟩ | ⟨g, off, rfl, hr⟩
      · omega
      rcases H2.out wr hbel with ⟨h0, _⟩ | ⟨g2, off2, rfl, hr2⟩
      · omega
      have c1 := hr.hname k hlt
      have c2 := hr.hvalue k hlt
      have c3 := hr2.hname k hlt
      have c4 := hr2.hvalue k hlt
      have hcap := hr.hcap
      have hcap2 := hr2.hcap
      have hk0 : (0 : Int) ≤ (k : Int) := by omega
      have hk1 : (k : Int) < (len : Int) := by omega
      generalize L.getD k fnone = f at *
      obtain ⟨n, v⟩ := f
      have HBE := hide hbel
      clear hr hr2 hbel
      go_wp2_with fail
      go_quiet (fail)
      go_wp2
      go_roundw
      case rel => exact ⟨k + 1, by go_num, by omega, drewN_below HBE.out _⟩
      case measure => simp [intOf]; omega
    · have hge : ¬ (k : Int) < (len : Int) := by omega
      go_wp2
      go_ret
      exact ⟨rfl, hbel⟩
end Go.Proofs.YtkjfhgoddhigmacDoor
