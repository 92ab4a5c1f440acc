/-
  WHERETO: tollsame.Routes at like rows. No claim by itself.
-/
import Derived.Test.YtmjdfbbhlbecdaaDoorWh2
import Derived.BigQuiet
import Derived.Deep.QuietTactic
namespace Go.Proofs.YtmjdfbbhlbecdaaDoor
open Go Go.RowKit
set_option maxRecDepth 100000
theorem run_neqR (a b c d e f : ByteArray) (w : World) : (binOp .neq 33 (.agg #[.string a, .string b, .string c]) (.agg #[.string d, .string e, .string f])).run Tryd.prog w = .ok (.bool (!(a.toList == d.toList && (b.toList == e.toList && c.toList == f.toList)))) w := by
  have hu : Tryd.prog.underlying 33 = some (.struct (Tryd.prog.fieldsOf 33)) := by kernel_rfl
  have h9 := Tryd.underlying9
  rw [run_neq_struct, run_equalIn_agg w 9999 33 _ _ hu stoodR]
  simp [Program.fieldsOf, Tryd.underlying33, Op.eqFields, go_sem, h9]
  by_cases h1 : a.toList = d.toList <;> by_cases h2 : b.toList = e.toList <;> by_cases h3 : c.toList = f.toList <;> simp [h1, h2, h3]
set_option maxHeartbeats 2000000 in
theorem ssame_row (g off cap g2 off2 cap2 len : Nat) (L : List Rb) (w : World) (h1 : RtRow w g off len cap L) (h2 : RtRow w g2 off2 len cap2 L) :
    Calls Tryd.prog 17 #[.slice (some ⟨g, off, none⟩) len cap, .slice (some ⟨g2, off2, none⟩) len cap2] w fun e w' => e = .returned (.bool true) ∧ Below w.heap.size w w' := by
  have H1 := vl h1
  have H2 := vl h2
  have hcap := h1.hcap
  have hmax := h1.hmax
  have hcap2 := h2.hcap
  have hmax2 := h2.hmax
  unfold maxLen at hmax hmax2
  clear h1 h2
  go_enter Tryd.func17, Tryd.ntmps17
  go_wp2_with fail
  go_loopw [5] (fun i wr => ∃ k : Nat, i = .int .i64 k ∧ k ≤ len ∧ Vl (Below w.heap.size w wr)) (fun i _ => len - (intOf i).toNat)
  case atStart => exact ⟨0, rfl, by omega, Below.refl _ _⟩
  case round =>
    obtain ⟨k, rfl, hk, HB⟩ := hrel
    by_cases hlt : k < len
    · have hlt' : (k : Int) < (len : Int) := by omega
      have r1 := H1.out.below HB.out
      have r2 := H2.out.below HB.out
      have c0 := r1.h0 k hlt
      have c1 := r1.h1 k hlt
      have c2 := r1.h2 k hlt
      have d0 := r2.h0 k hlt
      have d1 := r2.h1 k hlt
      have d2 := r2.h2 k hlt
      generalize L.getD k rbn = f at *
      obtain ⟨x, y, z⟩ := f
      have hq : ∀ W, (binOp .neq 33 (.agg #[.string x, .string y, .string z]) (.agg #[.string x, .string y, .string z])).run Tryd.prog W = .ok (.bool false) W := fun W => by rw [run_neqR]; simp
      have HD : Vl (∀ n, Below w.heap.size w (wr.drewN n)) := fun n => drewN_below HB.out n
      clear r1 r2
      go_wp2_with fail
      go_quiet (fail)
      go_wp2_with fail
      go_roundw
      case rel => exact ⟨k + 1, by go_num, by omega, HD.out _⟩
      case measure => simp [intOf]; omega
    · have hlt' : ¬ (k : Int) < (len : Int) := by omega
      go_wp2_with fail
      go_ret
      exact ⟨rfl, HB.out⟩
theorem ssame_any (a b : Option Addr) (len cap cap2 : Nat) (L : List Rb) (w : World) (h1 : RtArg w a len cap L) (h2 : RtArg w b len cap2 L) :
    Calls Tryd.prog 17 #[.slice a len cap, .slice b len cap2] w fun e w' => e = .returned (.bool true) ∧ Below w.heap.size w w' := by
  rcases h1 with ⟨rfl, rfl⟩ | ⟨g, off, rfl, r1⟩
  · go_enter Tryd.func17, Tryd.ntmps17
    go_wp2_with fail
    go_loopw [5] (fun i wr => i = .int .i64 0 ∧ wr = w) (fun _ _ => 0)
    case atStart => exact ⟨rfl, rfl⟩
    case round =>
      obtain ⟨rfl, rfl⟩ := hrel
      go_wp2_with fail
      go_ret
      exact ⟨rfl, Below.refl _ _⟩
  · rcases h2 with ⟨rfl, rfl⟩ | ⟨g2, off2, rfl, r2⟩
    · go_enter Tryd.func17, Tryd.ntmps17
      go_wp2_with fail
      go_loopw [5] (fun i wr => i = .int .i64 0 ∧ wr = w) (fun _ _ => 0)
      case atStart => exact ⟨rfl, rfl⟩
      case round =>
        obtain ⟨rfl, rfl⟩ := hrel
        go_wp2_with fail
        go_ret
        exact ⟨rfl, Below.refl _ _⟩
    · exact ssame_row g off cap g2 off2 cap2 len L w r1 r2
end Go.Proofs.YtmjdfbbhlbecdaaDoor
