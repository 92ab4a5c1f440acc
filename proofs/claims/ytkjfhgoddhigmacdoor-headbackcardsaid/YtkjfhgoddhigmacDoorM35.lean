/-
  CONTRACT of the method Decode of head.Coder. No claim by itself.
-/
import Derived.Deep.QuietTactic
import Derived.BigQuiet
import Derived.Test.YtkjfhgoddhigmacDoorM34
import Derived.Test.YtkjfhgoddhigmacDoorM02
namespace Go.Proofs.YtkjfhgoddhigmacDoor
open Go.RowKit
set_option maxRecDepth 100000
/-- A coder that reads no more. -/
theorem HCod.shut {w : World} {cb : Nat} {st : CSt} {S : Nat → Prop} (h : HCod w cb st S) (mi : Int) (AI : List (ByteArray × ByteArray)) : HCod (w.setCell ⟨cb, 3, none⟩ (.pointer none)) cb { st with mi := mi, AI := AI, bad := true } S := by
  obtain ⟨h1, h2, h3, h4, to, SO, vi, h5, h6, h7, _⟩ := h
  have hs : (w.setCell ⟨cb, 3, none⟩ (.pointer none)).heap.size = w.heap.size := by simp
  have hk : ∀ k, k ≠ cb → (w.setCell ⟨cb, 3, none⟩ (.pointer none)).heap[k]? = w.heap[k]? := fun k hk => Below.heap_setCell w ⟨cb, 3, none⟩ _ k hk
  have hA := hk 0 (fun e => h4 (e ▸ h2))
  refine ⟨h1.kept hA, h2, fun k hk' => by rw [hs]; exact h3 k hk', h4, to, SO, .pointer none, ?_, tabKeeps.frame h6 (by omega) (fun k hk' => hk k (h7 k hk').2) hA, h7, Or.inl ⟨rfl, rfl⟩⟩
  rw [heap_set h5]; rfl
theorem HCod.cell3 {w : World} {cb : Nat} {st : CSt} {S : Nat → Prop} (h : HCod w cb st S) : (∃ v, w.cell? ⟨cb, 3, none⟩ = some v) ∧ w.frozen? ⟨cb, 3, none⟩ = false := by
  obtain ⟨to, SO, vi, hh, _⟩ := h.cells
  exact ⟨⟨vi, (cell_at hh 3).trans rfl⟩, frozen_at hh 3⟩
/-- What Decode gives. -/
def DecTold (cb : Nat) (st : CSt) (R : List (ByteArray × ByteArray) × Int × Int × List (ByteArray × ByteArray)) (w : World) (e : Ending) (w' : World) (T : Nat → Prop) : Prop :=
  (st.bad = true ∧ e = .returned (.tuple #[.slice none 0 0, .iface 49 (.int .i64 6)]) ∧ HCod w' cb st T) ∨
  (st.bad = false ∧ R.2.1 = 0 ∧ ∃ v, e = .returned (.tuple #[v, .nilIface]) ∧ w'.ownsRow w.heap.size 33 2 v R.1.length (fcells R.1) ∧ (∀ k, v.ownBlock = some k → ¬ T k) ∧ HCod w' cb { st with mi := R.2.2.1, AI := R.2.2.2 } T ∧ Fit R.2.2.1 R.2.2.2) ∨
  (st.bad = false ∧ R.2.1 ≠ 0 ∧ e = .returned (.tuple #[.slice none 0 0, .iface 49 (.int .i64 R.2.1)]) ∧ HCod w' cb { st with bad := true } T)
set_option maxHeartbeats 4000000 in
theorem hdecode_any (cb : Nat) (st : CSt) (S : Nat → Prop) (a : Option Addr) (len cap : Nat) (Z : List Int) (w : World) (hC : HCod w cb st S) (hF : HFit st) (hA : ArgS S w a len cap Z) (hZ : Z.length = len) (hlm : len ≤ 140737488351232) :
    Calls Tryd.prog 7 #[.pointer (some ⟨cb, 0, none⟩), .slice a len cap] w fun e w' => ∃ T, DecTold cb st (dcF st.most (len + 1) st.mi st.AI [] Z) w e w' T ∧ Off S w w' ∧ ∀ k, T k → S k ∨ w.heap.size ≤ k := by
  have HC := hide hC
  rcases Bool.eq_false_or_eq_true st.bad with hb | hb
  · obtain ⟨to, SO, vi, hh, _, _, ⟨_, rfl⟩ | ⟨h, _⟩⟩ := hC.cells
    · have c3 : w.cell? ⟨cb, 3, none⟩ = some (.pointer none) := (cell_at hh 3).trans rfl
      have HB := hide hb
      clear hb hC hF hA hh
      go_enter Tryd.func7, Tryd.ntmps7
      go_wp2
      go_ret2
      exact ⟨S, Or.inl ⟨HB.out, rfl, HC.out⟩, Off.of_below (Below.refl _ _), fun k hk => Or.inl hk⟩
    · rw [hb] at h; cases h
  · have hl := hlist_any cb st S a len cap Z w hC hF hb hA hZ hlm
    obtain ⟨ti, SI, c3, _, _⟩ := hC.inn hb
    have HB := hide hb
    generalize dcF st.most (len + 1) st.mi st.AI [] Z = R at *
    clear hb hC hF hA
    go_enter Tryd.func7, Tryd.ntmps7
    go_wp2_with fail
    refine hl.mono ?_
    rintro e w1 ⟨T, hT, ho, hS⟩
    have HO := hide ho
    have HS := hide hS
    have HT := hide hT
    clear hl hT ho hS
    rcases HT.out with ⟨r0, v, rfl, r1, r2, r3, r4⟩ | ⟨r0, rfl, mi, AI, r1⟩
    · have Q := hide (And.intro r0 (And.intro r1 (And.intro r2 (And.intro r3 r4))))
      clear HT r0 r1 r2 r3 r4
      go_wp2
      go_ret2
      obtain ⟨r0, r1, r2, r3, r4⟩ := Q.out
      exact ⟨T, Or.inr (Or.inl ⟨HB.out, r0, v, rfl, r1, r2, r3, r4⟩), HO.out, HS.out⟩
    · obtain ⟨⟨v3, k3⟩, f3⟩ := r1.cell3
      have R1 := hide r1
      have R0 := hide r0
      clear HT r0 r1
      go_wp2
      go_ret2
      exact ⟨T, Or.inr (Or.inr ⟨HB.out, R0.out, rfl, R1.out.shut st.mi st.AI⟩), HO.out.trans2 ((Off.of_below (S := T) (Below.refl _ w1)).setCell cb 3 R1.out.hcb _) HS.out, HS.out⟩
end Go.Proofs.YtkjfhgoddhigmacDoor
/-
  CONTRACT of the Go function tollsame.Fields, at lists that are the same. No claim by itself.
-/
namespace Go.Proofs.YtkjfhgoddhigmacDoor
open Go.RowKit
set_option maxRecDepth 100000
set_option maxHeartbeats 4000000 in
theorem sfields_any (a a2 : Option Addr) (len cap cap2 : Nat) (L : List (ByteArray × ByteArray)) (w : World) (h1 : FArg w a len cap L) (h2 : FArg w a2 len cap2 L) (hlm : len ≤ 4611686018427387904) :
    Calls Tryd.prog 9 #[.slice a len cap, .slice a2 len cap2] w fun e w' => e = .returned (.bool true) ∧ Below w.heap.size w w' := by
  have heq : ∀ (a b : ByteArray) (w : World), (binOp .neq 33 (.agg #[.string a, .string b]) (.agg #[.string a, .string b])).run Tryd.prog w = .ok (.bool false) w := fun a b w => by rw [run_neqF]; simp
  have hgd := eqGuardF
  have H1 : Hid (∀ wx, Below w.heap.size w wx → FArg wx a len cap L) := fun wx hb => h1.below hb
  have H2 : Hid (∀ wx, Below w.heap.size w wx → FArg wx a2 len cap2 L) := fun wx hb => h2.below hb
  clear h1 h2
  go_enter Tryd.func9, Tryd.ntmps9
  go_wp2_with fail
  go_loopw [5] (fun i wr => ∃ k : Nat, i = .int .i64 k ∧ k ≤ len ∧ Below w.heap.size w wr) (fun i _ => len - (intOf i).toNat)
  case atStart => exact ⟨0, rfl, by omega, Below.refl _ _⟩
  case round =>
    obtain ⟨k, rfl, hk, hbel⟩ := hrel
    by_cases hlt : k < len
    · rcases H1.out wr hbel with ⟨h0, _⟩ | ⟨g, off, rfl, hr⟩
      · omega
      rcases H2.out wr hbel with ⟨h0, _⟩ | ⟨g2, off2, rfl, hr2⟩
      · omega
      have c1 := hr.hname k hlt
      have c2 := hr.hvalue k hlt
      have c3 := hr2.hname k hlt
      have c4 := hr2.hvalue k hlt
      have hcap := hr.hcap
      have hcap2 := hr2.hcap
      have hk0 : (0 : Int) ≤ (k : Int) := by omega
      have hk1 : (k : Int) < (len : Int) := by omega
      generalize L.getD k fnone = f at *
      obtain ⟨n, v⟩ := f
      have HBE := hide hbel
      clear hr hr2 hbel
      go_wp2_with fail
      go_quiet (fail)
      go_wp2
      go_roundw
      case rel => exact ⟨k + 1, by go_num, by omega, drewN_below HBE.out _⟩
      case measure => simp [intOf]; omega
    · have hge : ¬ (k : Int) < (len : Int) := by omega
      go_wp2
      go_ret
      exact ⟨rfl, hbel⟩
end Go.Proofs.YtkjfhgoddhigmacDoor
