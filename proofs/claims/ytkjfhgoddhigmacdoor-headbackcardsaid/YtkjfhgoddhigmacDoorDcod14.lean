/-
  CONTRACT of the method Decode of head.Coder. No claim by itself.
-/
import Derived.Test.YtkjfhgoddhigmacDoorDcod13
namespace Go.Proofs.YtkjfhgoddhigmacDoor
open Go.RowKit
set_option maxRecDepth 100000
/-- A coder that reads no more. -/
theorem HCod.shut {w : World} {cb : Nat} {st : CSt} {S : Nat → Prop} (h : HCod w cb st S) (mi : Int) (AI : List (ByteArray × ByteArray)) : HCod (w.setCell ⟨cb, 3, none⟩ (.pointer none)) cb { st with mi := mi, AI := AI, bad := true } S := by
  obtain ⟨h1, h2, h3, h4, to, SO, vi, h5, h6, h7, _⟩ := h
  have hs : (w.setCell ⟨cb, 3, none⟩ (.pointer none)).heap.size = w.heap.size := by simp
  have hk : ∀ k, k ≠ cb → (w.setCell ⟨cb, 3, none⟩ (.pointer none)).heap[k]? = w.heap[k]? := fun k hk => Below.heap_setCell w ⟨cb, 3, none⟩ _ k hk
  have hA := hk 0 (fun e => h4 (e ▸ h2))
  refine ⟨h1.kept hA, h2, fun k hk' => by rw [hs]; exact h3 k hk', h4, to, SO, .pointer none, ?_, tabKeeps.frame h6 (by omega) (fun k hk' => hk k (h7 k hk').2) hA, h7, Or.inl ⟨rfl, rfl⟩⟩
  rw [heap_set h5]; rfl
theorem HCod.cell3 {w : World} {cb : Nat} {st : CSt} {S : Nat → Prop} (h : HCod w cb st S) : (∃ v, w.cell? ⟨cb, 3, none⟩ = some v) ∧ w.frozen? ⟨cb, 3, none⟩ = false := by
  obtain ⟨to, SO, vi, hh, _⟩ := h.cells
  exact ⟨⟨vi, (cell_at hh 3).trans rfl⟩, frozen_at hh 3⟩
/-- What Decode gives. -/
def DecTold (cb : Nat) (st : CSt) (R : List (ByteArray × ByteArray) × Int × Int × List (ByteArray × ByteArray)) (w : World) (e : Ending) (w' : World) (T : Nat → Prop) : Prop :=
  (st.bad = true ∧ e = .returned (.tuple #[.slice none 0 0, .iface 49 (.int .i64 6)]) ∧ HCod w' cb st T) ∨
  (st.bad = false ∧ R.2.1 = 0 ∧ ∃ v, e = .returned (.tuple #[v, .nilIface]) ∧ w'.ownsRow w.heap.size 33 2 v R.1.length (fcells R.1) ∧ (∀ k, v.ownBlock = some k → ¬ T k) ∧ HCod w' cb { st with mi := R.2.2.1, AI := R.2.2.2 } T ∧ Fit R.2.2.1 R.2.2.2) ∨
  (st.bad = false ∧ R.2.1 ≠ 0 ∧ e = .returned (.tuple #[.slice none 0 0, .iface 49 (.int .i64 R.2.1)]) ∧ HCod w' cb { st with bad := true } T)
set_option maxHeartbeats 4000000 in
theorem hdecode_any (cb : Nat) (st : CSt) (S : Nat → Prop) (a : Option Addr) (len cap : Nat) (Z : List Int) (w : World) (hC : HCod w cb st S) (hF : HFit st) (hA : ArgS S w a len cap Z) (hZ : Z.length = len) (hlm : len ≤ 140737488351232) :
    Calls Tryd.prog 7 #[.pointer (some ⟨cb, 0, none⟩), .slice a len cap] w fun e w' => ∃ T, DecTold cb st (dcF st.most (len + 1) st.mi st.AI [] Z) w e w' T ∧ Off S w w' ∧ ∀ k, T k → S k ∨ w.heap.size ≤ k := by
  have HC := hide hC
  rcases Bool.eq_false_or_eq_true st.bad with hb | hb
  · obtain ⟨to, SO, vi, hh, _, _, ⟨_, rfl⟩ | ⟨h, _⟩⟩ := hC.cells
    · have c3 : w.cell? ⟨cb, 3, none⟩ = some (.pointer none) := (cell_at hh 3).trans rfl
      have HB := hide hb
      clear hb hC hF hA hh
      go_enter Tryd.func7, Tryd.ntmps7
      go_wp2
      go_ret2
      exact ⟨S, Or.inl ⟨HB.out, rfl, HC.out⟩, Off.of_below (Below.refl _ _), fun k hk => Or.inl hk⟩
    · rw [hb] at h; cases h
  · have hl := hlist_any cb st S a len cap Z w hC hF hb hA hZ hlm
    obtain ⟨ti, SI, c3, _, _⟩ := hC.inn hb
    have HB := hide hb
    generalize dcF st.most (len + 1) st.mi st.AI [] Z = R at *
    clear hb hC hF hA
    go_enter Tryd.func7, Tryd.ntmps7
    go_wp2_with fail
    refine hl.mono ?_
    rintro e w1 ⟨T, hT, ho, hS⟩
    have HO := hide ho
    have HS := hide hS
    have HT := hide hT
    clear hl hT ho hS
    rcases HT.out with ⟨r0, v, rfl, r1, r2, r3, r4⟩ | ⟨r0, rfl, mi, AI, r1⟩
    · have Q := hide (And.intro r0 (And.intro r1 (And.intro r2 (And.intro r3 r4))))
      clear HT r0 r1 r2 r3 r4
      go_wp2
      go_ret2
      obtain ⟨r0, r1, r2, r3, r4⟩ := Q.out
      exact ⟨T, Or.inr (Or.inl ⟨HB.out, r0, v, rfl, r1, r2, r3, r4⟩), HO.out, HS.out⟩
    · obtain ⟨⟨v3, k3⟩, f3⟩ := r1.cell3
      have R1 := hide r1
      have R0 := hide r0
      clear HT r0 r1
      go_wp2
      go_ret2
      exact ⟨T, Or.inr (Or.inr ⟨HB.out, R0.out, rfl, R1.out.shut st.mi st.AI⟩), HO.out.trans2 ((Off.of_below (S := T) (Below.refl _ w1)).setCell cb 3 R1.out.hcb _) HS.out, HS.out⟩
end Go.Proofs.YtkjfhgoddhigmacDoor
