/-
  CONTRACTS of the methods tellSizes and tellField of head.Coder. No claim by itself.
-/
import Derived.Test.YtkjfhgoddhigmacDoorDcod4
namespace Go.Proofs.YtkjfhgoddhigmacDoor
open Go.RowKit
set_option maxRecDepth 100000
theorem HCod.noSz {w : World} {cb : Nat} {st : CSt} {S : Nat → Prop} (h : HCod w cb st S) (e : st.sz = []) : HCod w cb { st with sz := [] } S := by
  obtain ⟨mo, mi, most, AO, AI, sz, bad⟩ := st
  simp only at e
  subst e
  exact h
theorem putOk_sz (n : Int) (h0 : 0 ≤ n) (h1 : n ≤ 4096) : putOk n 5 32 := ⟨h0, by omega, by decide, by decide, by decide, by decide, by decide⟩
theorem put_bytes (n b f : Int) (h : putOk n b f) : ∀ x ∈ putL n b f, 0 ≤ x ∧ x < 256 := by
  obtain ⟨h0, _, h1, h2, h3, h4, h5⟩ := h
  exact putL_byte n b f h0 h1 h2 h3 h4 h5
set_option maxHeartbeats 4000000 in
theorem htells_any (cb : Nat) (st : CSt) (S : Nat → Prop) (w : World) (hC : HCod w cb st S) (hF : HFit st) :
    Calls Tryd.prog 15 #[.pointer (some ⟨cb, 0, none⟩)] w fun e w' => (∃ v, e = .returned v ∧ w'.ownsRow w.heap.size 5 1 v (szL st.sz).length ((szL st.sz).map (Value.int .u8))) ∧ Off S w w' ∧ HCod w' cb { st with sz := [] } S := by
  obtain ⟨i0, hi, hz0, hz1, hz2⟩ := info_parts info5
  obtain ⟨to, SO, vi, hh, hT, hS, hin⟩ := hC.cells
  have c1 : w.cell? ⟨cb, 1, none⟩ = some (.int .i64 (leastOf st.sz)) := (cell_at hh 1).trans rfl
  have c2 : w.cell? ⟨cb, 2, none⟩ = some (.pointer (some ⟨to, 0, none⟩)) := (cell_at hh 2).trans rfl
  have hcl := hC.hlt cb hC.hcb
  have HC := hide hC
  by_cases hsz : st.sz = []
  · have hneg := (leastOf_neg st.sz hF.hsz).2 hsz
    rw [hneg] at c1
    have E := hide hsz
    clear hsz hneg hC hin hT hS hh
    go_enter Tryd.func15, Tryd.ntmps15
    go_wp2
    go_ret
    refine ⟨⟨_, rfl, ?_⟩, Off.of_below (Below.refl _ _), HC.out.noSz E.out⟩
    rw [E.out]
    exact World.ownsRow_nil _ _ _ _
  · have hne : leastOf st.sz ≠ -1 := fun h => hsz ((leastOf_neg st.sz hF.hsz).1 h)
    have hlb := leastOf_bd st.sz 4096 hsz hF.hsz
    have hlast := hF.hlast hsz
    have hmo0 := hF.out.h0
    have hmo1 := hF.out.h1
    have hE := szL_ne st.sz hsz
    rw [← hlast] at hE
    have HE := hide hE
    have HT := hide hT
    have HH := hide hh
    have HF := hide hF
    have ok1 := putOk_sz _ hlb.1 hlb.2
    have ok2 := putOk_sz _ hmo0 hmo1
    have hp1 := hput_any _ 5 32 w ok1
    have l1 := putL_len (leastOf st.sz) 5 32
    have l2 := putL_len st.mo 5 32
    have hby2 := put_bytes _ _ _ ok2
    have hb1 : (leastOf st.sz == -1) = false := by simpa using hne
    generalize leastOf st.sz = l at *
    clear hC hin hT hS hh hE hlast hsz hF
    go_enter Tryd.func15, Tryd.ntmps15
    go_wp2_with fail
    refine hp1.mono ?_
    rintro e w1 ⟨g1, cap1, rfl, hown1, hbe1⟩
    have s1 := hbe1.size
    have c21 : w1.cell? ⟨cb, 2, none⟩ = some (.pointer (some ⟨to, 0, none⟩)) := (hbe1.cell (p := ⟨cb, 2, none⟩) hcl).trans c2
    have hmx := tmax to st.mo st.AO SO w1 (tabKeeps.below HT.out hbe1) HF.out.out
    have HO1 := hide hown1
    clear hown1 hp1
    go_wp2_with fail
    refine hmx.mono ?_
    rintro e w2 ⟨rfl, hbe2⟩
    have s2 := hbe2.size
    have hB2 := hbe1.trans (hbe2.mono s1)
    have c12 : w2.cell? ⟨cb, 1, none⟩ = some (.int .i64 l) := (hB2.cell (p := ⟨cb, 1, none⟩) hcl).trans c1
    have HO2 := hide (own_below HO1.out hbe2)
    clear hmx HO1
    have fin : ∀ (v : Value) (wx : World) (X : List Int), szL st.sz = X → wx.ownsRow w.heap.size 5 1 v X.length (X.map (Value.int .u8)) → Below w.heap.size w wx →
        (wx.setCell ⟨cb, 1, none⟩ (.int .i64 (-1))).ownsRow w.heap.size 5 1 v (szL st.sz).length ((szL st.sz).map (Value.int .u8)) ∧ Off S w (wx.setCell ⟨cb, 1, none⟩ (.int .i64 (-1))) ∧ HCod (wx.setCell ⟨cb, 1, none⟩ (.int .i64 (-1))) cb { st with sz := [] } S := fun v wx X hX ho hb => by
      rw [hX]
      refine ⟨own_kept ho (fun k hk => Below.heap_setCell wx ⟨cb, 1, none⟩ _ k (fun e => ?_)), (Off.of_below hb).setCell cb 1 HC.out.hcb _, (HC.out.below hb).least []⟩
      have h1 := (ho.lt k hk).1
      have h2 : k = cb := e
      omega
    have FIN := hide fin
    clear fin
    by_cases hlt : l < st.mo
    · have hd : decide (l < st.mo) = true := by simpa using hlt
      have hX : Hid (szL st.sz = putL l 5 32 ++ putL st.mo 5 32) := by
        show szL st.sz = _
        rw [HE.out, if_pos hlt]
      have hp2 := hput_any st.mo 5 32 w2 ok2
      go_wp2_with fail
      refine hp2.mono ?_
      rintro e w3 ⟨g3, cap3, rfl, hown3, hbe3⟩
      have s3 := hbe3.size
      have hB3 := hB2.trans (hbe3.mono (by omega))
      have HO3 := hide (own_below HO2.out hbe3)
      have HR3 := hide (row_of rfl hown3 hby2)
      clear hown3 hp2 hby2
      generalize putL l 5 32 = P at *
      generalize putL st.mo 5 32 = Q at *
      go_wp2_with (at_builtin; refine wpList_append_own _ rfl _ _ 29 rfl w.heap.size 5 i0 _ 1 1 Tryd.underlying29 hi hz0 hz1 hz2 rfl (by decide) _ _ _ rfl HO3.out ⟨g3, 0, none⟩ Q.length cap3 (Q.map (Value.int .u8)) rfl (by simp) (row_news HR3.out) (one_bytes Q) ?c3 ?c4 ?c5 ?_)
      case c3 => unfold maxLen; omega
      case c4 => omega
      case c5 => omega
      intro v' w4 hown' hgrow _
      have hb4 : Below w.heap.size w w4 := hB3.grown hgrow (by omega) (fun k hk => (HO3.out.lt k hk).1)
      have c14 : w4.cell? ⟨cb, 1, none⟩ = some (.int .i64 l) := (hb4.cell (p := ⟨cb, 1, none⟩) hcl).trans c1
      have h4 : w4.heap[cb]? = some _ := (hb4.block cb hcl).trans HH.out
      have f14 : w4.frozen? ⟨cb, 1, none⟩ = false := frozen_at h4 1
      have HO4 : Hid (w4.ownsRow w.heap.size 5 1 v' (P ++ Q).length ((P ++ Q).map (Value.int .u8))) := by
        show w4.ownsRow _ _ _ _ _ _
        rw [List.length_append, List.map_append]; exact hown'
      have HB4 := hide hb4
      clear hown' hgrow h4 hb4
      go_wp2
      go_ret
      obtain ⟨q1, q2, q3⟩ := FIN.out v' w4 (P ++ Q) hX.out HO4.out HB4.out
      exact ⟨⟨v', rfl, q1⟩, q2, q3⟩
    · have hd : decide (l < st.mo) = false := by simpa using hlt
      have hX : Hid (szL st.sz = putL l 5 32) := by
        show szL st.sz = _
        rw [HE.out, if_neg hlt, List.append_nil]
      have h2 : w2.heap[cb]? = some _ := (hB2.block cb hcl).trans HH.out
      have f12 : w2.frozen? ⟨cb, 1, none⟩ = false := frozen_at h2 1
      have HB2 := hide hB2
      clear h2
      generalize putL l 5 32 = P at *
      go_wp2
      go_ret
      obtain ⟨q1, q2, q3⟩ := FIN.out _ w2 P hX.out HO2.out HB2.out
      exact ⟨⟨_, rfl, q1⟩, q2, q3⟩
end Go.Proofs.YtkjfhgoddhigmacDoor
