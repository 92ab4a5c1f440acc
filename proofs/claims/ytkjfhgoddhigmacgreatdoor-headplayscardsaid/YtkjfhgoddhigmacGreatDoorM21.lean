/-
  CONTRACTS of the methods tellSizes and tellField of head.Coder. No claim by itself.
-/
import Derived.Test.YtkjfhgoddhigmacGreatDoorM20
namespace Go.Proofs.YtkjfhgoddhigmacGreatDoor
open Go.RowKit
set_option maxRecDepth 100000
theorem HCod.noSz {w : World} {cb : Nat} {st : CSt} {S : Nat → Prop} (h : HCod w cb st S) (e : st.sz = []) : HCod w cb { st with sz := [] } S := by
  obtain ⟨mo, mi, most, AO, AI, sz, bad⟩ := st
  simp only at e
  subst e
  exact h
theorem putOk_sz (n : Int) (h0 : 0 ≤ n) (h1 : n ≤ 4096) : putOk n 5 32 := ⟨h0, by omega, by decide, by decide, by decide, by decide, by decide⟩
theorem put_bytes (n b f : Int) (h : putOk n b f) : ∀ x ∈ putL n b f, 0 ≤ x ∧ x < 256 := by
  obtain ⟨h0, _, h1, h2, h3, h4, h5⟩ := h
  exact putL_byte n b f h0 h1 h2 h3 h4 h5
set_option maxHeartbeats 4000000 in
theorem htells_any (cb : Nat) (st : CSt) (S : Nat → Prop) (w : World) (hC : HCod w cb st S) (hF : HFit st) :
    Calls Tryz.prog 27 #[.pointer (some ⟨cb, 0, none⟩)] w fun e w' => (∃ v, e = .returned v ∧ w'.ownsRow w.heap.size 5 1 v (szL st.sz).length ((szL st.sz).map (Value.int .u8))) ∧ Off S w w' ∧ HCod w' cb { st with sz := [] } S := by
  obtain ⟨i0, hi, hz0, hz1, hz2⟩ := info_parts info5
  obtain ⟨to, SO, vi, hh, hT, hS, hin⟩ := hC.cells
  have c1 : w.cell? ⟨cb, 1, none⟩ = some (.int .i64 (leastOf st.sz)) := (cell_at hh 1).trans rfl
  have c2 : w.cell? ⟨cb, 2, none⟩ = some (.pointer (some ⟨to, 0, none⟩)) := (cell_at hh 2).trans rfl
  have hcl := hC.hlt cb hC.hcb
  have HC := hide hC
  by_cases hsz : st.sz = []
  · have hneg := (leastOf_neg st.sz hF.hsz).2 hsz
    rw [hneg] at c1
    have E := hide hsz
    clear hsz hneg hC hin hT hS hh
    go_enter Tryz.func27, Tryz.ntmps27
    go_wp2
    go_ret
    refine ⟨⟨_, rfl, ?_⟩, Off.of_below (Below.refl _ _), HC.out.noSz E.out⟩
    rw [E.out]
    exact World.ownsRow_nil _ _ _ _
  · have hne : leastOf st.sz ≠ -1 := fun h => hsz ((leastOf_neg st.sz hF.hsz).1 h)
    have hlb := leastOf_bd st.sz 4096 hsz hF.hsz
    have hlast := hF.hlast hsz
    have hmo0 := hF.out.h0
    have hmo1 := hF.out.h1
    have hE := szL_ne st.sz hsz
    rw [← hlast] at hE
    have HE := hide hE
    have HT := hide hT
    have HH := hide hh
    have HF := hide hF
    have ok1 := putOk_sz _ hlb.1 hlb.2
    have ok2 := putOk_sz _ hmo0 hmo1
    have hp1 := hput_any _ 5 32 w ok1
    have l1 := putL_len (leastOf st.sz) 5 32
    have l2 := putL_len st.mo 5 32
    have hby2 := put_bytes _ _ _ ok2
    have hb1 : (leastOf st.sz == -1) = false := by simpa using hne
    generalize leastOf st.sz = l at *
    clear hC hin hT hS hh hE hlast hsz hF
    go_enter Tryz.func27, Tryz.ntmps27
    go_wp2_with fail
    refine hp1.mono ?_
    rintro e w1 ⟨g1, cap1, rfl, hown1, hbe1⟩
    have s1 := hbe1.size
    have c21 : w1.cell? ⟨cb, 2, none⟩ = some (.pointer (some ⟨to, 0, none⟩)) := (hbe1.cell (p := ⟨cb, 2, none⟩) hcl).trans c2
    have hmx := tmax to st.mo st.AO SO w1 (tabKeeps.below HT.out hbe1) HF.out.out
    have HO1 := hide hown1
    clear hown1 hp1
    go_wp2_with fail
    refine hmx.mono ?_
    rintro e w2 ⟨rfl, hbe2⟩
    have s2 := hbe2.size
    have hB2 := hbe1.trans (hbe2.mono s1)
    have c12 : w2.cell? ⟨cb, 1, none⟩ = some (.int .i64 l) := (hB2.cell (p := ⟨cb, 1, none⟩) hcl).trans c1
    have HO2 := hide (own_below HO1.out hbe2)
    clear hmx HO1
    have fin : ∀ (v : Value) (wx : World) (X : List Int), szL st.sz = X → wx.ownsRow w.heap.size 5 1 v X.length (X.map (Value.int .u8)) → Below w.heap.size w wx →
        (wx.setCell ⟨cb, 1, none⟩ (.int .i64 (-1))).ownsRow w.heap.size 5 1 v (szL st.sz).length ((szL st.sz).map (Value.int .u8)) ∧ Off S w (wx.setCell ⟨cb, 1, none⟩ (.int .i64 (-1))) ∧ HCod (wx.setCell ⟨cb, 1, none⟩ (.int .i64 (-1))) cb { st with sz := [] } S := fun v wx X hX ho hb => by
      rw [hX]
      refine ⟨own_kept ho (fun k hk => Below.heap_setCell wx ⟨cb, 1, none⟩ _ k (fun e => ?_)), (Off.of_below hb).setCell cb 1 HC.out.hcb _, (HC.out.below hb).least []⟩
      have h1 := (ho.lt k hk).1
      have h2 : k = cb := e
      omega
    have FIN := hide fin
    clear fin
    by_cases hlt : l < st.mo
    · have hd : decide (l < st.mo) = true := by simpa using hlt
      have hX : Hid (szL st.sz = putL l 5 32 ++ putL st.mo 5 32) := by
        show szL st.sz = _
        rw [HE.out, if_pos hlt]
      have hp2 := hput_any st.mo 5 32 w2 ok2
      go_wp2_with fail
      refine hp2.mono ?_
      rintro e w3 ⟨g3, cap3, rfl, hown3, hbe3⟩
      have s3 := hbe3.size
      have hB3 := hB2.trans (hbe3.mono (by omega))
      have HO3 := hide (own_below HO2.out hbe3)
      have HR3 := hide (row_of rfl hown3 hby2)
      clear hown3 hp2 hby2
      generalize putL l 5 32 = P at *
      generalize putL st.mo 5 32 = Q at *
      go_wp2_with (at_builtin; refine wpList_append_own _ rfl _ _ 35 rfl w.heap.size 5 i0 _ 1 1 Tryz.underlying35 hi hz0 hz1 hz2 rfl (by decide) _ _ _ rfl HO3.out ⟨g3, 0, none⟩ Q.length cap3 (Q.map (Value.int .u8)) rfl (by simp) (row_news HR3.out) (one_bytes Q) ?c3 ?c4 ?c5 ?_)
      case c3 => unfold maxLen; omega
      case c4 => omega
      case c5 => omega
      intro v' w4 hown' hgrow _
      have hb4 : Below w.heap.size w w4 := hB3.grown hgrow (by omega) (fun k hk => (HO3.out.lt k hk).1)
      have c14 : w4.cell? ⟨cb, 1, none⟩ = some (.int .i64 l) := (hb4.cell (p := ⟨cb, 1, none⟩) hcl).trans c1
      have h4 : w4.heap[cb]? = some _ := (hb4.block cb hcl).trans HH.out
      have f14 : w4.frozen? ⟨cb, 1, none⟩ = false := frozen_at h4 1
      have HO4 : Hid (w4.ownsRow w.heap.size 5 1 v' (P ++ Q).length ((P ++ Q).map (Value.int .u8))) := by
        show w4.ownsRow _ _ _ _ _ _
        rw [List.length_append, List.map_append]; exact hown'
      have HB4 := hide hb4
      clear hown' hgrow h4 hb4
      go_wp2
      go_ret
      obtain ⟨q1, q2, q3⟩ := FIN.out v' w4 (P ++ Q) hX.out HO4.out HB4.out
      exact ⟨⟨v', rfl, q1⟩, q2, q3⟩
    · have hd : decide (l < st.mo) = false := by simpa using hlt
      have hX : Hid (szL st.sz = putL l 5 32) := by
        show szL st.sz = _
        rw [HE.out, if_neg hlt, List.append_nil]
      have h2 : w2.heap[cb]? = some _ := (hB2.block cb hcl).trans HH.out
      have f12 : w2.frozen? ⟨cb, 1, none⟩ = false := frozen_at h2 1
      have HB2 := hide hB2
      clear h2
      generalize putL l 5 32 = P at *
      go_wp2
      go_ret
      obtain ⟨q1, q2, q3⟩ := FIN.out _ w2 P hX.out HO2.out HB2.out
      exact ⟨⟨_, rfl, q1⟩, q2, q3⟩
end Go.Proofs.YtkjfhgoddhigmacGreatDoor
/-
  CONTRACT of the method tellField of head.Coder. No claim by itself.
-/
namespace Go.Proofs.YtkjfhgoddhigmacGreatDoor
open Go.RowKit
set_option maxRecDepth 100000
theorem off_cell {S : Nat → Prop} {w w' : World} {g o : Nat} (h : Off S w w') (hg : g < w.heap.size) (hn : ¬ S g) : w'.cell? ⟨g, o, none⟩ = w.cell? ⟨g, o, none⟩ := World.cell?_of_block (w := w) (a := ⟨g, o, none⟩) (h.block g hg hn)
set_option maxHeartbeats 8000000 in
theorem htellf_any (cb : Nat) (st : CSt) (S : Nat → Prop) (n v : ByteArray) (w : World) (hC : HCod w cb st S) (hF : HFit st) (hs : small (n, v)) :
    Calls Tryz.prog 28 #[.pointer (some ⟨cb, 0, none⟩), .agg #[.string n, .string v]] w fun e w' => (∃ x, e = .returned x ∧ w'.ownsRow w.heap.size 5 1 x (enc1 st.mo st.AO (n, v)).1.length ((enc1 st.mo st.AO (n, v)).1.map (Value.int .u8))) ∧ Off S w w' ∧
      ∃ S', (∀ k, S' k → S k ∨ w.heap.size ≤ k) ∧ HCod w' cb { st with AO := (enc1 st.mo st.AO (n, v)).2 } S' := by
  obtain ⟨i0, hi, hz0, hz1, hz2⟩ := info_parts info5
  obtain ⟨w0, hw0⟩ : ∃ w0, w0 = w.alloc (.cells #[.string n, .string v] 60) := ⟨_, rfl⟩
  have hb0 : Below w.heap.size w w0 := by rw [hw0]; exact (Below.refl _ _).alloc (Nat.le_refl _) _
  have hsz0 : w.heap.size + 1 ≤ w0.heap.size := by rw [hw0]; simp
  have hbx : w0.heap[w.heap.size]? = some (.cells #[.string n, .string v] 60 (0, 0)) := by rw [hw0]; exact Array.getElem?_push_size
  have x0 : w0.cell? ⟨w.heap.size, 0, none⟩ = some (.string n) := (cell_at hbx 0).trans rfl
  have x1 : w0.cell? ⟨w.heap.size, 1, none⟩ = some (.string v) := (cell_at hbx 1).trans rfl
  obtain ⟨to, SO, vi, hh, hT, hS, hin⟩ := hC.cells
  have hcl := hC.hlt cb hC.hcb
  have c2 : w.cell? ⟨cb, 2, none⟩ = some (.pointer (some ⟨to, 0, none⟩)) := (cell_at hh 2).trans rfl
  have c20 : w0.cell? ⟨cb, 2, none⟩ = some (.pointer (some ⟨to, 0, none⟩)) := (hb0.cell (p := ⟨cb, 2, none⟩) hcl).trans c2
  have hcells : ∀ {wx : World}, Below w.heap.size w wx → wx.heap[cb]? = some (.cells #[.int .i64 st.most, .int .i64 (leastOf st.sz), .pointer (some ⟨to, 0, none⟩), vi] 52 (0, 0)) := fun hb => (hb.block cb hcl).trans hh
  have hins : ∀ {wx : World}, Below w.heap.size w wx → (st.bad = true ∧ vi = .pointer none) ∨ (st.bad = false ∧ ∃ ti SI, vi = .pointer (some ⟨ti, 0, none⟩) ∧ TabP wx ti st.mi st.AI SI ∧ ∀ k, SI k → S k ∧ k ≠ cb ∧ ¬ SO k) := fun hb => by
    rcases hin with h | ⟨h, ti, SI, hv, ht, hd⟩
    · exact Or.inl h
    · exact Or.inr ⟨h, ti, SI, hv, tabKeeps.below ht hb, hd⟩
  have hxS : ¬ SO w.heap.size := fun h => by have := hC.hlt _ (hS _ h).1; omega
  have hcS : ¬ SO cb := fun h => (hS _ h).2 rfl
  have HC := hide hC
  have HT := hide hT
  have HS := hide hS
  have HF := hide hF
  have hfind := tfind to st.mo st.AO SO n v w0.drew (tabKeeps.below hT (hb0.trans (((Below.refl _ _).drew).mono hb0.size))) hF.out
  have hAl := hF.out.len
  have hLl : (alwaysL ++ st.AO).length = 12 + st.AO.length := by rw [List.length_append, always_len]
  have w1b := fnd_le (isF n v) (alwaysL ++ st.AO) 0
  have w2b := fnd_le (isN n) (alwaysL ++ st.AO) 0
  have HX0 : Hid (enc1 st.mo st.AO (n, v) = if 0 < fnd (isF n v) (alwaysL ++ st.AO) 0 then (putL (fnd (isF n v) (alwaysL ++ st.AO) 0 : Nat) 7 128, st.AO) else (putL (fnd (isN n) (alwaysL ++ st.AO) 0 : Nat) 6 64 ++ ((if fnd (isN n) (alwaysL ++ st.AO) 0 = 0 then txtL (nums n) else []) ++ txtL (nums v)), (addL st.AO (n, v) st.mo).2)) := rfl
  generalize enc1 st.mo st.AO (n, v) = EN at *
  generalize fnd (isF n v) (alwaysL ++ st.AO) 0 = wh at *
  generalize fnd (isN n) (alwaysL ++ st.AO) 0 = nm at *
  rw [hLl] at w1b w2b
  have hn4 : n.size ≤ 400 := hs.1
  have hv4 : v.size ≤ 400 := hs.2
  clear hC hT hS hin hh hF hs hLl
  go_enter Tryz.func28, Tryz.ntmps28
  go_wp2_with fail
  rw [← hw0]
  clear hw0
  go_region_held3 (fun w' => w'.cell? ⟨w.heap.size, 0, none⟩ = some (.string n) ∧ w'.cell? ⟨w.heap.size, 1, none⟩ = some (.string v) ∧ w'.cell? ⟨cb, 2, none⟩ = some (.pointer (some ⟨to, 0, none⟩)))
    (first | go_keep | (exact ⟨(hb1.cell (p := ⟨w.heap.size, 0, none⟩) (by simp; omega)).trans x0, (hb1.cell (p := ⟨w.heap.size, 1, none⟩) (by simp; omega)).trans x1, (hb1.cell (p := ⟨cb, 2, none⟩) (by simp; omega)).trans c20⟩))
    ((go_at_call 43; refine hfind.mono ?_; rintro e w1 ⟨rfl, hb1⟩))
  have HB10 : Hid (Below w0.heap.size w0 w1) := (Below.refl _ _).drew.trans hb1
  have HB1 := hide (hb0.trans (HB10.out.mono (by omega)))
  have hs1 := HB10.out.size
  clear hb1 hfind c20
  by_cases hw : 0 < wh
  · have hd : decide ((0 : Int) < (wh : Int)) = true := by simp; omega
    have HX : Hid (EN = (putL (wh : Int) 7 128, st.AO)) := by show EN = _; rw [HX0.out, if_pos hw]
    have hok : putOk (wh : Int) 7 128 := ⟨by omega, by omega, by decide, by decide, by decide, by decide, by decide⟩
    have hp := hput_any (wh : Int) 7 128 w1 hok
    clear HX0
    generalize putL (wh : Int) 7 128 = P at *
    go_wp2_with fail
    refine hp.mono ?_
    rintro e w2 ⟨g2, cap2, rfl, hown2, hb2⟩
    have HO2 := hide (own_mono (base' := w.heap.size) hown2 (by omega))
    have HB2 := hide (HB1.out.trans (hb2.mono (by omega)))
    clear hown2 hb2 hp
    go_wp2
    go_ret
    refine ⟨⟨_, rfl, ?_⟩, Off.of_below HB2.out, S, fun k hk => Or.inl hk, ?_⟩
    · rw [HX.out]; exact HO2.out
    · rw [HX.out]; exact HC.out.below HB2.out
  · have hd : decide ((0 : Int) < (wh : Int)) = false := by simp; omega
    have HX1 : Hid (EN = (putL (nm : Int) 6 64 ++ ((if nm = 0 then txtL (nums n) else []) ++ txtL (nums v)), (addL st.AO (n, v) st.mo).2)) := by show EN = _; rw [HX0.out, if_neg hw]
    have hok : putOk (nm : Int) 6 64 := ⟨by omega, by omega, by decide, by decide, by decide, by decide, by decide⟩
    have hp := hput_any (nm : Int) 6 64 w1 hok
    have hpl := putL_len (nm : Int) 6 64
    clear HX0
    generalize putL (nm : Int) 6 64 = P at *
    go_wp2_with fail
    refine hp.mono ?_
    rintro e w2 ⟨g2, cap2, rfl, hown2, hb2⟩
    have HO2 := hide (own_mono (base' := w0.heap.size) hown2 (by omega))
    have HB20 := hide (HB10.out.trans (hb2.mono (by omega)))
    have HB2 := hide (HB1.out.trans (hb2.mono (by omega)))
    have hs2 := hb2.size
    clear hown2 hb2 hp
    by_cases hnm : nm = 0
    · have HX : Hid (EN = (P ++ (txtL (nums n) ++ txtL (nums v)), (addL st.AO (n, v) st.mo).2)) := by show EN = _; rw [HX1.out, if_pos hnm]
      subst hnm
      have htn := htxt_any n w2 hn4
      have hln := txt_len (nums n) (by rw [nums_len]; exact hn4)
      have hbn := txt_byte (nums n) (nums_mem n)
      have y0 : w2.cell? ⟨w.heap.size, 0, none⟩ = some (.string n) := (HB20.out.cell (p := ⟨w.heap.size, 0, none⟩) (by simp; omega)).trans x0
      clear HX1
      generalize txtL (nums n) = TN at *
      go_wp2_with fail
      refine htn.mono ?_
      rintro e w3 ⟨g3, cap3, rfl, hown3, hb3⟩
      have HO3 := hide (own_below HO2.out hb3)
      have HR3 := hide (row_of rfl hown3 hbn)
      have HB3 := hide (HB2.out.trans (hb3.mono (by omega)))
      have HB30 := hide (HB20.out.trans (hb3.mono (by omega)))
      have hs3 := hb3.size
      clear htn hown3 hbn hb3 y0
      go_wp2_with (at_builtin; refine wpList_append_own _ rfl _ _ 35 rfl w0.heap.size 5 i0 _ 1 1 Tryz.underlying35 hi hz0 hz1 hz2 rfl (by decide) _ _ _ rfl HO3.out ⟨g3, 0, none⟩ TN.length cap3 (TN.map (Value.int .u8)) rfl (by simp) (row_news HR3.out) (one_bytes TN) ?c3 ?c4 ?c5 ?_)
      case c3 => unfold maxLen; omega
      case c4 => omega
      case c5 => omega
      intro v4 w4 hown4 hgrow4 _
      have HB40 := hide (HB30.out.grown hgrow4 (by omega) (fun k hk => (HO3.out.lt k hk).1))
      have HB4 := hide (hb0.trans (HB40.out.mono (by omega)))
      have hpl4 : (P ++ TN).length = P.length + TN.length := List.length_append
      have HO4 : Hid (w4.ownsRow w0.heap.size 5 1 v4 (P ++ TN).length ((P ++ TN).map (Value.int .u8))) := by
        show w4.ownsRow _ _ _ _ _ _
        rw [List.length_append, List.map_append]; exact hown4
      have hx4 : Hid (EN = ((P ++ TN) ++ txtL (nums v), (addL st.AO (n, v) st.mo).2)) := by show EN = _; rw [HX.out, List.append_assoc]
      obtain ⟨g4, cap4, rfl⟩ := shape_n HO4.out (by omega)
      clear hown4 hgrow4 HO3 HR3 HB3 HB30 HX hpl4
      have HX := hx4
      clear hx4
      have hpq : 1 ≤ (P ++ TN).length ∧ (P ++ TN).length ≤ 500 := by rw [List.length_append]; omega
      clear hpl hln
      generalize P ++ TN = PT at *
      obtain ⟨bv, hbv⟩ : ∃ bv : Value, bv = .slice (some ⟨g4, 0, none⟩) PT.length cap4 := ⟨_, rfl⟩
      rw [← hbv] at HO4 ⊢
      clear hbv
      have y0 : w4.cell? ⟨w.heap.size, 0, none⟩ = some (.string n) := (HB40.out.cell (p := ⟨w.heap.size, 0, none⟩) (by simp; omega)).trans x0
      have y1 : w4.cell? ⟨w.heap.size, 1, none⟩ = some (.string v) := (HB40.out.cell (p := ⟨w.heap.size, 1, none⟩) (by simp; omega)).trans x1
      have y2 : w4.cell? ⟨cb, 2, none⟩ = some (.pointer (some ⟨to, 0, none⟩)) := (HB4.out.cell (p := ⟨cb, 2, none⟩) hcl).trans c2
      have hBd : Below w.heap.size w w4.drew := HB4.out.trans (((Below.refl _ _).drew).mono HB4.out.size)
      have hadd := tadd to st.mo st.AO SO n v w4.drew (tabKeeps.below HT.out hBd) HF.out.out (by omega)
      have hsc := HB4.out.size
      have hsc0 := HB40.out.size
      have HBd := hide hBd
      clear hBd
      go_wp2_with fail
      go_region_held3 (fun w' => w'.cell? ⟨w.heap.size, 0, none⟩ = some (.string n) ∧ w'.cell? ⟨w.heap.size, 1, none⟩ = some (.string v) ∧ w'.cell? ⟨cb, 2, none⟩ = some (.pointer (some ⟨to, 0, none⟩)))
        (first | go_keep | (exact ⟨(off_cell hoff5 (by simp; omega) hxS).trans y0, (off_cell hoff5 (by simp; omega) hxS).trans y1, (off_cell hoff5 (by simp; omega) hcS).trans y2⟩))
        ((go_at_call 45; refine hadd.mono ?_; rintro e w5 ⟨rfl, hoff5, SO5, hT5, hS5⟩))
      have z1 : w5.cell? ⟨w.heap.size, 1, none⟩ = some (.string v) := (off_cell hoff5 (by simp; omega) hxS).trans y1
      have HC4 := HC.out.below HBd.out
      have HC5 := hide (HC4.turn (hcells HBd.out) HS.out (hins HBd.out) hoff5 st.mo _ hT5 hS5)
      have hs5 := hoff5.size
      have HO5 : Hid (w5.ownsRow w0.heap.size 5 1 bv PT.length _) := own_kept HO4.out (fun k hk => hoff5.block k (by have := (HO4.out.lt k hk).2; simpa using this) (fun hs => by have h1 := (HO4.out.lt k hk).1; have h2 := HC.out.hlt k (HS.out k hs).1; omega))
      have HF5 : Hid (Off S w w5) := (Off.of_below HBd.out).trans (hoff5.mono (fun k hk => (HS.out k hk).1))
      have HN5 : Hid (∀ k, bv.ownBlock = some k → ¬ (S k ∨ SO5 k) ∧ w.heap.size ≤ k) := fun k hk => by
        have h1 := (HO4.out.lt k hk).1
        have h2 := (HO4.out.lt k hk).2
        refine ⟨?_, by omega⟩
        rintro (h3 | h3)
        · have := HC.out.hlt k h3; omega
        · rcases hS5 k h3 with h4 | h4
          · have := HC.out.hlt k (HS.out k h4).1; omega
          · simp at h4; omega
      have HS5 : Hid (∀ k, S k ∨ SO5 k → S k ∨ w.heap.size ≤ k) := fun k hk => by
        rcases hk with hk | hk
        · exact Or.inl hk
        · rcases hS5 k hk with h4 | h4
          · exact Or.inl (HS.out k h4).1
          · right; simp at h4; omega
      have hss5 : w.heap.size ≤ w5.heap.size ∧ w0.heap.size ≤ w5.heap.size := by simp at hs5; omega
      clear hadd hoff5 hT5 hS5 HC4 HO4 hs5 y0 y1 y2
      have htv := htxt_any v w5 hv4
      have hlv := txt_len (nums v) (by rw [nums_len]; exact hv4)
      have hbv := txt_byte (nums v) (nums_mem v)
      generalize txtL (nums v) = TV at *
      go_wp2_with fail
      refine htv.mono ?_
      rintro e w6 ⟨g6, cap6, rfl, hown6, hb6⟩
      have HO6 := hide (own_below HO5.out hb6)
      have HR6 := hide (row_of rfl hown6 hbv)
      have HC6 := hide (HC5.out.below hb6)
      have HF6 := hide (HF5.out.trans (Off.of_below hb6))
      have hs6 := hb6.size
      clear htv hown6 hbv hb6 HO5 HC5 HF5
      go_wp2_with (at_builtin; refine wpList_append_own _ rfl _ _ 35 rfl w0.heap.size 5 i0 _ 1 1 Tryz.underlying35 hi hz0 hz1 hz2 rfl (by decide) _ _ _ rfl HO6.out ⟨g6, 0, none⟩ TV.length cap6 (TV.map (Value.int .u8)) rfl (by simp) (row_news HR6.out) (one_bytes TV) ?c3 ?c4 ?c5 ?_)
      case c3 => unfold maxLen; omega
      case c4 => omega
      case c5 => omega
      intro v7 w7 hown7 hgrow7 _
      have HO7 := hide (own_mono (base' := w.heap.size) hown7 (by omega))
      have HG7 := hide hgrow7
      clear hown7 hgrow7
      go_wp2
      go_ret
      have hal := HC.out.alw.pos
      refine ⟨⟨v7, rfl, ?_⟩, ?_, fun k => S k ∨ SO5 k, HS5.out, ?_⟩
      · rw [HX.out]
        simpa [List.map_append] using HO7.out
      · refine HF6.out.trans2 (off_grown HG7.out) (fun k hk => Or.inr (HN5.out k hk).2)
      · rw [HX.out]
        exact HC6.out.frame HG7.out.size (fun k hk => HG7.out.block k (HC6.out.hlt k hk) (fun e => (HN5.out k e.symm).1 hk)) (HG7.out.block _ (by omega) (fun e => by have := (HN5.out _ e.symm).2; omega))

    · have HX : Hid (EN = (P ++ txtL (nums v), (addL st.AO (n, v) st.mo).2)) := by show EN = _; rw [HX1.out, if_neg hnm, List.nil_append]
      have hdn : ((nm : Int) == 0) = false := by simpa using hnm
      clear HX1
      obtain ⟨bv, hbv⟩ : ∃ bv : Value, bv = .slice (some ⟨g2, 0, none⟩) P.length cap2 := ⟨_, rfl⟩
      rw [← hbv] at HO2 ⊢
      clear hbv
      have y0 : w2.cell? ⟨w.heap.size, 0, none⟩ = some (.string n) := (HB20.out.cell (p := ⟨w.heap.size, 0, none⟩) (by simp; omega)).trans x0
      have y1 : w2.cell? ⟨w.heap.size, 1, none⟩ = some (.string v) := (HB20.out.cell (p := ⟨w.heap.size, 1, none⟩) (by simp; omega)).trans x1
      have y2 : w2.cell? ⟨cb, 2, none⟩ = some (.pointer (some ⟨to, 0, none⟩)) := (HB2.out.cell (p := ⟨cb, 2, none⟩) hcl).trans c2
      have hBd : Below w.heap.size w w2.drew := HB2.out.trans (((Below.refl _ _).drew).mono HB2.out.size)
      have hadd := tadd to st.mo st.AO SO n v w2.drew (tabKeeps.below HT.out hBd) HF.out.out (by omega)
      have hsc := HB2.out.size
      have hsc0 := HB20.out.size
      have HBd := hide hBd
      clear hBd
      go_wp2_with fail
      go_region_held3 (fun w' => w'.cell? ⟨w.heap.size, 0, none⟩ = some (.string n) ∧ w'.cell? ⟨w.heap.size, 1, none⟩ = some (.string v) ∧ w'.cell? ⟨cb, 2, none⟩ = some (.pointer (some ⟨to, 0, none⟩)))
        (first | go_keep | (exact ⟨(off_cell hoff5 (by simp; omega) hxS).trans y0, (off_cell hoff5 (by simp; omega) hxS).trans y1, (off_cell hoff5 (by simp; omega) hcS).trans y2⟩))
        ((go_at_call 45; refine hadd.mono ?_; rintro e w5 ⟨rfl, hoff5, SO5, hT5, hS5⟩))
      have z1 : w5.cell? ⟨w.heap.size, 1, none⟩ = some (.string v) := (off_cell hoff5 (by simp; omega) hxS).trans y1
      have HC4 := HC.out.below HBd.out
      have HC5 := hide (HC4.turn (hcells HBd.out) HS.out (hins HBd.out) hoff5 st.mo _ hT5 hS5)
      have hs5 := hoff5.size
      have HO5 : Hid (w5.ownsRow w0.heap.size 5 1 bv P.length _) := own_kept HO2.out (fun k hk => hoff5.block k (by have := (HO2.out.lt k hk).2; simpa using this) (fun hs => by have h1 := (HO2.out.lt k hk).1; have h2 := HC.out.hlt k (HS.out k hs).1; omega))
      have HF5 : Hid (Off S w w5) := (Off.of_below HBd.out).trans (hoff5.mono (fun k hk => (HS.out k hk).1))
      have HN5 : Hid (∀ k, bv.ownBlock = some k → ¬ (S k ∨ SO5 k) ∧ w.heap.size ≤ k) := fun k hk => by
        have h1 := (HO2.out.lt k hk).1
        have h2 := (HO2.out.lt k hk).2
        refine ⟨?_, by omega⟩
        rintro (h3 | h3)
        · have := HC.out.hlt k h3; omega
        · rcases hS5 k h3 with h4 | h4
          · have := HC.out.hlt k (HS.out k h4).1; omega
          · simp at h4; omega
      have HS5 : Hid (∀ k, S k ∨ SO5 k → S k ∨ w.heap.size ≤ k) := fun k hk => by
        rcases hk with hk | hk
        · exact Or.inl hk
        · rcases hS5 k hk with h4 | h4
          · exact Or.inl (HS.out k h4).1
          · right; simp at h4; omega
      have hss5 : w.heap.size ≤ w5.heap.size ∧ w0.heap.size ≤ w5.heap.size := by simp at hs5; omega
      clear hadd hoff5 hT5 hS5 HC4 HO2 hs5 y0 y1 y2
      have htv := htxt_any v w5 hv4
      have hlv := txt_len (nums v) (by rw [nums_len]; exact hv4)
      have hbv := txt_byte (nums v) (nums_mem v)
      generalize txtL (nums v) = TV at *
      go_wp2_with fail
      refine htv.mono ?_
      rintro e w6 ⟨g6, cap6, rfl, hown6, hb6⟩
      have HO6 := hide (own_below HO5.out hb6)
      have HR6 := hide (row_of rfl hown6 hbv)
      have HC6 := hide (HC5.out.below hb6)
      have HF6 := hide (HF5.out.trans (Off.of_below hb6))
      have hs6 := hb6.size
      clear htv hown6 hbv hb6 HO5 HC5 HF5
      go_wp2_with (at_builtin; refine wpList_append_own _ rfl _ _ 35 rfl w0.heap.size 5 i0 _ 1 1 Tryz.underlying35 hi hz0 hz1 hz2 rfl (by decide) _ _ _ rfl HO6.out ⟨g6, 0, none⟩ TV.length cap6 (TV.map (Value.int .u8)) rfl (by simp) (row_news HR6.out) (one_bytes TV) ?c3 ?c4 ?c5 ?_)
      case c3 => unfold maxLen; omega
      case c4 => omega
      case c5 => omega
      intro v7 w7 hown7 hgrow7 _
      have HO7 := hide (own_mono (base' := w.heap.size) hown7 (by omega))
      have HG7 := hide hgrow7
      clear hown7 hgrow7
      go_wp2
      go_ret
      have hal := HC.out.alw.pos
      refine ⟨⟨v7, rfl, ?_⟩, ?_, fun k => S k ∨ SO5 k, HS5.out, ?_⟩
      · rw [HX.out]
        simpa [List.map_append] using HO7.out
      · refine HF6.out.trans2 (off_grown HG7.out) (fun k hk => Or.inr (HN5.out k hk).2)
      · rw [HX.out]
        exact HC6.out.frame HG7.out.size (fun k hk => HG7.out.block k (HC6.out.hlt k hk) (fun e => (HN5.out k e.symm).1 hk)) (HG7.out.block _ (by omega) (fun e => by have := (HN5.out _ e.symm).2; omega))
end Go.Proofs.YtkjfhgoddhigmacGreatDoor
