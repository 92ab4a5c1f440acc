/-
  CONTRACT of the method tellField of head.Coder. No claim by itself.
-/
import Derived.Maps.AppendAt
import Derived.Test.YtkjfhgoddhigmacDoorM30
namespace Go.Proofs.YtkjfhgoddhigmacDoor
open Go.RowKit
set_option maxRecDepth 100000
theorem off_cell {S : Nat → Prop} {w w' : World} {g o : Nat} (h : Off S w w') (hg : g < w.heap.size) (hn : ¬ S g) : w'.cell? ⟨g, o, none⟩ = w.cell? ⟨g, o, none⟩ := World.cell?_of_block (w := w) (a := ⟨g, o, none⟩) (h.block g hg hn)
set_option maxHeartbeats 8000000 in
theorem htellf_any (cb : Nat) (st : CSt) (S : Nat → Prop) (n v : ByteArray) (w : World) (hC : HCod w cb st S) (hF : HFit st) (hs : small (n, v)) :
    Calls Tryd.prog 16 #[.pointer (some ⟨cb, 0, none⟩), .agg #[.string n, .string v]] w fun e w' => (∃ x, e = .returned x ∧ w'.ownsRow w.heap.size 5 1 x (enc1 st.mo st.AO (n, v)).1.length ((enc1 st.mo st.AO (n, v)).1.map (Value.int .u8))) ∧ Off S w w' ∧
      ∃ S', (∀ k, S' k → S k ∨ w.heap.size ≤ k) ∧ HCod w' cb { st with AO := (enc1 st.mo st.AO (n, v)).2 } S' := by
  obtain ⟨i0, hi, hz0, hz1, hz2⟩ := info_parts info5
  obtain ⟨w0, hw0⟩ : ∃ w0, w0 = w.alloc (.cells #[.string n, .string v] 33) := ⟨_, rfl⟩
  have hb0 : Below w.heap.size w w0 := by rw [hw0]; exact (Below.refl _ _).alloc (Nat.le_refl _) _
  have hsz0 : w.heap.size + 1 ≤ w0.heap.size := by rw [hw0]; simp
  have hbx : w0.heap[w.heap.size]? = some (.cells #[.string n, .string v] 33 (0, 0)) := by rw [hw0]; exact Array.getElem?_push_size
  have x0 : w0.cell? ⟨w.heap.size, 0, none⟩ = some (.string n) := (cell_at hbx 0).trans rfl
  have x1 : w0.cell? ⟨w.heap.size, 1, none⟩ = some (.string v) := (cell_at hbx 1).trans rfl
  obtain ⟨to, SO, vi, hh, hT, hS, hin⟩ := hC.cells
  have hcl := hC.hlt cb hC.hcb
  have c2 : w.cell? ⟨cb, 2, none⟩ = some (.pointer (some ⟨to, 0, none⟩)) := (cell_at hh 2).trans rfl
  have c20 : w0.cell? ⟨cb, 2, none⟩ = some (.pointer (some ⟨to, 0, none⟩)) := (hb0.cell (p := ⟨cb, 2, none⟩) hcl).trans c2
  have hcells : ∀ {wx : World}, Below w.heap.size w wx → wx.heap[cb]? = some (.cells #[.int .i64 st.most, .int .i64 (leastOf st.sz), .pointer (some ⟨to, 0, none⟩), vi] 46 (0, 0)) := fun hb => (hb.block cb hcl).trans hh
  have hins : ∀ {wx : World}, Below w.heap.size w wx → (st.bad = true ∧ vi = .pointer none) ∨ (st.bad = false ∧ ∃ ti SI, vi = .pointer (some ⟨ti, 0, none⟩) ∧ TabP wx ti st.mi st.AI SI ∧ ∀ k, SI k → S k ∧ k ≠ cb ∧ ¬ SO k) := fun hb => by
    rcases hin with h | ⟨h, ti, SI, hv, ht, hd⟩
    · exact Or.inl h
    · exact Or.inr ⟨h, ti, SI, hv, tabKeeps.below ht hb, hd⟩
  have hxS : ¬ SO w.heap.size := fun h => by have := hC.hlt _ (hS _ h).1; omega
  have hcS : ¬ SO cb := fun h => (hS _ h).2 rfl
  have HC := hide hC
  have HT := hide hT
  have HS := hide hS
  have HF := hide hF
  have hfind := tfind to st.mo st.AO SO n v w0.drew (tabKeeps.below hT (hb0.trans (((Below.refl _ _).drew).mono hb0.size))) hF.out
  have hAl := hF.out.len
  have hLl : (alwaysL ++ st.AO).length = 12 + st.AO.length := by rw [List.length_append, always_len]
  have w1b := fnd_le (isF n v) (alwaysL ++ st.AO) 0
  have w2b := fnd_le (isN n) (alwaysL ++ st.AO) 0
  have HX0 : Hid (enc1 st.mo st.AO (n, v) = if 0 < fnd (isF n v) (alwaysL ++ st.AO) 0 then (putL (fnd (isF n v) (alwaysL ++ st.AO) 0 : Nat) 7 128, st.AO) else (putL (fnd (isN n) (alwaysL ++ st.AO) 0 : Nat) 6 64 ++ ((if fnd (isN n) (alwaysL ++ st.AO) 0 = 0 then txtL (nums n) else []) ++ txtL (nums v)), (addL st.AO (n, v) st.mo).2)) := rfl
  generalize enc1 st.mo st.AO (n, v) = EN at *
  generalize fnd (isF n v) (alwaysL ++ st.AO) 0 = wh at *
  generalize fnd (isN n) (alwaysL ++ st.AO) 0 = nm at *
  rw [hLl] at w1b w2b
  have hn4 : n.size ≤ 400 := hs.1
  have hv4 : v.size ≤ 400 := hs.2
  clear hC hT hS hin hh hF hs hLl
  go_enter Tryd.func16, Tryd.ntmps16
  go_wp2_with fail
  rw [← hw0]
  clear hw0
  go_region_held3 (fun w' => w'.cell? ⟨w.heap.size, 0, none⟩ = some (.string n) ∧ w'.cell? ⟨w.heap.size, 1, none⟩ = some (.string v) ∧ w'.cell? ⟨cb, 2, none⟩ = some (.pointer (some ⟨to, 0, none⟩)))
    (first | go_keep | (exact ⟨(hb1.cell (p := ⟨w.heap.size, 0, none⟩) (by simp; omega)).trans x0, (hb1.cell (p := ⟨w.heap.size, 1, none⟩) (by simp; omega)).trans x1, (hb1.cell (p := ⟨cb, 2, none⟩) (by simp; omega)).trans c20⟩))
    ((go_at_call 25; refine hfind.mono ?_; rintro e w1 ⟨rfl, hb1⟩))
  have HB10 : Hid (Below w0.heap.size w0 w1) := (Below.refl _ _).drew.trans hb1
  have HB1 := hide (hb0.trans (HB10.out.mono (by omega)))
  have hs1 := HB10.out.size
  clear hb1 hfind c20
  by_cases hw : 0 < wh
  · have hd : decide ((0 : Int) < (wh : Int)) = true := by simp; omega
    have HX : Hid (EN = (putL (wh : Int) 7 128, st.AO)) := by show EN = _; rw [HX0.out, if_pos hw]
    have hok : putOk (wh : Int) 7 128 := ⟨by omega, by omega, by decide, by decide, by decide, by decide, by decide⟩
    have hp := hput_any (wh : Int) 7 128 w1 hok
    clear HX0
    generalize putL (wh : Int) 7 128 = P at *
    go_wp2_with fail
    refine hp.mono ?_
    rintro e w2 ⟨g2, cap2, rfl, hown2, hb2⟩
    have HO2 := hide (own_mono (base' := w.heap.size) hown2 (by omega))
    have HB2 := hide (HB1.out.trans (hb2.mono (by omega)))
    clear hown2 hb2 hp
    go_wp2
    go_ret
    refine ⟨⟨_, rfl, ?_⟩, Off.of_below HB2.out, S, fun k hk => Or.inl hk, ?_⟩
    · rw [HX.out]; exact HO2.out
    · rw [HX.out]; exact HC.out.below HB2.out
  · have hd : decide ((0 : Int) < (wh : Int)) = false := by simp; omega
    have HX1 : Hid (EN = (putL (nm : Int) 6 64 ++ ((if nm = 0 then txtL (nums n) else []) ++ txtL (nums v)), (addL st.AO (n, v) st.mo).2)) := by show EN = _; rw [HX0.out, if_neg hw]
    have hok : putOk (nm : Int) 6 64 := ⟨by omega, by omega, by decide, by decide, by decide, by decide, by decide⟩
    have hp := hput_any (nm : Int) 6 64 w1 hok
    have hpl := putL_len (nm : Int) 6 64
    clear HX0
    generalize putL (nm : Int) 6 64 = P at *
    go_wp2_with fail
    refine hp.mono ?_
    rintro e w2 ⟨g2, cap2, rfl, hown2, hb2⟩
    have HO2 := hide (own_mono (base' := w0.heap.size) hown2 (by omega))
    have HB20 := hide (HB10.out.trans (hb2.mono (by omega)))
    have HB2 := hide (HB1.out.trans (hb2.mono (by omega)))
    have hs2 := hb2.size
    clear hown2 hb2 hp
    by_cases hnm : nm = 0
    · have HX : Hid (EN = (P ++ (txtL (nums n) ++ txtL (nums v)), (addL st.AO (n, v) st.mo).2)) := by show EN = _; rw [HX1.out, if_pos hnm]
      subst hnm
      have htn := htxt_any n w2 hn4
      have hln := txt_len (nums n) (by rw [nums_len]; exact hn4)
      have hbn := txt_byte (nums n) (nums_mem n)
      have y0 : w2.cell? ⟨w.heap.size, 0, none⟩ = some (.string n) := (HB20.out.cell (p := ⟨w.heap.size, 0, none⟩) (by simp; omega)).trans x0
      clear HX1
      generalize txtL (nums n) = TN at *
      go_wp2_with fail
      refine htn.mono ?_
      rintro e w3 ⟨g3, cap3, rfl, hown3, hb3⟩
      have HO3 := hide (own_below HO2.out hb3)
      have HR3 := hide (row_of rfl hown3 hbn)
      have HB3 := hide (HB2.out.trans (hb3.mono (by omega)))
      have HB30 := hide (HB20.out.trans (hb3.mono (by omega)))
      have hs3 := hb3.size
      clear htn hown3 hbn hb3 y0
      go_wp2_with (at_builtin; refine wpList_append_own _ rfl _ _ 29 rfl w0.heap.size 5 i0 _ 1 1 Tryd.underlying29 hi hz0 hz1 hz2 rfl (by decide) _ _ _ rfl HO3.out ⟨g3, 0, none⟩ TN.length cap3 (TN.map (Value.int .u8)) rfl (by simp) (row_news HR3.out) (one_bytes TN) ?c3 ?c4 ?c5 ?_)
      case c3 => unfold maxLen; omega
      case c4 => omega
      case c5 => omega
      intro v4 w4 hown4 hgrow4 _
      have HB40 := hide (HB30.out.grown hgrow4 (by omega) (fun k hk => (HO3.out.lt k hk).1))
      have HB4 := hide (hb0.trans (HB40.out.mono (by omega)))
      have hpl4 : (P ++ TN).length = P.length + TN.length := List.length_append
      have HO4 : Hid (w4.ownsRow w0.heap.size 5 1 v4 (P ++ TN).length ((P ++ TN).map (Value.int .u8))) := by
        show w4.ownsRow _ _ _ _ _ _
        rw [List.length_append, List.map_append]; exact hown4
      have hx4 : Hid (EN = ((P ++ TN) ++ txtL (nums v), (addL st.AO (n, v) st.mo).2)) := by show EN = _; rw [HX.out, List.append_assoc]
      obtain ⟨g4, cap4, rfl⟩ := shape_n HO4.out (by omega)
      clear hown4 hgrow4 HO3 HR3 HB3 HB30 HX hpl4
      have HX := hx4
      clear hx4
      have hpq : 1 ≤ (P ++ TN).length ∧ (P ++ TN).length ≤ 500 := by rw [List.length_append]; omega
      clear hpl hln
      generalize P ++ TN = PT at *
      obtain ⟨bv, hbv⟩ : ∃ bv : Value, bv = .slice (some ⟨g4, 0, none⟩) PT.length cap4 := ⟨_, rfl⟩
      rw [← hbv] at HO4 ⊢
      clear hbv
      have y0 : w4.cell? ⟨w.heap.size, 0, none⟩ = some (.string n) := (HB40.out.cell (p := ⟨w.heap.size, 0, none⟩) (by simp; omega)).trans x0
      have y1 : w4.cell? ⟨w.heap.size, 1, none⟩ = some (.string v) := (HB40.out.cell (p := ⟨w.heap.size, 1, none⟩) (by simp; omega)).trans x1
      have y2 : w4.cell? ⟨cb, 2, none⟩ = some (.pointer (some ⟨to, 0, none⟩)) := (HB4.out.cell (p := ⟨cb, 2, none⟩) hcl).trans c2
      have hBd : Below w.heap.size w w4.drew := HB4.out.trans (((Below.refl _ _).drew).mono HB4.out.size)
      have hadd := tadd to st.mo st.AO SO n v w4.drew (tabKeeps.below HT.out hBd) HF.out.out (by omega)
      have hsc := HB4.out.size
      have hsc0 := HB40.out.size
      have HBd := hide hBd
      clear hBd
      go_wp2_with fail
      go_region_held3 (fun w' => w'.cell? ⟨w.heap.size, 0, none⟩ = some (.string n) ∧ w'.cell? ⟨w.heap.size, 1, none⟩ = some (.string v) ∧ w'.cell? ⟨cb, 2, none⟩ = some (.pointer (some ⟨to, 0, none⟩)))
        (first | go_keep | (exact ⟨(off_cell hoff5 (by simp; omega) hxS).trans y0, (off_cell hoff5 (by simp; omega) hxS).trans y1, (off_cell hoff5 (by simp; omega) hcS).trans y2⟩))
        ((go_at_call 27; refine hadd.mono ?_; rintro e w5 ⟨rfl, hoff5, SO5, hT5, hS5⟩))
      have z1 : w5.cell? ⟨w.heap.size, 1, none⟩ = some (.string v) := (off_cell hoff5 (by simp; omega) hxS).trans y1
      have HC4 := HC.out.below HBd.out
      have HC5 := hide (HC4.turn (hcells HBd.out) HS.out (hins HBd.out) hoff5 st.mo _ hT5 hS5)
      have hs5 := hoff5.size
      have HO5 : Hid (w5.ownsRow w0.heap.size 5 1 bv PT.length _) := own_kept HO4.out (fun k hk => hoff5.block k (by have := (HO4.out.lt k hk).2; simpa using this) (fun hs => by have h1 := (HO4.out.lt k hk).1; have h2 := HC.out.hlt k (HS.out k hs).1; omega))
      have HF5 : Hid (Off S w w5) := (Off.of_below HBd.out).trans (hoff5.mono (fun k hk => (HS.out k hk).1))
      have HN5 : Hid (∀ k, bv.ownBlock = some k → ¬ (S k ∨ SO5 k) ∧ w.heap.size ≤ k) := fun k hk => by
        have h1 := (HO4.out.lt k hk).1
        have h2 := (HO4.out.lt k hk).2
        refine ⟨?_, by omega⟩
        rintro (h3 | h3)
        · have := HC.out.hlt k h3; omega
        · rcases hS5 k h3 with h4 | h4
          · have := HC.out.hlt k (HS.out k h4).1; omega
          · simp at h4; omega
      have HS5 : Hid (∀ k, S k ∨ SO5 k → S k ∨ w.heap.size ≤ k) := fun k hk => by
        rcases hk with hk | hk
        · exact Or.inl hk
        · rcases hS5 k hk with h4 | h4
          · exact Or.inl (HS.out k h4).1
          · right; simp at h4; omega
      have hss5 : w.heap.size ≤ w5.heap.size ∧ w0.heap.size ≤ w5.heap.size := by simp at hs5; omega
      clear hadd hoff5 hT5 hS5 HC4 HO4 hs5 y0 y1 y2
      have htv := htxt_any v w5 hv4
      have hlv := txt_len (nums v) (by rw [nums_len]; exact hv4)
      have hbv := txt_byte (nums v) (nums_mem v)
      generalize txtL (nums v) = TV at *
      go_wp2_with fail
      refine htv.mono ?_
      rintro e w6 ⟨g6, cap6, rfl, hown6, hb6⟩
      have HO6 := hide (own_below HO5.out hb6)
      have HR6 := hide (row_of rfl hown6 hbv)
      have HC6 := hide (HC5.out.below hb6)
      have HF6 := hide (HF5.out.trans (Off.of_below hb6))
      have hs6 := hb6.size
      clear htv hown6 hbv hb6 HO5 HC5 HF5
      go_wp2_with (at_builtin; refine wpList_append_own _ rfl _ _ 29 rfl w0.heap.size 5 i0 _ 1 1 Tryd.underlying29 hi hz0 hz1 hz2 rfl (by decide) _ _ _ rfl HO6.out ⟨g6, 0, none⟩ TV.length cap6 (TV.map (Value.int .u8)) rfl (by simp) (row_news HR6.out) (one_bytes TV) ?c3 ?c4 ?c5 ?_)
      case c3 => unfold maxLen; omega
      case c4 => omega
      case c5 => omega
      intro v7 w7 hown7 hgrow7 _
      have HO7 := hide (own_mono (base' := w.heap.size) hown7 (by omega))
      have HG7 := hide hgrow7
      clear hown7 hgrow7
      go_wp2
      go_ret
      have hal := HC.out.alw.pos
      refine ⟨⟨v7, rfl, ?_⟩, ?_, fun k => S k ∨ SO5 k, HS5.out, ?_⟩
      · rw [HX.out]
        simpa [List.map_append] using HO7.out
      · refine HF6.out.trans2 (off_grown HG7.out) (fun k hk => Or.inr (HN5.out k hk).2)
      · rw [HX.out]
        exact HC6.out.frame HG7.out.size (fun k hk => HG7.out.block k (HC6.out.hlt k hk) (fun e => (HN5.out k e.symm).1 hk)) (HG7.out.block _ (by omega) (fun e => by have := (HN5.out _ e.symm).2; omega))

    · have HX : Hid (EN = (P ++ txtL (nums v), (addL st.AO (n, v) st.mo).2)) := by show EN = _; rw [HX1.out, if_neg hnm, List.nil_append]
      have hdn : ((nm : Int) == 0) = false := by simpa using hnm
      clear HX1
      obtain ⟨bv, hbv⟩ : ∃ bv : Value, bv = .slice (some ⟨g2, 0, none⟩) P.length cap2 := ⟨_, rfl⟩
      rw [← hbv] at HO2 ⊢
      clear hbv
      have y0 : w2.cell? ⟨w.heap.size, 0, none⟩ = some (.string n) := (HB20.out.cell (p := ⟨w.heap.size, 0, none⟩) (by simp; omega)).trans x0
      have y1 : w2.cell? ⟨w.heap.size, 1, none⟩ = some (.string v) := (HB20.out.cell (p := ⟨w.heap.size, 1, none⟩) (by simp; omega)).trans x1
      have y2 : w2.cell? ⟨cb, 2, none⟩ = some (.pointer (some ⟨to, 0, none⟩)) := (HB2.out.cell (p := ⟨cb, 2, none⟩) hcl).trans c2
      have hBd : Below w.heap.size w w2.drew := HB2.out.trans (((Below.refl _ _).drew).mono HB2.out.size)
      have hadd := tadd to st.mo st.AO SO n v w2.drew (tabKeeps.below HT.out hBd) HF.out.out (by omega)
      have hsc := HB2.out.size
      have hsc0 := HB20.out.size
      have HBd := hide hBd
      clear hBd
      go_wp2_with fail
      go_region_held3 (fun w' => w'.cell? ⟨w.heap.size, 0, none⟩ = some (.string n) ∧ w'.cell? ⟨w.heap.size, 1, none⟩ = some (.string v) ∧ w'.cell? ⟨cb, 2, none⟩ = some (.pointer (some ⟨to, 0, none⟩)))
        (first | go_keep | (exact ⟨(off_cell hoff5 (by simp; omega) hxS).trans y0, (off_cell hoff5 (by simp; omega) hxS).trans y1, (off_cell hoff5 (by simp; omega) hcS).trans y2⟩))
        ((go_at_call 27; refine hadd.mono ?_; rintro e w5 ⟨rfl, hoff5, SO5, hT5, hS5⟩))
      have z1 : w5.cell? ⟨w.heap.size, 1, none⟩ = some (.string v) := (off_cell hoff5 (by simp; omega) hxS).trans y1
      have HC4 := HC.out.below HBd.out
      have HC5 := hide (HC4.turn (hcells HBd.out) HS.out (hins HBd.out) hoff5 st.mo _ hT5 hS5)
      have hs5 := hoff5.size
      have HO5 : Hid (w5.ownsRow w0.heap.size 5 1 bv P.length _) := own_kept HO2.out (fun k hk => hoff5.block k (by have := (HO2.out.lt k hk).2; simpa using this) (fun hs => by have h1 := (HO2.out.lt k hk).1; have h2 := HC.out.hlt k (HS.out k hs).1; omega))
      have HF5 : Hid (Off S w w5) := (Off.of_below HBd.out).trans (hoff5.mono (fun k hk => (HS.out k hk).1))
      have HN5 : Hid (∀ k, bv.ownBlock = some k → ¬ (S k ∨ SO5 k) ∧ w.heap.size ≤ k) := fun k hk => by
        have h1 := (HO2.out.lt k hk).1
        have h2 := (HO2.out.lt k hk).2
        refine ⟨?_, by omega⟩
        rintro (h3 | h3)
        · have := HC.out.hlt k h3; omega
        · rcases hS5 k h3 with h4 | h4
          · have := HC.out.hlt k (HS.out k h4).1; omega
          · simp at h4; omega
      have HS5 : Hid (∀ k, S k ∨ SO5 k → S k ∨ w.heap.size ≤ k) := fun k hk => by
        rcases hk with hk | hk
        · exact Or.inl hk
        · rcases hS5 k hk with h4 | h4
          · exact Or.inl (HS.out k h4).1
          · right; simp at h4; omega
      have hss5 : w.heap.size ≤ w5.heap.size ∧ w0.heap.size ≤ w5.heap.size := by simp at hs5; omega
      clear hadd hoff5 hT5 hS5 HC4 HO2 hs5 y0 y1 y2
      have htv := htxt_any v w5 hv4
      have hlv := txt_len (nums v) (by rw [nums_len]; exact hv4)
      have hbv := txt_byte (nums v) (nums_mem v)
      generalize txtL (nums v) = TV at *
      go_wp2_with fail
      refine htv.mono ?_
      rintro e w6 ⟨g6, cap6, rfl, hown6, hb6⟩
      have HO6 := hide (own_below HO5.out hb6)
      have HR6 := hide (row_of rfl hown6 hbv)
      have HC6 := hide (HC5.out.below hb6)
      have HF6 := hide (HF5.out.trans (Off.of_below hb6))
      have hs6 := hb6.size
      clear htv hown6 hbv hb6 HO5 HC5 HF5
      go_wp2_with (at_builtin; refine wpList_append_own _ rfl _ _ 29 rfl w0.heap.size 5 i0 _ 1 1 Tryd.underlying29 hi hz0 hz1 hz2 rfl (by decide) _ _ _ rfl HO6.out ⟨g6, 0, none⟩ TV.length cap6 (TV.map (Value.int .u8)) rfl (by simp) (row_news HR6.out) (one_bytes TV) ?c3 ?c4 ?c5 ?_)
      case c3 => unfold maxLen; omega
      case c4 => omega
      case c5 => omega
      intro v7 w7 hown7 hgrow7 _
      have HO7 := hide (own_mono (base' := w.heap.size) hown7 (by omega))
      have HG7 := hide hgrow7
      clear hown7 hgrow7
      go_wp2
      go_ret
      have hal := HC.out.alw.pos
      refine ⟨⟨v7, rfl, ?_⟩, ?_, fun k => S k ∨ SO5 k, HS5.out, ?_⟩
      · rw [HX.out]
        simpa [List.map_append] using HO7.out
      · refine HF6.out.trans2 (off_grown HG7.out) (fun k hk => Or.inr (HN5.out k hk).2)
      · rw [HX.out]
        exact HC6.out.frame HG7.out.size (fun k hk => HG7.out.block k (HC6.out.hlt k hk) (fun e => (HN5.out k e.symm).1 hk)) (HG7.out.block _ (by omega) (fun e => by have := (HN5.out _ e.symm).2; omega))
end Go.Proofs.YtkjfhgoddhigmacDoor
/-
  CONTRACT of the method Encode of head.Coder. No claim by itself.
-/
namespace Go.Proofs.YtkjfhgoddhigmacDoor
open Go.RowKit
set_option maxRecDepth 100000
theorem dweight_most : ∀ (L : List (ByteArray × ByteArray)), (∀ f ∈ L, f.1.size + f.2.size ≤ 281474976710656) → weight L ≤ 281474976710688 * L.length
  | [], _ => by simp [weight]
  | f :: L, h => by
    have ih := dweight_most L (fun g hg => h g (List.mem_cons_of_mem _ hg))
    have h1 := h f List.mem_cons_self
    rw [weight_cons, List.length_cons]
    unfold fsize
    omega
theorem FArg.len {w : World} {a : Option Addr} {len cap : Nat} {L : List (ByteArray × ByteArray)} (h : FArg w a len cap L) : L.length = len := by
  rcases h with ⟨rfl, rfl⟩ | ⟨_, _, _, hr⟩
  · rfl
  · exact hr.hlen
set_option maxHeartbeats 4000000 in
theorem hencode_no (cb : Nat) (a : Option Addr) (len cap : Nat) (L : List (ByteArray × ByteArray)) (w : World) (hA : FArg w a len cap L) (hlm : len ≤ 4611686018427387904) (hL : ∀ f ∈ L, f.1.size + f.2.size ≤ 281474976710656) (hbad : tooMuch L) :
    Calls Tryd.prog 6 #[.pointer (some ⟨cb, 0, none⟩), .slice a len cap] w fun e w' => e = .returned (.tuple #[.slice none 0 0, .iface 49 (.int .i64 4)]) ∧ Below w.heap.size w w' := by
  have hlen := hA.len
  have hwm := dweight_most L hL
  by_cases hm : len ≤ 40 ∧ weight L ≤ 2000
  · have hex : ∃ f ∈ L, ¬ small f := by
      rcases hbad with h | h | h
      · omega
      · omega
      · exact h
    have hmay := hmay_any a len cap L w hA hlm (fun h => by rw [hlen] at hwm; omega) true (by simpa using hm)
    have HA := hide hA
    clear hA hbad
    go_enter Tryd.func6, Tryd.ntmps6
    go_wp2_with fail
    refine hmay.mono ?_
    rintro e w1 ⟨rfl, hb1⟩
    have hc := hcont_yes a len cap L w1 (HA.out.below hb1) hex
    clear hmay
    go_wp2_with fail
    refine hc.mono ?_
    rintro e w2 ⟨rfl, hb2⟩
    have hB := hb1.trans (hb2.mono hb1.size)
    clear hc
    go_wp2
    go_ret2
    exact ⟨rfl, hB⟩
  · have hmay := hmay_any a len cap L w hA hlm (fun h => by rw [hlen] at hwm; omega) false (by simpa using hm)
    go_enter Tryd.func6, Tryd.ntmps6
    go_wp2_with fail
    refine hmay.mono ?_
    rintro e w1 ⟨rfl, hb1⟩
    clear hmay
    go_wp2
    go_ret2
    exact ⟨rfl, hb1⟩
theorem enc1_byte (mx : Int) (A : List (ByteArray × ByteArray)) (f : ByteArray × ByteArray) (hA : A.length ≤ 128) : ∀ x ∈ (enc1 mx A f).1, 0 ≤ x ∧ x < 256 := by
  have hL : (alwaysL ++ A).length = 12 + A.length := by rw [List.length_append, always_len]
  have h1 := fnd_le (isF f.1 f.2) (alwaysL ++ A) 0
  have h2 := fnd_le (isN f.1) (alwaysL ++ A) 0
  intro x hx
  unfold enc1 at hx
  split at hx
  · exact put_bytes _ 7 128 ⟨by omega, by omega, by decide, by decide, by decide, by decide, by decide⟩ x hx
  · rcases List.mem_append.1 hx with hx | hx
    · exact put_bytes _ 6 64 ⟨by omega, by omega, by decide, by decide, by decide, by decide, by decide⟩ x hx
    · rcases List.mem_append.1 hx with hx | hx
      · split at hx
        · exact txt_byte _ (nums_mem f.1) x hx
        · simp at hx
      · exact txt_byte _ (nums_mem f.2) x hx
theorem encL_byte {mx : Int} : ∀ (r : List (ByteArray × ByteArray)) {A : List (ByteArray × ByteArray)}, Fit mx A → ∀ x ∈ (encL mx A r).1, 0 ≤ x ∧ x < 256
  | [], _, _, x, hx => by simp [encL] at hx
  | f :: r, A, h, x, hx => by
    have hx' : x ∈ (enc1 mx A f).1 ++ (encL mx (enc1 mx A f).2 r).1 := hx
    rcases List.mem_append.1 hx' with h1 | h1
    · exact enc1_byte mx A f h.len x h1
    · exact encL_byte r (h.enc1 f) x h1
theorem szL_byte (z : List Int) (h : ∀ x ∈ z, 0 ≤ x ∧ x ≤ 4096) : ∀ x ∈ szL z, 0 ≤ x ∧ x < 256 := by
  intro x hx
  by_cases hz : z = []
  · rw [hz] at hx; simp [szL] at hx
  · rw [szL_ne z hz] at hx
    have hb := leastOf_bd z 4096 hz h
    have hla : z.getLastD 0 ∈ z := by
      cases z with
      | nil => exact absurd rfl hz
      | cons y r => simp [List.getLastD]
    rcases List.mem_append.1 hx with h1 | h1
    · exact put_bytes _ 5 32 (putOk_sz _ hb.1 hb.2) x h1
    · split at h1
      · exact put_bytes _ 5 32 (putOk_sz _ (h _ hla).1 (h _ hla).2) x h1
      · simp at h1
theorem HFit.enc {st : CSt} (h : HFit st) (L : List (ByteArray × ByteArray)) : HFit { st with sz := [], AO := (encL st.mo st.AO L).2 } :=
  ⟨Fit.encL L h.out, h.inn, h.hmost, fun x hx => by simp at hx, fun h => absurd rfl h⟩
theorem dszL_len (z : List Int) : (szL z).length ≤ 12 := by
  by_cases h : z = []
  · rw [h]; decide
  · rw [szL_ne z h, List.length_append]
    have h1 := (putL_len (leastOf z) 5 32).2
    have h2 := (putL_len (z.getLastD 0) 5 32).2
    split
    · omega
    · simp only [List.length_nil]; omega
set_option maxHeartbeats 8000000 in
theorem hencode_yes (cb : Nat) (st : CSt) (S : Nat → Prop) (a : Option Addr) (len cap : Nat) (L : List (ByteArray × ByteArray)) (w : World) (hC : HCod w cb st S) (hF : HFit st) (hA : ∀ wx, Off S w wx → FArg wx a len cap L) (hok : ¬ tooMuch L) :
    Calls Tryd.prog 6 #[.pointer (some ⟨cb, 0, none⟩), .slice a len cap] w fun e w' => ∃ v, e = .returned (.tuple #[v, .nilIface]) ∧ w'.ownsRow w.heap.size 5 1 v (szL st.sz ++ (encL st.mo st.AO L).1).length ((szL st.sz ++ (encL st.mo st.AO L).1).map (Value.int .u8)) ∧ Off S w w' ∧
      ∃ S', (∀ k, S' k → S k ∨ w.heap.size ≤ k) ∧ (∀ k, v.ownBlock = some k → ¬ S' k) ∧ HCod w' cb { st with sz := [], AO := (encL st.mo st.AO L).2 } S' := by
  obtain ⟨i0, hi, hz0, hz1, hz2⟩ := info_parts info5
  have hA0 := hA w (Off.of_below (Below.refl _ _))
  have hlen := hA0.len
  have hl40 : len ≤ 40 := by rw [← hlen]; exact Nat.le_of_not_lt (fun h => hok (Or.inl h))
  have hw2 : weight L ≤ 2000 := Nat.le_of_not_lt (fun h => hok (Or.inr (Or.inl h)))
  have hsm : ∀ f ∈ L, small f := fun f hf => Classical.byContradiction (fun h => hok (Or.inr (Or.inr ⟨f, hf, h⟩)))
  have hmay := hmay_any a len cap L w hA0 (by omega) (fun _ => by omega) true (by simp; omega)
  have HC := hide hC
  have HF := hide hF
  have HA := hide hA
  have HSM := hide hsm
  have HLN := hide hlen
  have hcl := hC.hlt cb hC.hcb
  clear hC hF hA hsm hok hA0 hlen
  go_enter Tryd.func6, Tryd.ntmps6
  go_wp2_with fail
  refine hmay.mono ?_
  rintro e w1 ⟨rfl, hb1⟩
  have hc := hcont_no a len cap L w1 (HA.out w1 (Off.of_below hb1)) HSM.out
  clear hmay
  go_wp2_with fail
  refine hc.mono ?_
  rintro e w2 ⟨rfl, hb2⟩
  have hB2 := hb1.trans (hb2.mono hb1.size)
  have hs2 := hB2.size
  have ht := htells_any cb st S w2 (HC.out.below hB2) HF.out
  clear hc hb1 hb2
  go_wp2_with fail
  refine ht.mono ?_
  rintro e w3 ⟨⟨v3, rfl, hown3⟩, hoff3, hC3⟩
  have HO3 := hide (own_mono (base' := w.heap.size) hown3 hs2)
  have HC3 := hide hC3
  have HF3 := hide ((Off.of_below (S := S) hB2).trans hoff3)
  have HN3 : Hid (∀ k, v3.ownBlock = some k → ¬ S k) := fun k hk hs => by
    have h1 := (hown3.lt k hk).1
    have h2 := HC.out.hlt k hs
    omega
  have hs3 := hoff3.size
  have hZl := dszL_len st.sz
  clear ht hown3 hoff3 hC3
  go_wp2_with fail
  go_loopw [6, 21] (fun b i wr => ∃ j : Nat, i = .int .i64 j ∧ j ≤ len ∧ wr.ownsRow w.heap.size 5 1 b (szL st.sz ++ (encL st.mo st.AO (L.take j)).1).length ((szL st.sz ++ (encL st.mo st.AO (L.take j)).1).map (Value.int .u8)) ∧ Off S w wr ∧
      ∃ T, (∀ k, T k → S k ∨ w.heap.size ≤ k) ∧ (∀ k, b.ownBlock = some k → ¬ T k) ∧ HCod wr cb { st with sz := [], AO := (encL st.mo st.AO (L.take j)).2 } T) (fun _ i _ => len - (intOf i).toNat)
  case atStart => exact ⟨0, rfl, by omega, by simpa [encL] using HO3.out, HF3.out, S, fun k hk => Or.inl hk, HN3.out, by simpa [encL] using HC3.out⟩
  case round =>
    obtain ⟨j, rfl, hj, hown, hoff, T, hT, hN, hCo⟩ := hrel
    have HO := hide hown
    have HOF := hide hoff
    have HT := hide hT
    have HN := hide hN
    have HCo := hide hCo
    have hsr := hoff.size
    clear hown hoff hT hN hCo HO3 HC3 HF3 HN3
    by_cases hlt : j < len
    · rcases HA.out wr HOF.out with ⟨h0, _⟩ | ⟨g, off, rfl, hr⟩
      · omega
      have c1 := hr.hname j hlt
      have c2 := hr.hvalue j hlt
      have hcap := hr.hcap
      have hmx := hr.hmax
      unfold maxLen at hmx
      clear hr
      have HST := hide (encL_take st.mo st.AO L j (by rw [HLN.out]; exact hlt))
      have hss := HSM.out _ (getD_mem (L := L) (k := j) (by rw [HLN.out]; exact hlt))
      generalize hfe : L.getD j fnone = f at *
      obtain ⟨n, v⟩ := f
      have hPl : (szL st.sz ++ (encL st.mo st.AO (L.take j)).1).length ≤ 41000 := by
        have h1 := encL_len st.mo (L.take j) st.AO (fun f hf => HSM.out f (List.mem_of_mem_take hf))
        have h2 := dszL_len st.sz
        rw [List.length_take, HLN.out] at h1
        rw [List.length_append]
        omega
      clear hfe
      have hFj := HF.out.enc (L.take j)
      have hAl := (Fit.encL (L.take j) HF.out.out).len
      have hel := (fld_back st.mo (encL st.mo st.AO (L.take j)).2 (n, v) [] hss hAl).2.2
      have hem := enc1_len st.mo (encL st.mo st.AO (L.take j)).2 (n, v) hss
      have heb := enc1_byte st.mo (encL st.mo st.AO (L.take j)).2 (n, v) hAl
      obtain ⟨w0, hw0⟩ : ∃ w0, w0 = wr.alloc (.cells #[.string n, .string v] 33) := ⟨_, rfl⟩
      have hb0 : Below wr.heap.size wr w0 := by rw [hw0]; exact (Below.refl _ _).alloc (Nat.le_refl _) _
      have hs0 := hb0.size
      have htf := htellf_any cb { st with sz := [], AO := (encL st.mo st.AO (L.take j)).2 } T n v w0 (HCo.out.below hb0) hFj hss
      simp only at htf
      generalize (encL st.mo st.AO (L.take j)).2 = A at *
      generalize hP : szL st.sz ++ (encL st.mo st.AO (L.take j)).1 = P at *
      have HP := hide hP
      generalize enc1 st.mo A (n, v) = X at *
      obtain ⟨X, A'⟩ := X
      simp only at htf hel hem heb
      clear hP hFj
      go_wp2_with fail
      rw [← hw0]
      clear hw0
      refine htf.mono ?_
      rintro e w5 ⟨⟨x, rfl, hown5⟩, hoff5, T5, hT5, hC5⟩
      obtain ⟨g5, cap5, rfl⟩ := shape_n hown5 hel
      have HR5 := hide (row_of rfl hown5 heb)
      have HC5 := hide hC5
      have hs5 := hoff5.size
      have HO5 : Hid (w5.ownsRow w.heap.size 5 1 u6 P.length (P.map (Value.int .u8))) := own_kept HO.out (fun k hk => (hoff5.block k (by have := (HO.out.lt k hk).2; omega) (HN.out k hk)).trans (hb0.block k (HO.out.lt k hk).2))
      have HN5 : Hid (∀ k, u6.ownBlock = some k → ¬ T5 k ∧ w.heap.size ≤ k) := fun k hk => ⟨fun h => by
        rcases hT5 k h with h1 | h1
        · exact HN.out k hk h1
        · have := (HO.out.lt k hk).2; omega, (HO.out.lt k hk).1⟩
      have HT5 : Hid (∀ k, T5 k → S k ∨ w.heap.size ≤ k) := fun k hk => by
        rcases hT5 k hk with h1 | h1
        · exact HT.out k h1
        · right; omega
      have HF5 : Hid (Off S w w5) := (HOF.out.trans (Off.of_below hb0)).trans2 hoff5 HT.out
      obtain ⟨_, ub, uc, rfl, _⟩ := slen_own HO5.out
      clear htf hown5 hoff5 hT5 hC5 HO HN HT HOF HCo
      go_wp2_with (at_builtin; refine wpList_append_own_at _ rfl _ _ 29 rfl w.heap.size 5 i0 _ 1 1 Tryd.underlying29 hi hz0 hz1 hz2 rfl (by decide) _ _ _ rfl HO5.out ⟨g5, 0, none⟩ X.length cap5 (X.map (Value.int .u8)) rfl (by simp) (row_news HR5.out) (one_bytes X) ?c3 ?c4 ?c5 ?_)
      case c3 => unfold maxLen; omega
      case c4 => omega
      case c5 => omega
      intro v6 w6 hown6 hgrow6 _ hat6
      have HO6 := hide hown6
      have HG6 := hide hgrow6
      have HA6 := hide hat6
      clear hown6 hgrow6 hat6
      go_wp2
      go_roundw
      case rel =>
        have hal := HC.out.alw.pos
        have eE : szL st.sz ++ (encL st.mo st.AO (L.take (j + 1))).1 = P ++ X := by rw [HST.out, ← HP.out, List.append_assoc]
        refine ⟨j + 1, by go_num, by omega, ?_, HF5.out.trans2 (off_grown HG6.out) (fun k hk => Or.inr (HN5.out k hk).2), T5, HT5.out, fun k hk hT => ?_, ?_⟩
        · rw [eE, List.length_append, List.map_append]; exact HO6.out
        · rcases HA6.out with h1 | h1
          · exact (HN5.out k (h1.symm.trans hk)).1 hT
          · rw [h1] at hk
            cases hk
            have := HC5.out.hlt _ hT
            omega
        · rw [HST.out]
          exact HC5.out.frame HG6.out.size (fun k hk => HG6.out.block k (HC5.out.hlt k hk) (fun e => (HN5.out k e.symm).1 hk)) (HG6.out.block _ (by omega) (fun e => by have := (HN5.out _ e.symm).2; omega))
      case measure => simp [intOf]; omega
    · have e : L.take j = L := List.take_of_length_le (by rw [HLN.out]; omega)
      rw [e] at HO HCo
      go_wp2
      go_ret2
      exact ⟨_, rfl, HO.out, HOF.out, T, HT.out, HN.out, HCo.out⟩
end Go.Proofs.YtkjfhgoddhigmacDoor
