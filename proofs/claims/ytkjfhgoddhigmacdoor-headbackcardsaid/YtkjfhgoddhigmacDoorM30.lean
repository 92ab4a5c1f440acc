/-
  CONTRACTS of the methods Resize and tellSizes of head.Coder. No claim by itself.
-/
import Derived.Test.YtkjfhgoddhigmacDoorM29
namespace Go.Proofs.YtkjfhgoddhigmacDoor
open Go.RowKit
set_option maxRecDepth 100000
/-- A coder's cells. -/
theorem HCod.cells {w : World} {cb : Nat} {st : CSt} {S : Nat → Prop} (h : HCod w cb st S) : ∃ to SO vi, w.heap[cb]? = some (.cells #[.int .i64 st.most, .int .i64 (leastOf st.sz), .pointer (some ⟨to, 0, none⟩), vi] 46 (0, 0)) ∧ TabP w to st.mo st.AO SO ∧ (∀ k, SO k → S k ∧ k ≠ cb) ∧
    ((st.bad = true ∧ vi = .pointer none) ∨ (st.bad = false ∧ ∃ ti SI, vi = .pointer (some ⟨ti, 0, none⟩) ∧ TabP w ti st.mi st.AI SI ∧ ∀ k, SI k → S k ∧ k ≠ cb ∧ ¬ SO k)) := h.row
/-- The table for what goes out has turned. -/
theorem HCod.turn {w w' : World} {cb to : Nat} {st : CSt} {S SO SO' : Nat → Prop} {vi : Value} (h : HCod w cb st S) (hh : w.heap[cb]? = some (.cells #[.int .i64 st.most, .int .i64 (leastOf st.sz), .pointer (some ⟨to, 0, none⟩), vi] 46 (0, 0)))
    (hS : ∀ k, SO k → S k ∧ k ≠ cb) (hin : (st.bad = true ∧ vi = .pointer none) ∨ (st.bad = false ∧ ∃ ti SI, vi = .pointer (some ⟨ti, 0, none⟩) ∧ TabP w ti st.mi st.AI SI ∧ ∀ k, SI k → S k ∧ k ≠ cb ∧ ¬ SO k))
    (ho : Off SO w w') (mo : Int) (AO : List (ByteArray × ByteArray)) (hT : TabP w' to mo AO SO') (hS' : ∀ k, SO' k → SO k ∨ w.heap.size ≤ k) :
    HCod w' cb { st with mo := mo, AO := AO } (fun k => S k ∨ SO' k) := by
  have hcs := h.hlt cb h.hcb
  have halp := h.alw.pos
  have hA : w'.heap[0]? = w.heap[0]? := ho.block _ halp (fun hs => h.hal (hS _ hs).1)
  refine ⟨h.alw.kept hA, Or.inl h.hcb, fun k hk => ?_, ?_, to, SO', vi, (ho.block cb hcs (fun hs => (hS cb hs).2 rfl)).trans hh, hT, fun k hk => ⟨Or.inr hk, ?_⟩, ?_⟩
  · rcases hk with hk | hk
    · exact Nat.lt_of_lt_of_le (h.hlt k hk) ho.size
    · exact tabKeeps.lt hT k hk
  · rintro (hk | hk)
    · exact h.hal hk
    · exact tab_al hT hk
  · rcases hS' k hk with h1 | h1
    · exact (hS k h1).2
    · omega
  · rcases hin with h1 | ⟨hb, ti, SI, hv, ht, hd⟩
    · exact Or.inl h1
    · refine Or.inr ⟨hb, ti, SI, hv, tabKeeps.frame ht ho.size (fun k hk => ho.block k (tabKeeps.lt ht k hk) (hd k hk).2.2) hA, fun k hk => ⟨Or.inl (hd k hk).1, (hd k hk).2.1, fun h2 => ?_⟩⟩
      rcases hS' k h2 with h1 | h1
      · exact (hd k hk).2.2 h1
      · have := tabKeeps.lt ht k hk; omega
/-- The least of sizes has turned. -/
theorem HCod.least {w : World} {cb : Nat} {st : CSt} {S : Nat → Prop} (h : HCod w cb st S) (sz : List Int) : HCod (w.setCell ⟨cb, 1, none⟩ (.int .i64 (leastOf sz))) cb { st with sz := sz } S := by
  obtain ⟨h1, h2, h3, h4, to, SO, vi, h5, h6, h7, h8⟩ := h
  have hs : (w.setCell ⟨cb, 1, none⟩ (.int .i64 (leastOf sz))).heap.size = w.heap.size := by simp
  have hk : ∀ k, k ≠ cb → (w.setCell ⟨cb, 1, none⟩ (.int .i64 (leastOf sz))).heap[k]? = w.heap[k]? := fun k hk => Below.heap_setCell w ⟨cb, 1, none⟩ _ k hk
  have hA := hk 0 (fun e => h4 (e ▸ h2))
  refine ⟨h1.kept hA, h2, fun k hk' => by rw [hs]; exact h3 k hk', h4, to, SO, vi, ?_, tabKeeps.frame h6 (by omega) (fun k hk' => hk k (h7 k hk').2) hA, h7, ?_⟩
  · rw [heap_set h5]; rfl
  · rcases h8 with h8 | ⟨hb, ti, SI, hv, ht, hd⟩
    · exact Or.inl h8
    · exact Or.inr ⟨hb, ti, SI, hv, tabKeeps.frame ht (by omega) (fun k hk' => hk k (hd k hk').2.1) hA, hd⟩
set_option maxHeartbeats 4000000 in
theorem hresize_any (cb : Nat) (st : CSt) (S : Nat → Prop) (m : Int) (w : World) (hC : HCod w cb st S) (hF : HFit st) :
    Calls Tryd.prog 8 #[.pointer (some ⟨cb, 0, none⟩), .int .i64 m] w fun e w' => Off S w w' ∧ ∃ S', (∀ k, S' k → S k ∨ w.heap.size ≤ k) ∧
      ((0 ≤ m ∧ m ≤ 4096 ∧ e = .returned .nilIface ∧ HCod w' cb { st with mo := m, AO := st.AO.take (keepN st.AO m st.AO.length), sz := st.sz ++ [m] } S') ∨ (¬ (0 ≤ m ∧ m ≤ 4096) ∧ e = .returned (.iface 49 (.int .i64 1)) ∧ HCod w' cb st S')) := by
  obtain ⟨to, SO, vi, hh, hT, hS, hin⟩ := hC.cells
  have c2 : w.cell? ⟨cb, 2, none⟩ = some (.pointer (some ⟨to, 0, none⟩)) := (cell_at hh 2).trans rfl
  have hrs := tresize to st.mo st.AO SO m w hT hF.out
  have HC := hide hC
  have HH := hide hh
  have HS := hide hS
  have HI := hide hin
  have HF := hide hF
  clear hC hh hS hin hT hF
  go_enter Tryd.func8, Tryd.ntmps8
  go_wp2_with fail
  refine hrs.mono ?_
  rintro e w1 ⟨ho, SO', hS', ⟨h0, h1, rfl, hT1⟩ | ⟨hno, rfl, hT1⟩⟩
  · have HC1 := hide (HC.out.turn HH.out HS.out HI.out ho m _ hT1 hS')
    have hO1 : Off S w w1 := ho.mono (fun k hk => (HS.out k hk).1)
    have hss : ∀ k, S k ∨ SO' k → S k ∨ w.heap.size ≤ k := fun k hk => by
      rcases hk with hk | hk
      · exact Or.inl hk
      · rcases hS' k hk with h | h
        · exact Or.inl (HS.out k h).1
        · exact Or.inr h
    have hh1 : w1.heap[cb]? = some (.cells #[.int .i64 st.most, .int .i64 (leastOf st.sz), .pointer (some ⟨to, 0, none⟩), vi] 46 (0, 0)) := (ho.block cb (HC.out.hlt cb HC.out.hcb) (fun hs => (HS.out cb hs).2 rfl)).trans HH.out
    have k1 : w1.cell? ⟨cb, 1, none⟩ = some (.int .i64 (leastOf st.sz)) := (cell_at hh1 1).trans rfl
    have f1 : w1.frozen? ⟨cb, 1, none⟩ = false := frozen_at hh1 1
    have HSS := hide hss
    have HO1 := hide hO1
    have hneg := leastOf_neg st.sz HF.out.hsz
    have hsn : st.sz ≠ [] → leastOf (st.sz ++ [m]) = if m < leastOf st.sz then m else leastOf st.sz := leastOf_snoc st.sz m
    have hs1 : st.sz = [] → leastOf (st.sz ++ [m]) = m := fun e => by rw [e]; exact leastOf_one m
    have HL := hide (fun (l : Int) (e : leastOf (st.sz ++ [m]) = l) => e ▸ HC1.out.least (st.sz ++ [m]))
    have HL2 : Hid (leastOf (st.sz ++ [m]) = leastOf st.sz → HCod w1 cb { st with mo := m, AO := st.AO.take (keepN st.AO m st.AO.length), sz := st.sz ++ [m] } (fun k => S k ∨ SO' k)) := fun e => by
      obtain ⟨p1, p2, p3, p4, p5, p6, p7, p8, p9⟩ := HC1.out
      exact ⟨p1, p2, p3, p4, p5, p6, p7, by rw [show leastOf ({ st with mo := m, AO := st.AO.take (keepN st.AO m st.AO.length), sz := st.sz ++ [m] } : CSt).sz = leastOf st.sz from e]; exact p8, p9⟩
    have hcase : (leastOf st.sz = -1 ∧ leastOf (st.sz ++ [m]) = m) ∨ (leastOf st.sz ≠ -1 ∧ m < leastOf st.sz ∧ leastOf (st.sz ++ [m]) = m) ∨ (leastOf st.sz ≠ -1 ∧ ¬ m < leastOf st.sz ∧ leastOf (st.sz ++ [m]) = leastOf st.sz) := by
      by_cases e : st.sz = []
      · exact Or.inl ⟨hneg.2 e, hs1 e⟩
      · have hne : leastOf st.sz ≠ -1 := fun h => e (hneg.1 h)
        have := hsn e
        by_cases h : m < leastOf st.sz
        · rw [if_pos h] at this; exact Or.inr (Or.inl ⟨hne, h, this⟩)
        · rw [if_neg h] at this; exact Or.inr (Or.inr ⟨hne, h, this⟩)
    clear hneg hsn hs1 hrs ho hO1 hss hT1 hS' hh1
    generalize leastOf st.sz = l at *
    rcases hcase with ⟨rfl, e1⟩ | ⟨hne, hlt, e1⟩ | ⟨hne, hlt, e1⟩
    · have E := hide e1
      clear e1
      go_wp2
      go_ret
      exact ⟨HO1.out.setCell cb 1 HC.out.hcb _, fun k => S k ∨ SO' k, HSS.out, Or.inl ⟨h0, h1, rfl, HL.out m E.out⟩⟩
    · have hb : (l == -1) = false := by simpa using hne
      have E := hide e1
      clear e1
      go_wp2
      go_ret
      exact ⟨HO1.out.setCell cb 1 HC.out.hcb _, fun k => S k ∨ SO' k, HSS.out, Or.inl ⟨h0, h1, rfl, HL.out m E.out⟩⟩
    · have hb : (l == -1) = false := by simpa using hne
      have E := hide e1
      clear e1
      go_wp2
      go_ret
      exact ⟨HO1.out, fun k => S k ∨ SO' k, HSS.out, Or.inl ⟨h0, h1, rfl, HL2.out E.out⟩⟩
  · have HC1 := hide (HC.out.turn HH.out HS.out HI.out ho st.mo st.AO hT1 hS')
    have hO1 : Off S w w1 := ho.mono (fun k hk => (HS.out k hk).1)
    have hss : ∀ k, S k ∨ SO' k → S k ∨ w.heap.size ≤ k := fun k hk => by
      rcases hk with hk | hk
      · exact Or.inl hk
      · rcases hS' k hk with h | h
        · exact Or.inl (HS.out k h).1
        · exact Or.inr h
    clear hrs ho hT1 hS'
    go_wp2
    go_ret
    exact ⟨hO1, fun k => S k ∨ SO' k, hss, Or.inr ⟨hno, rfl, HC1.out⟩⟩
end Go.Proofs.YtkjfhgoddhigmacDoor
/-
  CONTRACTS of the methods tellSizes and tellField of head.Coder. No claim by itself.
-/
namespace Go.Proofs.YtkjfhgoddhigmacDoor
open Go.RowKit
set_option maxRecDepth 100000
theorem HCod.noSz {w : World} {cb : Nat} {st : CSt} {S : Nat → Prop} (h : HCod w cb st S) (e : st.sz = []) : HCod w cb { st with sz := [] } S := by
  obtain ⟨mo, mi, most, AO, AI, sz, bad⟩ := st
  simp only at e
  subst e
  exact h
theorem putOk_sz (n : Int) (h0 : 0 ≤ n) (h1 : n ≤ 4096) : putOk n 5 32 := ⟨h0, by omega, by decide, by decide, by decide, by decide, by decide⟩
theorem put_bytes (n b f : Int) (h : putOk n b f) : ∀ x ∈ putL n b f, 0 ≤ x ∧ x < 256 := by
  obtain ⟨h0, _, h1, h2, h3, h4, h5⟩ := h
  exact putL_byte n b f h0 h1 h2 h3 h4 h5
set_option maxHeartbeats 4000000 in
theorem htells_any (cb : Nat) (st : CSt) (S : Nat → Prop) (w : World) (hC : HCod w cb st S) (hF : HFit st) :
    Calls Tryd.prog 15 #[.pointer (some ⟨cb, 0, none⟩)] w fun e w' => (∃ v, e = .returned v ∧ w'.ownsRow w.heap.size 5 1 v (szL st.sz).length ((szL st.sz).map (Value.int .u8))) ∧ Off S w w' ∧ HCod w' cb { st with sz := [] } S := by
  obtain ⟨i0, hi, hz0, hz1, hz2⟩ := info_parts info5
  obtain ⟨to, SO, vi, hh, hT, hS, hin⟩ := hC.cells
  have c1 : w.cell? ⟨cb, 1, none⟩ = some (.int .i64 (leastOf st.sz)) := (cell_at hh 1).trans rfl
  have c2 : w.cell? ⟨cb, 2, none⟩ = some (.pointer (some ⟨to, 0, none⟩)) := (cell_at hh 2).trans rfl
  have hcl := hC.hlt cb hC.hcb
  have HC := hide hC
  by_cases hsz : st.sz = []
  · have hneg := (leastOf_neg st.sz hF.hsz).2 hsz
    rw [hneg] at c1
    have E := hide hsz
    clear hsz hneg hC hin hT hS hh
    go_enter Tryd.func15, Tryd.ntmps15
    go_wp2
    go_ret
    refine ⟨⟨_, rfl, ?_⟩, Off.of_below (Below.refl _ _), HC.out.noSz E.out⟩
    rw [E.out]
    exact World.ownsRow_nil _ _ _ _
  · have hne : leastOf st.sz ≠ -1 := fun h => hsz ((leastOf_neg st.sz hF.hsz).1 h)
    have hlb := leastOf_bd st.sz 4096 hsz hF.hsz
    have hlast := hF.hlast hsz
    have hmo0 := hF.out.h0
    have hmo1 := hF.out.h1
    have hE := szL_ne st.sz hsz
    rw [← hlast] at hE
    have HE := hide hE
    have HT := hide hT
    have HH := hide hh
    have HF := hide hF
    have ok1 := putOk_sz _ hlb.1 hlb.2
    have ok2 := putOk_sz _ hmo0 hmo1
    have hp1 := hput_any _ 5 32 w ok1
    have l1 := putL_len (leastOf st.sz) 5 32
    have l2 := putL_len st.mo 5 32
    have hby2 := put_bytes _ _ _ ok2
    have hb1 : (leastOf st.sz == -1) = false := by simpa using hne
    generalize leastOf st.sz = l at *
    clear hC hin hT hS hh hE hlast hsz hF
    go_enter Tryd.func15, Tryd.ntmps15
    go_wp2_with fail
    refine hp1.mono ?_
    rintro e w1 ⟨g1, cap1, rfl, hown1, hbe1⟩
    have s1 := hbe1.size
    have c21 : w1.cell? ⟨cb, 2, none⟩ = some (.pointer (some ⟨to, 0, none⟩)) := (hbe1.cell (p := ⟨cb, 2, none⟩) hcl).trans c2
    have hmx := tmax to st.mo st.AO SO w1 (tabKeeps.below HT.out hbe1) HF.out.out
    have HO1 := hide hown1
    clear hown1 hp1
    go_wp2_with fail
    refine hmx.mono ?_
    rintro e w2 ⟨rfl, hbe2⟩
    have s2 := hbe2.size
    have hB2 := hbe1.trans (hbe2.mono s1)
    have c12 : w2.cell? ⟨cb, 1, none⟩ = some (.int .i64 l) := (hB2.cell (p := ⟨cb, 1, none⟩) hcl).trans c1
    have HO2 := hide (own_below HO1.out hbe2)
    clear hmx HO1
    have fin : ∀ (v : Value) (wx : World) (X : List Int), szL st.sz = X → wx.ownsRow w.heap.size 5 1 v X.length (X.map (Value.int .u8)) → Below w.heap.size w wx →
        (wx.setCell ⟨cb, 1, none⟩ (.int .i64 (-1))).ownsRow w.heap.size 5 1 v (szL st.sz).length ((szL st.sz).map (Value.int .u8)) ∧ Off S w (wx.setCell ⟨cb, 1, none⟩ (.int .i64 (-1))) ∧ HCod (wx.setCell ⟨cb, 1, none⟩ (.int .i64 (-1))) cb { st with sz := [] } S := fun v wx X hX ho hb => by
      rw [hX]
      refine ⟨own_kept ho (fun k hk => Below.heap_setCell wx ⟨cb, 1, none⟩ _ k (fun e => ?_)), (Off.of_below hb).setCell cb 1 HC.out.hcb _, (HC.out.below hb).least []⟩
      have h1 := (ho.lt k hk).1
      have h2 : k = cb := e
      omega
    have FIN := hide fin
    clear fin
    by_cases hlt : l < st.mo
    · have hd : decide (l < st.mo) = true := by simpa using hlt
      have hX : Hid (szL st.sz = putL l 5 32 ++ putL st.mo 5 32) := by
        show szL st.sz = _
        rw [HE.out, if_pos hlt]
      have hp2 := hput_any st.mo 5 32 w2 ok2
      go_wp2_with fail
      refine hp2.mono ?_
      rintro e w3 ⟨g3, cap3, rfl, hown3, hbe3⟩
      have s3 := hbe3.size
      have hB3 := hB2.trans (hbe3.mono (by omega))
      have HO3 := hide (own_below HO2.out hbe3)
      have HR3 := hide (row_of rfl hown3 hby2)
      clear hown3 hp2 hby2
      generalize putL l 5 32 = P at *
      generalize putL st.mo 5 32 = Q at *
      go_wp2_with (at_builtin; refine wpList_append_own _ rfl _ _ 29 rfl w.heap.size 5 i0 _ 1 1 Tryd.underlying29 hi hz0 hz1 hz2 rfl (by decide) _ _ _ rfl HO3.out ⟨g3, 0, none⟩ Q.length cap3 (Q.map (Value.int .u8)) rfl (by simp) (row_news HR3.out) (one_bytes Q) ?c3 ?c4 ?c5 ?_)
      case c3 => unfold maxLen; omega
      case c4 => omega
      case c5 => omega
      intro v' w4 hown' hgrow _
      have hb4 : Below w.heap.size w w4 := hB3.grown hgrow (by omega) (fun k hk => (HO3.out.lt k hk).1)
      have c14 : w4.cell? ⟨cb, 1, none⟩ = some (.int .i64 l) := (hb4.cell (p := ⟨cb, 1, none⟩) hcl).trans c1
      have h4 : w4.heap[cb]? = some _ := (hb4.block cb hcl).trans HH.out
      have f14 : w4.frozen? ⟨cb, 1, none⟩ = false := frozen_at h4 1
      have HO4 : Hid (w4.ownsRow w.heap.size 5 1 v' (P ++ Q).length ((P ++ Q).map (Value.int .u8))) := by
        show w4.ownsRow _ _ _ _ _ _
        rw [List.length_append, List.map_append]; exact hown'
      have HB4 := hide hb4
      clear hown' hgrow h4 hb4
      go_wp2
      go_ret
      obtain ⟨q1, q2, q3⟩ := FIN.out v' w4 (P ++ Q) hX.out HO4.out HB4.out
      exact ⟨⟨v', rfl, q1⟩, q2, q3⟩
    · have hd : decide (l < st.mo) = false := by simpa using hlt
      have hX : Hid (szL st.sz = putL l 5 32) := by
        show szL st.sz = _
        rw [HE.out, if_neg hlt, List.append_nil]
      have h2 : w2.heap[cb]? = some _ := (hB2.block cb hcl).trans HH.out
      have f12 : w2.frozen? ⟨cb, 1, none⟩ = false := frozen_at h2 1
      have HB2 := hide hB2
      clear h2
      generalize putL l 5 32 = P at *
      go_wp2
      go_ret
      obtain ⟨q1, q2, q3⟩ := FIN.out _ w2 P hX.out HO2.out HB2.out
      exact ⟨⟨_, rfl, q1⟩, q2, q3⟩
end Go.Proofs.YtkjfhgoddhigmacDoor
