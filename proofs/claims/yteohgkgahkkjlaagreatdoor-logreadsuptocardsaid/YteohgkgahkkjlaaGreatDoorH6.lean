/-
  WHAT WAS DONE: the document's ParseEntry, walked. No claim by itself.
-/
import Derived.Test.YteohgkgahkkjlaaGreatDoorH5
import Derived.Test.YteohgkgahkkjlaaGreatDoorG6
namespace Go.Proofs.YteohgkgahkkjlaaGreatDoor
open Go Go.RowKit
set_option maxRecDepth 100000
theorem list6h {l : List ByteArray} (h : l.length = 6) : ∃ x0 x1 x2 x3 x4 x5, l = [x0, x1, x2, x3, x4, x5] := by
  match l, h with
  | [x0, x1, x2, x3, x4, x5], _ => exact ⟨x0, x1, x2, x3, x4, x5, rfl⟩
theorem srow_cell6 {w : World} {base g cap : Nat} {VS : List ByteArray} (h : SOwn w base (.slice (some ⟨g, 0, none⟩) VS.length cap) VS) (k : Nat) (hk : k < VS.length) : w.cell? ⟨g, k, none⟩ = some (.string (VS.getD k .empty)) := by
  have := h.cellAt k (by omega)
  rw [this]
  simp [List.getElem?_map, List.getElem?_eq_getElem hk, List.getD]
theorem srow_form6 {w : World} {base : Nat} {sa : Option Addr} {cap : Nat} {VS : List ByteArray} (h : SOwn w base (.slice sa VS.length cap) VS) (hn : VS ≠ []) : ∃ g, sa = some ⟨g, 0, none⟩ ∧ VS.length ≤ cap ∧ cap ≤ maxLen ∧ g < w.heap.size ∧ base ≤ g := by
  obtain ⟨_, ⟨hv, h0⟩ | ⟨g, cap', cur, hv, hb, hc, h1, h2, _⟩⟩ := id h
  · exact absurd (List.eq_nil_of_length_eq_zero h0) hn
  · cases hv
    exact ⟨g, rfl, h1, h2, (Array.getElem?_eq_some_iff.1 hc).1, hb⟩
/-- The entry that is being read. -/
structure PE (w1 W : World) (t c b k : Int) (m p : ByteArray) : Prop where
  en : EnB W w1.heap.size t c b k m p
  be : Below w1.heap.size w1 W
section
variable {w1 W : World} {t c b k : Int} {m p : ByteArray}
theorem PE.set0 (h : PE w1 W t c b k m p) (x : Int) : PE w1 (W.setCell ⟨w1.heap.size, 0, none⟩ (.int .i64 x)) x c b k m p := ⟨heap_setCell_same W _ 0 _ _ _ h.en, h.be.setCell (p := ⟨w1.heap.size, 0, none⟩) (Nat.le_refl _) _⟩
theorem PE.set1 (h : PE w1 W t c b k m p) (x : Int) : PE w1 (W.setCell ⟨w1.heap.size, 1, none⟩ (.int .i64 x)) t x b k m p := ⟨heap_setCell_same W _ 1 _ _ _ h.en, h.be.setCell (p := ⟨w1.heap.size, 1, none⟩) (Nat.le_refl _) _⟩
theorem PE.set2 (h : PE w1 W t c b k m p) (x : Int) : PE w1 (W.setCell ⟨w1.heap.size, 2, none⟩ (.int .i64 x)) t c x k m p := ⟨heap_setCell_same W _ 2 _ _ _ h.en, h.be.setCell (p := ⟨w1.heap.size, 2, none⟩) (Nat.le_refl _) _⟩
theorem PE.set3 (h : PE w1 W t c b k m p) (x : Int) : PE w1 (W.setCell ⟨w1.heap.size, 3, none⟩ (.int .i64 x)) t c b x m p := ⟨heap_setCell_same W _ 3 _ _ _ h.en, h.be.setCell (p := ⟨w1.heap.size, 3, none⟩) (Nat.le_refl _) _⟩
theorem PE.set4 (h : PE w1 W t c b k m p) (x : ByteArray) : PE w1 (W.setCell ⟨w1.heap.size, 4, none⟩ (.string x)) t c b k x p := ⟨heap_setCell_same W _ 4 _ _ _ h.en, h.be.setCell (p := ⟨w1.heap.size, 4, none⟩) (Nat.le_refl _) _⟩
theorem PE.set5 (h : PE w1 W t c b k m p) (x : ByteArray) : PE w1 (W.setCell ⟨w1.heap.size, 5, none⟩ (.string x)) t c b k m x := ⟨heap_setCell_same W _ 5 _ _ _ h.en, h.be.setCell (p := ⟨w1.heap.size, 5, none⟩) (Nat.le_refl _) _⟩
end
set_option maxHeartbeats 4000000 in
theorem rparse1_any (s : ByteArray) (w : World) (hs : s.size ≤ 1048576) : Calls Tryz.prog 9 #[.string s] w fun e w' => PrsR s e ∧ Below w.heap.size w w' := by
  obtain ⟨W0, hW0⟩ : ∃ W0, W0 = w.alloc (.cells #[.int .i64 0, .int .i64 0, .int .i64 0, .int .i64 0, .string ⟨#[]⟩, .string ⟨#[]⟩] 23) := ⟨_, rfl⟩
  have HB0 : Vl (Below w.heap.size w W0) := by rw [hW0]; exact (Below.refl _ w).alloc (Nat.le_refl _) _
  have HZ0 : Vl (EnB W0 w.heap.size 0 0 0 0 ⟨#[]⟩ ⟨#[]⟩) := by rw [hW0]; exact heap_alloc_new w _
  have HS := vl (rcut_any s 32 W0 hs)
  go_enter Tryz.func9, Tryz.ntmps9
  go_wp2_with fail
  rw [← hW0]
  refine HS.out.mono ?_
  rintro _ w1 ⟨⟨VS, sa, sc, rfl, hO, hcut, hsz⟩, hb1⟩
  have HCUT := vl hcut
  have HO := vl hO
  have HZ1 := vl (HZ0.out.on hb1)
  have HB1 := vl (HB0.out.trans (hb1.mono HB0.out.size))
  clear hcut hO HS hW0 hb1 HZ0 HB0
  by_cases h6 : VS.length = 6
  · obtain ⟨x0, x1, x2, x3, x4, x5, hVS⟩ := list6h h6
    obtain ⟨g, rfl, hcap, _, hlg, _⟩ := srow_form6 HO.out (fun e => by rw [e] at h6; simp at h6)
    have c0 : w1.cell? ⟨g, 0, none⟩ = some (.string x0) := by rw [srow_cell6 HO.out 0 (by omega), hVS]; rfl
    have z0 : x0.size ≤ 140737488351232 := Nat.le_trans (hsz x0 (by rw [hVS]; simp)) (by omega)
    have c1 : w1.cell? ⟨g, 1, none⟩ = some (.string x1) := by rw [srow_cell6 HO.out 1 (by omega), hVS]; rfl
    have z1 : x1.size ≤ 140737488351232 := Nat.le_trans (hsz x1 (by rw [hVS]; simp)) (by omega)
    have c2 : w1.cell? ⟨g, 2, none⟩ = some (.string x2) := by rw [srow_cell6 HO.out 2 (by omega), hVS]; rfl
    have z2 : x2.size ≤ 140737488351232 := Nat.le_trans (hsz x2 (by rw [hVS]; simp)) (by omega)
    have c3 : w1.cell? ⟨g, 3, none⟩ = some (.string x3) := by rw [srow_cell6 HO.out 3 (by omega), hVS]; rfl
    have z3 : x3.size ≤ 140737488351232 := Nat.le_trans (hsz x3 (by rw [hVS]; simp)) (by omega)
    have c4 : w1.cell? ⟨g, 4, none⟩ = some (.string x4) := by rw [srow_cell6 HO.out 4 (by omega), hVS]; rfl
    have z4 : x4.size ≤ 140737488351232 := Nat.le_trans (hsz x4 (by rw [hVS]; simp)) (by omega)
    have c5 : w1.cell? ⟨g, 5, none⟩ = some (.string x5) := by rw [srow_cell6 HO.out 5 (by omega), hVS]; rfl
    have z5 : x5.size ≤ 140737488351232 := Nat.le_trans (hsz x5 (by rw [hVS]; simp)) (by omega)
    have HC6 : Vl (cut1 32 (unums s) = [unums x0, unums x1, unums x2, unums x3, unums x4, unums x5]) := vl (by rw [← HCUT.out, hVS]; rfl)
    rw [h6] at hcap ⊢
    clear HCUT HO hVS h6 hsz
    have hl6 : ((6 : Nat) : Int) = 6 := rfl
    obtain ⟨W2, hW2⟩ : ∃ W2, W2 = w1.alloc (.cells #[.int .i64 0, .int .i64 0, .int .i64 0, .int .i64 0, .string ⟨#[]⟩, .string ⟨#[]⟩] 23) := ⟨_, rfl⟩
    have HP2 : Vl (PE w1 W2 0 0 0 0 ⟨#[]⟩ ⟨#[]⟩) := by rw [hW2]; exact vl ⟨heap_alloc_new w1 _, (Below.refl _ w1).alloc (Nat.le_refl _) _⟩
    go_upto_region 5 with fail
    rw [← hW2]
    clear hW2
    have q0 := (HP2.out.be.cell (p := ⟨g, 0, none⟩) hlg).trans c0
    obtain ⟨d0, d1, d2, d3, d4, d5⟩ := HP2.out.en.cells
    have cf := HP2.out.en.frozen
    have HN0 := vl (rnum_any x0 W2 z0)
    go_wp2_with fail
    refine HN0.out.mono ?_
    rintro _ _ ⟨⟨v0, rfl, n0⟩, rfl⟩
    have N0 := vl n0
    clear n0 HN0
    go_upto_region 6 with fail
    obtain ⟨W3, hW3⟩ : ∃ W', W' = W2.setCell ⟨w1.heap.size, 0, none⟩ (.int .i64 v0) := ⟨_, rfl⟩
    rw [← hW3]
    have HP3 := vl (HP2.out.set0 v0)
    rw [← hW3] at HP3
    clear hW3 HP2 q0 d0 d1 d2 d3 d4 d5 cf
    have q1 := (HP3.out.be.cell (p := ⟨g, 1, none⟩) hlg).trans c1
    obtain ⟨d0, d1, d2, d3, d4, d5⟩ := HP3.out.en.cells
    have cf := HP3.out.en.frozen
    have HN1 := vl (rnum_any x1 W3 z1)
    go_wp2_with fail
    refine HN1.out.mono ?_
    rintro _ _ ⟨⟨v1, rfl, n1⟩, rfl⟩
    have N1 := vl n1
    clear n1 HN1
    go_upto_region 7 with fail
    obtain ⟨W4, hW4⟩ : ∃ W', W' = W3.setCell ⟨w1.heap.size, 1, none⟩ (.int .i64 v1) := ⟨_, rfl⟩
    rw [← hW4]
    have HP4 := vl (HP3.out.set1 v1)
    rw [← hW4] at HP4
    clear hW4 HP3 q1 d0 d1 d2 d3 d4 d5 cf
    have q2 := (HP4.out.be.cell (p := ⟨g, 2, none⟩) hlg).trans c2
    obtain ⟨d0, d1, d2, d3, d4, d5⟩ := HP4.out.en.cells
    have cf := HP4.out.en.frozen
    have HN2 := vl (rnum_any x2 W4 z2)
    go_wp2_with fail
    refine HN2.out.mono ?_
    rintro _ _ ⟨⟨v2, rfl, n2⟩, rfl⟩
    have N2 := vl n2
    clear n2 HN2
    go_upto_region 8 with fail
    obtain ⟨W5, hW5⟩ : ∃ W', W' = W4.setCell ⟨w1.heap.size, 2, none⟩ (.int .i64 v2) := ⟨_, rfl⟩
    rw [← hW5]
    have HP5 := vl (HP4.out.set2 v2)
    rw [← hW5] at HP5
    clear hW5 HP4 q2 d0 d1 d2 d3 d4 d5 cf
    have q3 := (HP5.out.be.cell (p := ⟨g, 3, none⟩) hlg).trans c3
    obtain ⟨d0, d1, d2, d3, d4, d5⟩ := HP5.out.en.cells
    have cf := HP5.out.en.frozen
    have HN3 := vl (rnum_any x3 W5 z3)
    go_wp2_with fail
    refine HN3.out.mono ?_
    rintro _ _ ⟨⟨v3, rfl, n3⟩, rfl⟩
    have N3 := vl n3
    clear n3 HN3
    go_upto_region 9 with fail
    obtain ⟨W6, hW6⟩ : ∃ W', W' = W5.setCell ⟨w1.heap.size, 3, none⟩ (.int .i64 v3) := ⟨_, rfl⟩
    rw [← hW6]
    have HP6 := vl (HP5.out.set3 v3)
    rw [← hW6] at HP6
    clear hW6 HP5 q3 d0 d1 d2 d3 d4 d5 cf
    have q4 := (HP6.out.be.cell (p := ⟨g, 4, none⟩) hlg).trans c4
    obtain ⟨d0, d1, d2, d3, d4, d5⟩ := HP6.out.en.cells
    have cf := HP6.out.en.frozen
    go_upto_region 10 with fail
    obtain ⟨W7, hW7⟩ : ∃ W', W' = W6.setCell ⟨w1.heap.size, 4, none⟩ (.string x4) := ⟨_, rfl⟩
    rw [← hW7]
    have HP7 := vl (HP6.out.set4 x4)
    rw [← hW7] at HP7
    clear hW7 HP6 q4 d0 d1 d2 d3 d4 d5 cf
    have q5 := (HP7.out.be.cell (p := ⟨g, 5, none⟩) hlg).trans c5
    obtain ⟨d0, d1, d2, d3, d4, d5⟩ := HP7.out.en.cells
    have cf := HP7.out.en.frozen
    go_upto_region 11 with fail
    obtain ⟨W8, hW8⟩ : ∃ W', W' = W7.setCell ⟨w1.heap.size, 5, none⟩ (.string x5) := ⟨_, rfl⟩
    rw [← hW8]
    have HP8 := vl (HP7.out.set5 x5)
    rw [← hW8] at HP8
    clear hW8 HP7 q5 d0 d1 d2 d3 d4 d5 cf
    obtain ⟨d0, d1, d2, d3, d4, d5⟩ := HP8.out.en.cells
    have HE := vl (rent_any v0 v1 v2 v3 x4 x5 W8 z4 z5)
    have HZ8 : Vl (EnB W8 w.heap.size 0 0 0 0 ⟨#[]⟩ ⟨#[]⟩) := vl ((HP8.out.be.block _ HZ1.out.lt).trans HZ1.out)
    have HB8 : Vl (Below w.heap.size w W8) := vl (HB1.out.trans (HP8.out.be.mono HB1.out.size))
    have HX8 := vl HP8.out.en
    have HYES := vl (fun h0 => rprs_yes HC6.out N0.out N1.out N2.out N3.out h0)
    have HNO := vl (fun h0 => rprs_no HC6.out N0.out N1.out N2.out N3.out h0)
    generalize w1.heap.size = n at *
    clear c0 c1 c2 c3 c4 c5 z0 z1 z2 z3 z4 z5 N0 N1 N2 N3 HC6 HP8 HZ1 HB1
    unfold entV at HE
    go_wp2_with fail
    refine HE.out.mono ?_
    rintro _ w9 ⟨rfl, hb9⟩
    have HB9 := vl (HB8.out.trans (hb9.mono HB8.out.size))
    have HZ9 := vl (HZ8.out.on hb9)
    have HX9 := vl (HX8.out.on hb9)
    clear hb9 HB8 HZ8 HX8 HE d0 d1 d2 d3 d4 d5
    by_cases h0 : chkE v0 v1 v2 v3 (unums x4) (unums x5) = 0
    · have HFIN : Vl (PrsR s (.returned (.tuple #[entV v0 v1 v2 v3 x4 x5, .bool true]))) := vl (Or.inl ⟨v0, v1, v2, v3, x4, x5, rfl, h0, HYES.out h0⟩)
      rw [h0]
      clear h0 HYES HNO
      obtain ⟨d0, d1, d2, d3, d4, d5⟩ := HX9.out.cells
      go_wp2_with (refine wpList_enstore _ rfl _ _ rfl w.heap.size _ _ _ _ v0 v1 v2 v3 _ _ x4 x5 rfl rfl HZ9.out ?_)
      intro wa hR hga
      have HBa : Vl (Below w.heap.size w wa) := vl (gbelow_grown HB9.out hga HB9.out.size (fun k hk => by cases hk; exact Nat.le_refl _))
      obtain ⟨y0, y1, y2, y3, y4, y5⟩ := hR.cells
      clear hR hga d0 d1 d2 d3 d4 d5
      go_wp2_with fail
      refine bodyPost_ret (v := .tuple #[entV v0 v1 v2 v3 x4 x5, .bool true]) (by simp [results, Tryz.results9, go_sem, entV, y0, y1, y2, y3, y4, y5]; try rfl) rfl ?_
      exact ⟨HFIN.out, HBa.out⟩
    · have HFIN : Vl (PrsR s (.returned (.tuple #[entV 0 0 0 0 ⟨#[]⟩ ⟨#[]⟩, .bool false]))) := vl (Or.inr ⟨rfl, HNO.out h0⟩)
      generalize chkE v0 v1 v2 v3 (unums x4) (unums x5) = E at *
      have h0' : (E == 0) = false := by simpa using h0
      clear HYES HNO
      go_wp2_with (refine wpList_enstore _ rfl _ _ rfl w.heap.size _ _ _ _ 0 0 0 0 _ _ ⟨#[]⟩ ⟨#[]⟩ rfl rfl HZ9.out ?_)
      intro wa hR hga
      have HBa : Vl (Below w.heap.size w wa) := vl (gbelow_grown HB9.out hga HB9.out.size (fun k hk => by cases hk; exact Nat.le_refl _))
      obtain ⟨y0, y1, y2, y3, y4, y5⟩ := hR.cells
      clear hR hga
      go_wp2_with fail
      refine bodyPost_ret (v := .tuple #[entV 0 0 0 0 ⟨#[]⟩ ⟨#[]⟩, .bool false]) (by simp [results, Tryz.results9, go_sem, entV, y0, y1, y2, y3, y4, y5]; try rfl) rfl ?_
      exact ⟨HFIN.out, HBa.out⟩
  · have HFIN : Vl (PrsR s (.returned (.tuple #[entV 0 0 0 0 ⟨#[]⟩ ⟨#[]⟩, .bool false]))) := vl (Or.inr ⟨rfl, rprs_no6 (by rw [← HCUT.out]; unfold unsOf; rw [List.length_map]; exact h6)⟩)
    have h6' : ¬ ((VS.length : Int) = 6) := by omega
    have h6b : ((VS.length : Int) == 6) = false := by simpa using h6'
    clear HCUT HO hsz
    go_wp2_with (refine wpList_enstore _ rfl _ _ rfl w.heap.size _ _ _ _ 0 0 0 0 _ _ ⟨#[]⟩ ⟨#[]⟩ rfl rfl HZ1.out ?_)
    intro wa hR hga
    have HBa : Vl (Below w.heap.size w wa) := vl (gbelow_grown HB1.out hga HB1.out.size (fun k hk => by cases hk; exact Nat.le_refl _))
    obtain ⟨y0, y1, y2, y3, y4, y5⟩ := hR.cells
    clear hR hga
    go_wp2_with fail
    refine bodyPost_ret (v := .tuple #[entV 0 0 0 0 ⟨#[]⟩ ⟨#[]⟩, .bool false]) (by simp [results, Tryz.results9, go_sem, entV, y0, y1, y2, y3, y4, y5]; try rfl) rfl ?_
    exact ⟨HFIN.out, HBa.out⟩
end Go.Proofs.YteohgkgahkkjlaaGreatDoor
