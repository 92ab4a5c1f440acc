/-
  MESSAGES AS LINES: the developers' writer: Tell. No claim by itself.
-/
import Derived.Lib.MinMax
import Derived.Test.YtglmppadhlkkgagGreatDoorG12
import Derived.Test.YtglmppadhlkkgagGreatDoorUencX
namespace Go.Proofs.YtglmppadhlkkgagGreatDoor
open Go Go.RowKit Go.Shelf
set_option maxRecDepth 100000
theorem q3_cell {w : World} {B : Nat} {a b c : Value} {T : TypeId} (h : w.heap[B]? = some (.cells #[a, b, c] T (0, 0))) : w.cell? ⟨B, 0, none⟩ = some a ∧ w.cell? ⟨B, 1, none⟩ = some b ∧ w.cell? ⟨B, 2, none⟩ = some c := by simp [World.cell?, h]
theorem tell_parts {q : RpM} {w : World} (h : RpIn w q) (size : Int) : tellE q.rp size = if muchB q.fn q.bn = true then 4 else if q.code < 100 ∨ 599 < q.code ∨ size < 0 then 1 else fldsE (fdsOf q.FL) := by
  unfold tellE RpM.rp muchB
  simp only
  rw [fds_len, h.fields.len, h.body.len]
  by_cases hm : 40 < q.fn ∨ 8000 < q.bn
  · rw [if_pos hm, decide_eq_true hm, if_pos rfl]
  · rw [if_neg hm, decide_eq_false hm]
    simp only [Bool.false_eq_true, if_false]
/-- Rows that begin otherwise are two. -/
theorem own_ne {w : World} {b b' : Nat} {v v' : Value} {L L' : List Int} (h : UOwn w b v L) (h' : UOwn w b' v' L') (hl : 1 ≤ L.length) (hl' : 1 ≤ L'.length) (hne : L.getD 0 0 ≠ L'.getD 0 0) : ∀ k, v'.ownBlock = some k → v.ownBlock ≠ some k := by
  intro k hk e
  rcases h with ⟨rfl, _⟩ | ⟨g, cap, rfl, _, _, _, _, h5, _⟩
  · cases e
  · rcases h' with ⟨rfl, _⟩ | ⟨g', cap', rfl, _, _, _, _, h5', _⟩
    · cases hk
    · cases e
      cases hk
      have e1 := h5 0 (by omega)
      have e2 := h5' 0 (by omega)
      rw [e1] at e2
      simp only [Option.some.injEq, Value.int.injEq, true_and] at e2
      exact hne e2
theorem hex_head : ∀ n : Nat, (hexL n).getD 0 0 ≠ 69 := by
  intro n
  induction n using Nat.strongRecOn with
  | _ n ih =>
    by_cases h : n < 16
    · rw [hexL_one h]
      simp [hx]
      split <;> omega
    · rw [hexL_more h]
      have := ih (n / 16) (by omega)
      have hp := hexL_pos (n / 16)
      rw [List.getD, List.getElem?_append_left (by omega)]
      exact this
theorem chunk_head {s : Nat} (hs : 1 ≤ s) (B : List Int) : 1 ≤ (chunkL s B).length ∧ (chunkL s B).getD 0 0 ≠ 69 := by
  by_cases hB : B = []
  · subst hB
    show 1 ≤ endL.length ∧ endL.getD 0 0 ≠ 69
    exact ⟨by decide, by decide⟩
  · rw [chunk_more hs hB]
    unfold piece
    have hp := hexL_pos (B.take s).length
    refine ⟨by simp; omega, ?_⟩
    rw [List.append_assoc, List.getD, List.getElem?_append_left (by omega)]
    exact hex_head _
theorem tell_first (s : ByteArray) : unums (⟨#[69, 68, 71, 69, 47, 49, 32]⟩ ++ s ++ ⟨#[13, 10]⟩) = edgeSp ++ (unums s ++ [13, 10]) := by
  simp only [unums_app]
  rw [show unums ⟨#[69, 68, 71, 69, 47, 49, 32]⟩ = edgeSp from rfl, show unums ⟨#[13, 10]⟩ = [13, 10] from rfl]
  simp
set_option maxHeartbeats 8000000 in
theorem ntell_any : NTellSaid nld := by
  intro q size w hT h hi
  have hparts := tell_parts h size
  have HALL : Vl (∀ cd : Nat, q.code = cd → tellL q.rp size = edgeSp ++ (decL cd ++ [13, 10]) ++ linesL (fdsOf q.FL) ++ tellTail q.B size) := fun cd hc => by
    unfold tellL RpM.rp
    simp [hc]
  obtain ⟨code, fa, fn, fc, ba, bn, bc, FL, B⟩ := q
  obtain ⟨h0, h1, h2, h3, ⟨h4, h5⟩, h9⟩ := h
  simp only at h0 h1 h2 h3 h4 h5 h9 hparts HALL
  obtain ⟨i1, i2⟩ := hi
  obtain ⟨j1, j2⟩ := h0
  have hfl := h1.len
  have hbl := h2.len
  obtain ⟨W1, hW1⟩ : ∃ W1, w.alloc (.cells #[.int .i64 code, .slice fa fn fc, .slice ba bn bc] 27) = W1 := ⟨_, rfl⟩
  have HW : Vl (Below w.heap.size w W1) := by rw [← hW1]; exact (Below.refl _ _).alloc (Nat.le_refl _) _
  have hx : W1.heap[w.heap.size]? = some (.cells #[.int .i64 code, .slice fa fn fc, .slice ba bn bc] 27 (0, 0)) := by rw [← hW1]; exact heap_alloc_new w _
  obtain ⟨c0, c1, c2⟩ := q3_cell hx
  have hlt : w.heap.size < W1.heap.size := (Array.getElem?_eq_some_iff.1 hx).1
  have HM := vl (ntoo_any fa ba fn fc bn bc W1)
  obtain ⟨EA, hEA⟩ : ∃ EA, tellE (RpM.rp ⟨code, fa, fn, fc, ba, bn, bc, FL, B⟩) size = EA := ⟨_, rfl⟩
  rw [hEA] at hparts
  have HEA := vl hEA
  obtain ⟨AO, hAO⟩ : ∃ AO, tellOut (RpM.rp ⟨code, fa, fn, fc, ba, bn, bc, FL, B⟩) size = AO := ⟨_, rfl⟩
  have HAO : Vl (EA ≠ 0 → AO = []) := fun he => by
    rw [← hAO]
    unfold tellOut
    rw [if_neg (by rw [HEA.out]; exact he)]
  have HAO0 : Vl (EA = 0 → ∀ cd : Nat, code = cd → AO = edgeSp ++ (decL cd ++ [13, 10]) ++ linesL (fdsOf FL) ++ tellTail B size) := fun he cd hc => by
    rw [← hAO]
    unfold tellOut
    rw [if_pos (by rw [HEA.out]; exact he)]
    exact HALL.out cd hc
  rw [hEA, hAO]
  unfold RpM.val
  simp only
  have HW1 := vl hW1
  have HT := vl (show NLaid w from hT)
  have HZ : Vl (∀ w1, Below W1.heap.size W1 w1 → w1.cell? ⟨w.heap.size, 0, none⟩ = some (.int .i64 code) ∧ w1.cell? ⟨w.heap.size, 1, none⟩ = some (.slice fa fn fc) ∧ w1.cell? ⟨w.heap.size, 2, none⟩ = some (.slice ba bn bc)) := fun w1 hb => ⟨(hb.cell (p := ⟨w.heap.size, 0, none⟩) hlt).trans c0, (hb.cell (p := ⟨w.heap.size, 1, none⟩) hlt).trans c1, (hb.cell (p := ⟨w.heap.size, 2, none⟩) hlt).trans c2⟩
  have HBB : Vl (∀ w1, Below W1.heap.size W1 w1 → Below w.heap.size w w1) := fun w1 hb => HW.out.trans (hb.mono HW.out.size)
  have HCF := vl (ncheckf_any fa fn fc FL W1 (h1.below HW.out) h4 h9)
  have HF1 := vl h1
  have HBo := vl h2
  have HNI := vl h3
  clear hW1 hx hEA hAO h1 h2 h3 h9 hT HALL
  by_cases hm : muchB fn bn = true
  · rw [if_pos hm] at hparts
    rw [hm] at HM
    have HX := vl hparts
    have HN := vl (HAO.out (by omega))
    clear hparts HAO HAO0
    go_enter Tryz.func54, Tryz.ntmps54
    go_wp2_with fail
    try rw [HW1.out]
    refine HM.out.mono ?_
    rintro e w' ⟨rfl, rfl⟩
    go_wp2
    go_ret2
    exact ⟨_, by rw [HX.out]; rfl, Or.inl ⟨rfl, HN.out⟩, HW.out⟩
  have hm' : muchB fn bn = false := by simpa using hm
  have hmm := of_decide_eq_false hm'
  rw [hm'] at HM hparts
  simp only [Bool.false_eq_true, if_false] at hparts
  by_cases hr : code < 100 ∨ 599 < code ∨ size < 0
  · rw [if_pos hr] at hparts
    have HX := vl hparts
    have HN := vl (HAO.out (by omega))
    clear hparts HAO HAO0
    by_cases r1 : code < 100
    · go_enter Tryz.func54, Tryz.ntmps54
      go_wp2_with fail
      try rw [HW1.out]
      refine HM.out.mono ?_
      rintro e w' ⟨rfl, rfl⟩
      go_wp2
      go_ret2
      exact ⟨_, by rw [HX.out]; rfl, Or.inl ⟨rfl, HN.out⟩, HW.out⟩
    · by_cases r2 : 599 < code
      · go_enter Tryz.func54, Tryz.ntmps54
        go_wp2_with fail
        try rw [HW1.out]
        refine HM.out.mono ?_
        rintro e w' ⟨rfl, rfl⟩
        go_wp2
        go_ret2
        exact ⟨_, by rw [HX.out]; rfl, Or.inl ⟨rfl, HN.out⟩, HW.out⟩
      · have r3 : size < 0 := by omega
        clear hr
        go_enter Tryz.func54, Tryz.ntmps54
        go_wp2_with fail
        try rw [HW1.out]
        refine HM.out.mono ?_
        rintro e w' ⟨rfl, rfl⟩
        go_wp2
        go_ret2
        exact ⟨_, by rw [HX.out]; rfl, Or.inl ⟨rfl, HN.out⟩, HW.out⟩
  rw [if_neg hr] at hparts
  have r1 : ¬ code < 100 := by omega
  have r2 : ¬ 599 < code := by omega
  have r3 : ¬ size < 0 := by omega
  have r0 : 0 ≤ size := by omega
  rw [← hparts] at HCF
  have HPT := vl hparts
  obtain ⟨cd, rfl⟩ : ∃ cd : Nat, code = cd := ⟨code.toNat, by omega⟩
  clear hr hparts hm hm'
  by_cases hE : EA = 0
  case neg =>
    rw [errW_ne hE] at HCF
    have HX := vl hE
    have HN := vl (HAO.out hE)
    clear hE HAO HAO0
    go_enter Tryz.func54, Tryz.ntmps54
    go_wp2_with fail
    try rw [HW1.out]
    refine HM.out.mono ?_
    rintro e w' ⟨rfl, rfl⟩
    go_wp2_with fail
    refine HCF.out.mono ?_
    rintro e w2 ⟨rfl, hb2⟩
    have HB2 := vl (HBB.out _ hb2)
    clear hb2 HCF
    go_wp2
    go_ret2
    exact ⟨_, by rw [errW_ne HX.out]; rfl, Or.inl ⟨rfl, HN.out⟩, HB2.out⟩
  subst hE
  rw [errW_0] at HCF
  have HN := vl (HAO0.out rfl cd rfl)
  clear HAO HAO0
  go_enter Tryz.func54, Tryz.ntmps54
  go_wp2_with fail
  try rw [HW1.out]
  refine HM.out.mono ?_
  rintro e w' ⟨rfl, rfl⟩
  go_wp2_with fail
  refine HCF.out.mono ?_
  rintro e w2 ⟨rfl, hb2⟩
  obtain ⟨k0, k1, k2⟩ := HZ.out _ hb2
  have HB2 := vl (HBB.out _ hb2)
  have HI := vl (nitoa_any cd (by omega) w2 (HT.out.below HB2.out))
  have HB2W := vl hb2
  clear c0 c1 c2 hb2 HCF HM HW1
  go_wp2_with fail
  refine HI.out.mono ?_
  rintro e w2' ⟨s, rfl, hs, hb2'⟩
  have hB2' : Below W1.heap.size W1 w2' := HB2W.out.trans (hb2'.mono HB2W.out.size)
  have HB2a := vl (HBB.out _ hB2')
  obtain ⟨k0', k1', k2'⟩ := HZ.out _ hB2'
  have HF := vl (tell_first s)
  have hdl := decL_le cd
  have hss : s.size ≤ 1000 := by rw [← unums_len, hs]; omega
  have hsz : (⟨#[69, 68, 71, 69, 47, 49, 32]⟩ ++ s ++ ⟨#[13, 10]⟩ : ByteArray).size ≤ 2000 := by
    rw [← unums_len, HF.out]
    simp [unums_len, edgeSp]
    omega
  obtain ⟨v3, w3, hcv, ho3, hb3⟩ := conv_val (⟨#[69, 68, 71, 69, 47, 49, 32]⟩ ++ s ++ ⟨#[13, 10]⟩) w2' (by omega)
  rw [HF.out, hs] at ho3
  have hbase : w.heap.size ≤ w2'.heap.size := HB2a.out.size
  have hltw : w.heap.size < w2'.heap.size := blk_of k0'
  have HB3' : Vl (Below w.heap.size w w3) := HB2a.out.trans (hb3.mono hbase)
  have HK3 : Vl (∀ W, Below w2'.heap.size w3 W → W.cell? ⟨w.heap.size, 1, none⟩ = some (.slice fa fn fc) ∧ W.cell? ⟨w.heap.size, 2, none⟩ = some (.slice ba bn bc) ∧ Below w.heap.size w W ∧ w2'.heap.size ≤ W.heap.size ∧ NLaid W) := fun W hb => by
    have hw : Below w.heap.size w W := HB3'.out.trans (hb.mono hbase)
    have e3 := (hb.cell (p := ⟨w.heap.size, 1, none⟩) hltw).trans ((hb3.cell (p := ⟨w.heap.size, 1, none⟩) hltw).trans k1')
    have e4 := (hb.cell (p := ⟨w.heap.size, 2, none⟩) hltw).trans ((hb3.cell (p := ⟨w.heap.size, 2, none⟩) hltw).trans k2')
    exact ⟨e3, e4, hw, Nat.le_trans hb3.size hb.size, HT.out.below hw⟩
  obtain ⟨l1, l2, hw3, hs3, hT3⟩ := HK3.out w3 (Below.refl _ _)
  have hL3 : (edgeSp ++ (decL cd ++ [13, 10])).length ≤ 2000 := by rw [← hs, ← HF.out, unums_len]; exact hsz
  have HFS := vl (napfs_any w w2'.heap.size v3 _ fa fn fc FL w3 HF1.out hbase hw3 ho3 (by omega) (by omega) HPT.out.symm hs3)
  have hll := lines_le (l := fdsOf FL) HPT.out.symm
  rw [fds_len] at hll
  clear ho3 hb3 hb2' k0 k1 k2 k0' k1' k2' HI HZ HBB hw3
  go_wp2_with fail
  refine HFS.out.mono ?_
  rintro e w5 ⟨v5, rfl, ho5, hb5⟩
  obtain ⟨l1', l2', hw5, hs5, hT5⟩ := HK3.out w5 hb5
  have hll5 : (edgeSp ++ (decL cd ++ [13, 10]) ++ linesL (fdsOf FL)).length ≤ 100000 := by
    rw [List.length_append]
    omega
  obtain ⟨L5, hL5⟩ : ∃ L5, edgeSp ++ (decL cd ++ [13, 10]) ++ linesL (fdsOf FL) = L5 := ⟨_, rfl⟩
  rw [hL5] at ho5 hll5
  have HN5 : Vl (AO = L5 ++ tellTail B size) := by
    show AO = _
    rw [HN.out, ← hL5]
  have HL5 : Vl (edgeSp ++ (decL cd ++ [13, 10]) ++ linesL (fdsOf FL) = L5) := hL5
  have HO5 := vl ho5
  have HB5 := vl hb5
  clear HFS HN hL5 ho5 hb5 hll hL3 hsz HF hs hss l1 l2
  by_cases hz : size = 0
  · subst hz
    have HAL := vl (napl_any w2'.heap.size v5 L5 ba bn bc w5 HO5.out (by omega) (by omega) hs5 hT5)
    clear hw5
    go_wp2_with fail
    refine HAL.out.mono ?_
    rintro e wl ⟨vl5, rfl, hol, hbl5⟩
    have HOL := vl hol
    have HBL : Vl (Below w2'.heap.size w3 wl) := HB5.out.trans hbl5
    obtain ⟨_, l4l, hwl, hsl, _⟩ := HK3.out wl HBL.out
    have hdl2 := decL_le bn
    have hlll : (L5 ++ lineOf (lengthN, decL bn)).length ≤ 200000 := by
      rw [List.length_append]
      unfold lineOf lengthN
      simp
      omega
    clear hol hbl5 HAL hwl
    go_wp2_with (at_builtin; refine wpList_uapps _ rfl _ _ rfl w2'.heap.size _ _ rfl HOL.out _ rfl [13, 10] rfl (by simp at hlll ⊢; omega) hsl ?_)
    intro v6 w6 ho6 hg6
    have HO6 := vl ho6
    have HB6 := vl (u_below_grown HBL.out hg6 hsl (fun k hk => (HOL.out.base k hk).1))
    obtain ⟨_, l4'', hw6, hs6, _⟩ := HK3.out w6 HB6.out
    have HA6 := vl (HBo.out.below hw6)
    clear ho6 hg6 hw6
    go_wp2_with (at_builtin; refine wpList_uapp _ rfl _ _ rfl w2'.heap.size _ _ rfl HO6.out ba bn bc B rfl HA6.out (fun h => (HNI.out h).2) (by simp at hlll ⊢; omega) hs6 ?_)
    intro v7 w7 ho7 hg7
    have HO7 := vl ho7
    have HB7 := vl (u_below_grown HB6.out hg7 hs6 (fun k hk => (HO6.out.base k hk).1))
    clear ho7 hg7
    go_wp2
    go_ret2
    refine ⟨_, rfl, ?_, HB3'.out.trans (HB7.out.mono hbase)⟩
    rw [HN5.out]
    have := HO7.out.mono hbase
    simpa [tellTail, lenLine, lineOf, hbl] using this
  · have hzb : (size == 0) = false := by simpa using hz
    obtain ⟨n, hn⟩ : ∃ n : Nat, (if 8000 < size then 8000 else size.toNat) = n := ⟨_, rfl⟩
    have hn1 : 1 ≤ n ∧ n ≤ 8000 := by
      rw [← hn]
      split <;> omega
    have HCH : Vl (chunksF B (n : Int) = (0, chunkL n B)) := by
      show chunksF B (n : Int) = _
      unfold chunksF
      rw [if_neg (by omega), if_neg (by omega)]
      simp
    have HEN := vl (uenc_any ba bn bc B (n : Int) w5 (HBo.out.below hw5) ⟨by omega, by omega⟩ hT5.1)
    simp only [HCH.out, errW_0] at HEN
    have HTT : Vl (tellTail B size = codingN ++ (chunkedS ++ chunkL n B)) := by
      show tellTail B size = _
      unfold tellTail
      rw [if_neg hz, hn]
    have hmin : ∀ W, (Builtin.min_ #[3, 3] 3 #[.int .i64 size, .int .i64 8000]).run Tryz.prog W = .ok (.int .i64 (n : Int)) W := fun W => by
      rw [Lib.run_min_ints]
      congr 2
      rw [← hn]
      split <;> omega
    have HCB := vl (bytes_chunk hn1.1 B.length B (Nat.le_refl _) HBo.out.bytes)
    clear hw5 hz hn
    go_wp2_with fail
    refine HEN.out.mono ?_
    rintro e w6 ⟨vp, rfl, hop, hb6⟩
    have HOP := vl hop
    have HB6 : Vl (Below w2'.heap.size w3 w6) := HB5.out.trans (hb6.mono hs5)
    obtain ⟨_, _, hw6, hs6, _⟩ := HK3.out w6 HB6.out
    have HO6 := vl (HO5.out.below hb6)
    have HAF := vl (napf_grown w2'.heap.size v5 L5 ⟨#[99, 111, 100, 105, 110, 103]⟩ ⟨#[99, 104, 117, 110, 107, 101, 100]⟩ w6 HO6.out (by omega) (by decide) (by decide) hs6)
    have HS56 : Vl (w5.heap.size ≤ w6.heap.size) := hb6.size
    have hch := chunk_len_le hn1.1 B.length B (Nat.le_refl _)
    clear hop hb6 HEN hw6
    go_wp2_with fail
    refine HAF.out.mono ?_
    rintro e w7 ⟨v7, rfl, ho7, hb7, hg7⟩
    have HP7 := vl (HOP.out.grown hg7 (fun k hk e => by
      have h1 := (HOP.out.base k hk).1
      have h2 := (HO5.out.base k e).2
      omega))
    have HO7 := vl ho7
    have HB7 : Vl (Below w2'.heap.size w3 w7) := HB6.out.trans hb7
    obtain ⟨_, _, hw7, hs7, _⟩ := HK3.out w7 HB7.out
    have HHD : Vl (1 ≤ (L5 ++ lineOf (unums ⟨#[99, 111, 100, 105, 110, 103]⟩, unums ⟨#[99, 104, 117, 110, 107, 101, 100]⟩)).length ∧ (L5 ++ lineOf (unums ⟨#[99, 111, 100, 105, 110, 103]⟩, unums ⟨#[99, 104, 117, 110, 107, 101, 100]⟩)).getD 0 0 = 69) := by
      have h5 : ∃ r, L5 = 69 :: r := ⟨_, HL5.out.symm⟩
      obtain ⟨r, rfl⟩ := h5
      exact ⟨by simp, rfl⟩
    have HHC := vl (chunk_head hn1.1 B)
    have hl7 : (L5 ++ lineOf (unums ⟨#[99, 111, 100, 105, 110, 103]⟩, unums ⟨#[99, 104, 117, 110, 107, 101, 100]⟩)).length ≤ 200000 := by
      rw [List.length_append]
      have : (lineOf (unums ⟨#[99, 111, 100, 105, 110, 103]⟩, unums ⟨#[99, 104, 117, 110, 107, 101, 100]⟩)).length = 17 := by decide
      omega
    clear ho7 hb7 hg7 HAF HOP HO6 hw7
    go_wp2_with (at_builtin; refine wpList_uapps _ rfl _ _ rfl w2'.heap.size _ _ rfl HO7.out _ rfl [13, 10] rfl (by simp at hl7 ⊢; omega) hs7 ?_)
    intro v8 w8 ho8 hg8
    have HP8 := vl (HP7.out.grown hg8 (own_ne HO7.out HP7.out HHD.out.1 HHC.out.1 (by rw [HHD.out.2]; exact fun e => HHC.out.2 e.symm)))
    have HO8 := vl ho8
    have HB8 := vl (u_below_grown HB7.out hg8 hs7 (fun k hk => (HO7.out.base k hk).1))
    obtain ⟨_, _, hw8, hs8, _⟩ := HK3.out w8 HB8.out
    clear ho8 hg8 hw8
    obtain ⟨pa, pc, hvp, hpl, hpm⟩ := HP8.out.slice
    subst hvp
    have HPA := vl (HP8.out.arg HCB.out)
    have HPN : Vl (pa = none → pc = 0) := fun e => by
      rcases HP8.out with ⟨h1, h2⟩ | ⟨g, cap, h1, _⟩
      · simp only [Value.slice.injEq] at h1; exact h1.2.2
      · simp only [Value.slice.injEq] at h1; rw [e] at h1; cases h1.1
    obtain ⟨CL, hCL⟩ : ∃ CL, chunkL n B = CL := ⟨_, rfl⟩
    rw [hCL] at HPA hch HTT
    simp only [hCL]
    go_wp2_with (at_builtin; refine wpList_uapp _ rfl _ _ rfl w2'.heap.size _ _ rfl HO8.out pa CL.length pc CL rfl HPA.out HPN.out (by simp at hl7 ⊢; omega) hs8 ?_)
    intro v9 w9 ho9 hg9
    have HO9 := vl ho9
    have HB9 := vl (u_below_grown HB8.out hg9 hs8 (fun k hk => (HO8.out.base k hk).1))
    clear ho9 hg9
    go_wp2
    go_ret2
    refine ⟨_, rfl, ?_, HB3'.out.trans (HB9.out.mono hbase)⟩
    rw [HN5.out, HTT.out]
    have := HO9.out.mono hbase
    have e1 : L5 ++ (lineOf (unums ⟨#[99, 111, 100, 105, 110, 103]⟩, unums ⟨#[99, 104, 117, 110, 107, 101, 100]⟩) ++ 13 :: 10 :: CL) = L5 ++ (codingN ++ (chunkedS ++ CL)) := rfl
    rw [← e1]
    exact this
end Go.Proofs.YtglmppadhlkkgagGreatDoor
