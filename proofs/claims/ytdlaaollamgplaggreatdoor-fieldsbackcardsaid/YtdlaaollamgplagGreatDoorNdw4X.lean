/-
  MESSAGES AS LINES: the developers' writer: Ask, where what stands ahead is right. No claim by itself.
-/
import Derived.Deep.DeepCutAuto
import Derived.Test.YtdlaaollamgplagGreatDoorNdw3X
namespace Go.Proofs.YtdlaaollamgplagGreatDoor
open Go Go.RowKit Go.Shelf
set_option maxRecDepth 100000
/-- The first line of a request. -/
theorem ask_first (m p : ByteArray) : unums (m ++ ⟨#[32]⟩ ++ p ++ ⟨#[32]⟩ ++ ⟨#[69, 68, 71, 69, 47, 49]⟩ ++ ⟨#[13, 10]⟩) = unums m ++ ([32] ++ (unums p ++ [32, 69, 68, 71, 69, 47, 49, 13, 10])) := by
  simp only [unums_app]
  rw [show unums ⟨#[32]⟩ = [32] from rfl, show unums ⟨#[69, 68, 71, 69, 47, 49]⟩ = [69, 68, 71, 69, 47, 49] from rfl, show unums ⟨#[13, 10]⟩ = [13, 10] from rfl]
  simp
set_option maxHeartbeats 4000000 in
theorem nask_good (q : RqM) (w : World) (h : RqIn w q) (hT : NLaid w) (hm : muchB q.fn q.bn = false) (ht : tokL (unums q.m) = true) (hp : wordL (unums q.p) = true) :
    Calls Tryz.prog 42 #[q.val] w fun e w' => ∃ v, e = .returned (.tuple #[v, errW (askE q.rq)]) ∧ UOwn w' w.heap.size v (askOut q.rq) ∧ Below w.heap.size w w' := by
  have hparts := ask_parts h
  rw [hm, if_neg (by simp), ht, hp] at hparts
  simp only [true_and] at hparts
  have HQ := vl h
  have HALL : Vl (askE q.rq = 0 → askL q.rq = unums q.m ++ ([32] ++ (unums q.p ++ [32, 69, 68, 71, 69, 47, 49, 13, 10])) ++ lineOf (hostN, unums q.h) ++ linesL (fdsOf q.FL) ++ tailL q.B) := fun _ => by
    unfold askL RqM.rq edgeHost lineOf hostN
    simp
  obtain ⟨m, p, ho, fa, fn, fc, ba, bn, bc, FL, B⟩ := q
  obtain ⟨h1, h2, h3, ⟨h4, h5⟩, ⟨h6, h7, h8⟩, h9⟩ := h
  simp only at h1 h2 h3 h4 h5 h6 h7 h8 h9 hparts hm ht hp HALL
  have hmm := of_decide_eq_false hm
  have hfl := h1.len
  have hbl := h2.len
  have sm : m.size ≤ 400 := by have := (tok_ok ht).2.1; rwa [unums_len] at this
  have sp : p.size ≤ 400 := by have := (word_ok hp).2.1; rwa [unums_len] at this
  obtain ⟨W1, hW1⟩ : ∃ W1, w.alloc (.cells #[.string m, .string p, .string ho, .slice fa fn fc, .slice ba bn bc] 25) = W1 := ⟨_, rfl⟩
  have HW : Vl (Below w.heap.size w W1) := by rw [← hW1]; exact (Below.refl _ _).alloc (Nat.le_refl _) _
  have hx : W1.heap[w.heap.size]? = some (.cells #[.string m, .string p, .string ho, .slice fa fn fc, .slice ba bn bc] 25 (0, 0)) := by rw [← hW1]; exact heap_alloc_new w _
  obtain ⟨c0, c1, c2, c3, c4⟩ := q5_cell hx
  have hlt : w.heap.size < W1.heap.size := (Array.getElem?_eq_some_iff.1 hx).1
  have HM := vl (ntoo_any fa ba fn fc bn bc W1)
  rw [hm] at HM
  obtain ⟨EA, hEA⟩ : ∃ EA, askE (RqM.rq ⟨m, p, ho, fa, fn, fc, ba, bn, bc, FL, B⟩) = EA := ⟨_, rfl⟩
  rw [hEA] at hparts HALL
  have HEA := vl hEA
  obtain ⟨AO, hAO⟩ : ∃ AO, askOut (RqM.rq ⟨m, p, ho, fa, fn, fc, ba, bn, bc, FL, B⟩) = AO := ⟨_, rfl⟩
  have HAO : Vl (EA ≠ 0 → AO = []) := fun he => by
    rw [← hAO]
    unfold askOut
    rw [if_neg (by rw [HEA.out]; exact he)]
  have HAO0 : Vl (EA = 0 → AO = unums m ++ ([32] ++ (unums p ++ [32, 69, 68, 71, 69, 47, 49, 13, 10])) ++ lineOf (hostN, unums ho) ++ linesL (fdsOf FL) ++ tailL B) := fun he => by
    rw [← hAO]
    unfold askOut
    rw [if_pos (by rw [HEA.out]; exact he)]
    exact HALL.out he
  rw [hEA, hAO]
  unfold RqM.val
  simp only
  have HW1 := vl hW1
  have HT := vl hT
  have HZ : Vl (∀ w1, Below W1.heap.size W1 w1 → w1.cell? ⟨w.heap.size, 0, none⟩ = some (.string m) ∧ w1.cell? ⟨w.heap.size, 1, none⟩ = some (.string p) ∧ w1.cell? ⟨w.heap.size, 2, none⟩ = some (.string ho) ∧ w1.cell? ⟨w.heap.size, 3, none⟩ = some (.slice fa fn fc) ∧ w1.cell? ⟨w.heap.size, 4, none⟩ = some (.slice ba bn bc)) := fun w1 hb => ⟨(hb.cell (p := ⟨w.heap.size, 0, none⟩) hlt).trans c0, (hb.cell (p := ⟨w.heap.size, 1, none⟩) hlt).trans c1, (hb.cell (p := ⟨w.heap.size, 2, none⟩) hlt).trans c2, (hb.cell (p := ⟨w.heap.size, 3, none⟩) hlt).trans c3, (hb.cell (p := ⟨w.heap.size, 4, none⟩) hlt).trans c4⟩
  have HBB : Vl (∀ w1, Below W1.heap.size W1 w1 → Below w.heap.size w w1) := fun w1 hb => HW.out.trans (hb.mono HW.out.size)
  have HTK := vl (ntoken_any m W1.drew h6)
  rw [ht] at HTK
  have HPF := vl (fun W => npathf_any W)
  have HPH : Vl (∀ (G : Value) (B : Nat) (W : World), MayF W B G ok2 → Calls Tryz.prog 102 #[formV 1 G, .string p] W fun e w' => e = .returned (.bool true) ∧ Below W.heap.size W w') := fun G B W hG => by
    have := nholds_any 1 G ok2 B p W hG h7
    rw [form_word, hp] at this
    exact this
  have HQF := vl (fun W => nplainf_any 1 W)
  have HQH : Vl (∀ W, Calls Tryz.prog 102 #[formV 1 (.func (.func 165) #[] #[]), .string ho] W fun e w' => e = .returned (.bool (formL ok3 1 (unums ho))) ∧ Below W.heap.size W w') := fun W => nholds_any 1 _ ok3 0 ho W (mayf_plain W 0) h8
  have HCF : Vl (∀ W, Below w.heap.size w W → Calls Tryz.prog 104 #[.slice fa fn fc] W fun e w' => e = .returned (errW (fldsE (fdsOf FL))) ∧ Below W.heap.size W w') := fun W hb => ncheckf_any fa fn fc FL W (h1.below hb) h4 h9
  obtain ⟨b3, hb3⟩ : ∃ b3, formL ok3 1 (unums ho) = b3 := ⟨_, rfl⟩
  rw [hb3] at HQH hparts
  have HB3 := vl hb3
  have HF1 := vl h1
  have HBo := vl h2
  have HNI := vl h3
  unfold formV at HPF HPH HQF HQH
  clear hW1 hx hEA hAO hb3 h1 h2 h3 h6 h7 h8 h9 hT HALL hm ht hp
  go_enter Tryz.func42, Tryz.ntmps42
  go_wp2_with fail
  try rw [HW1.out]
  clear HW1
  refine HM.out.mono ?_
  rintro e w' ⟨rfl, rfl⟩
  go_wp2_with fail
  go_region_held3 (fun w1 => w1.cell? ⟨w.heap.size, 0, none⟩ = some (.string m) ∧ w1.cell? ⟨w.heap.size, 1, none⟩ = some (.string p) ∧ w1.cell? ⟨w.heap.size, 2, none⟩ = some (.string ho))
    (first
      | go_keep
      | (have hz := HZ.out _ hbg; with_reducible exact ⟨hz.1, hz.2.1, hz.2.2.1⟩)
      | (have hz := HZ.out _ hbf; with_reducible exact ⟨hz.1, hz.2.1, hz.2.2.1⟩)
      | (have hz := HZ.out _ hbd; with_reducible exact ⟨hz.1, hz.2.1, hz.2.2.1⟩)
      | (have hz := HZ.out _ hbb; with_reducible exact ⟨hz.1, hz.2.1, hz.2.2.1⟩)
      | (have hz := HZ.out _ hba; with_reducible exact ⟨hz.1, hz.2.1, hz.2.2.1⟩))
    (first
      | (go_at_call 100; refine HTK.out.mono ?_; rintro e wa ⟨rfl, ha0⟩; have hba := (Below.refl _ W1).drew.trans ha0)
      | (go_at_call 101; refine (HPF.out _).mono ?_; rintro e wb ⟨G, rfl, hG, hb0⟩; have hbb := hba.trans (hb0.mono hba.size))
      | (go_at_call 103; refine (HQF.out _).mono ?_; rintro e wf ⟨rfl, hf0⟩; have hbf := hbd.trans (hf0.mono hbd.size))
      | (go_at_call 102; have hbg0 := hbf.size; refine (HQH.out _).mono ?_; rintro e wg ⟨rfl, hg0⟩; have hbg := hbf.trans (hg0.mono hbg0))
      | (go_at_call 102; refine (HPH.out G _ _ hG).mono ?_; rintro e wd ⟨rfl, hd0⟩; have hbd := hbb.trans (hd0.mono hbb.size)))
  have hbw := HBB.out _ hbg
  obtain ⟨g0, g1, g2, g3, g4⟩ := HZ.out _ hbg
  have HBG := vl hbg
  have HBW := vl hbw
  clear HTK HPF HPH HQF HQH hba hbb hbd hbf hbg hG ha0 hb0 hd0 hf0 hg0 hbg0 hbw c0 c1 c2 c3 c4 hlt HM
  cases b3 with
  | false =>
    simp only [Bool.false_eq_true, if_false] at hparts
    have HX := vl hparts
    have HN := vl (HAO.out (by omega))
    clear hparts HAO HAO0 HZ HBB HCF
    go_wp2
    go_ret2
    exact ⟨_, by rw [HX.out]; rfl, Or.inl ⟨rfl, HN.out⟩, HBW.out⟩
  | true =>
    simp only [if_true] at hparts
    have HC := vl (HCF.out wg HBW.out)
    rw [← hparts] at HC
    have HPT := vl hparts
    clear hparts HCF
    by_cases hE : EA = 0
    · subst hE
      rw [errW_0] at HC
      have HN := vl (HAO0.out rfl)
      have sh : ho.size ≤ 400 := by
        have h5 := HB3.out
        rw [form_plain, Bool.and_eq_true] at h5
        have := (plain_ok h5.1).1
        rwa [unums_len] at this
      clear HAO HAO0
      go_wp2_with fail
      refine HC.out.mono ?_
      rintro e w2 ⟨rfl, hb2⟩
      have hbW2 := HBG.out.trans (hb2.mono HBG.out.size)
      obtain ⟨k0, k1, k2, k3, k4⟩ := HZ.out _ hbW2
      have HB2 := vl (HBB.out _ hbW2)
      have HF := vl (ask_first m p)
      have hsz : (m ++ ⟨#[32]⟩ ++ p ++ ⟨#[32]⟩ ++ ⟨#[69, 68, 71, 69, 47, 49]⟩ ++ ⟨#[13, 10]⟩ : ByteArray).size ≤ 1000 := by
        rw [← unums_len, HF.out]
        simp [unums_len]
        omega
      obtain ⟨v3, w3, hcv, ho3, hb3⟩ := conv_val (m ++ ⟨#[32]⟩ ++ p ++ ⟨#[32]⟩ ++ ⟨#[69, 68, 71, 69, 47, 49]⟩ ++ ⟨#[13, 10]⟩) w2 (by omega)
      rw [HF.out] at ho3
      have hbase : w.heap.size ≤ w2.heap.size := HB2.out.size
      have hltw : w.heap.size < w2.heap.size := blk_of k0
      have j2 : w3.cell? ⟨w.heap.size, 2, none⟩ = some (.string ho) := (hb3.cell (p := ⟨w.heap.size, 2, none⟩) hltw).trans k2
      have hL3 : (unums m ++ ([32] ++ (unums p ++ [32, 69, 68, 71, 69, 47, 49, 13, 10]))).length ≤ 1000 := by rw [← HF.out, unums_len]; exact hsz
      have HAP := vl (napf_any w2.heap.size v3 _ ⟨#[104, 111, 115, 116]⟩ ho w3 ho3 (by omega) (by decide) (by omega) hb3.size)
      have HB3' : Vl (Below w.heap.size w w3) := HB2.out.trans (hb3.mono hbase)
      have HK3 : Vl (∀ W, Below w2.heap.size w3 W → W.cell? ⟨w.heap.size, 3, none⟩ = some (.slice fa fn fc) ∧ W.cell? ⟨w.heap.size, 4, none⟩ = some (.slice ba bn bc) ∧ Below w.heap.size w W ∧ w2.heap.size ≤ W.heap.size ∧ NLaid W) := fun W hb => by
        have hw : Below w.heap.size w W := HB3'.out.trans (hb.mono hbase)
        have e3 := (hb.cell (p := ⟨w.heap.size, 3, none⟩) hltw).trans ((hb3.cell (p := ⟨w.heap.size, 3, none⟩) hltw).trans k3)
        have e4 := (hb.cell (p := ⟨w.heap.size, 4, none⟩) hltw).trans ((hb3.cell (p := ⟨w.heap.size, 4, none⟩) hltw).trans k4)
        exact ⟨e3, e4, hw, Nat.le_trans hb3.size hb.size, HT.out.below hw⟩
      have HSZ := vl hb3.size
      clear ho3 hb3 hb2 hbW2 g0 g1 g2 g3 g4 HZ HBB HC
      go_wp2_with fail
      refine HAP.out.mono ?_
      rintro e w4 ⟨v4, rfl, ho4, hb4⟩
      obtain ⟨l3, l4, hw4, hs4, hT4⟩ := HK3.out w4 hb4
      have hll := lines_le (l := fdsOf FL) HPT.out.symm
      rw [fds_len] at hll
      have hL4 : (unums m ++ ([32] ++ (unums p ++ [32, 69, 68, 71, 69, 47, 49, 13, 10])) ++ lineOf (unums ⟨#[104, 111, 115, 116]⟩, unums ho)).length ≤ 2000 := by
        rw [List.length_append]
        have : (lineOf (unums ⟨#[104, 111, 115, 116]⟩, unums ho)).length ≤ 408 := by
          unfold lineOf
          simp [unums_len]
          have : (⟨#[104, 111, 115, 116]⟩ : ByteArray).size = 4 := rfl
          omega
        omega
      have HFS := vl (napfs_any w w2.heap.size v4 _ fa fn fc FL w4 HF1.out hbase hw4 ho4 (by omega) (by omega) HPT.out.symm hs4)
      have HB4 := vl hb4
      clear ho4 hb4 hw4 hs4 hT4 HAP k0 k1 k2 k3 k4 j2
      go_wp2_with fail
      refine HFS.out.mono ?_
      rintro e w5 ⟨v5, rfl, ho5, hb5⟩
      have hb35 := HB4.out.trans hb5
      obtain ⟨l3', l4', hw5, hs5, hT5⟩ := HK3.out w5 hb35
      have hll5 : (unums m ++ ([32] ++ (unums p ++ [32, 69, 68, 71, 69, 47, 49, 13, 10])) ++ lineOf (unums ⟨#[104, 111, 115, 116]⟩, unums ho) ++ linesL (fdsOf FL)).length ≤ 100000 := by
        rw [List.length_append]
        omega
      obtain ⟨L5, hL5⟩ : ∃ L5, unums m ++ ([32] ++ (unums p ++ [32, 69, 68, 71, 69, 47, 49, 13, 10])) ++ lineOf (unums ⟨#[104, 111, 115, 116]⟩, unums ho) ++ linesL (fdsOf FL) = L5 := ⟨_, rfl⟩
      rw [hL5] at ho5 hll5
      have HN5 : Vl (AO = L5 ++ tailL B) := by
        show AO = _
        rw [HN.out, ← hL5]
        rfl
      have HO5 := vl ho5
      have HB5 := vl hb35
      clear HFS HN hL5 ho5 hb5 hb35 HB4 hll hL4 hL3 hsz HF
      by_cases hb0 : bn = 0
      · have hB : B = [] := List.eq_nil_of_length_eq_zero (by omega)
        subst hB
        subst hb0
        have HA5 := vl (HBo.out.below hw5)
        clear hw5
        go_wp2_with (at_builtin; refine wpList_uapps _ rfl _ _ rfl w2.heap.size _ _ rfl HO5.out _ rfl [13, 10] rfl (by simp; omega) hs5 ?_)
        intro v6 w6 ho6 hg6
        have HO6 := vl ho6
        have HB6 := vl (u_below_grown HB5.out hg6 hs5 (fun k hk => (HO5.out.base k hk).1))
        obtain ⟨_, l4'', hw6, hs6, _⟩ := HK3.out w6 HB6.out
        have HA6 := vl (HBo.out.below hw6)
        clear ho6 hg6 hw6
        go_wp2_with (at_builtin; refine wpList_uapp _ rfl _ _ rfl w2.heap.size _ _ rfl HO6.out ba 0 bc [] rfl HA6.out (fun h => (HNI.out h).2) (by simp; omega) hs6 ?_)
        intro v7 w7 ho7 hg7
        have HO7 := vl ho7
        have HB7 := vl (u_below_grown HB6.out hg7 hs6 (fun k hk => (HO6.out.base k hk).1))
        clear ho7 hg7
        go_wp2
        go_ret2
        refine ⟨_, rfl, ?_, HB3'.out.trans (HB7.out.mono hbase)⟩
        rw [HN5.out]
        have := HO7.out.mono hbase
        simpa [tailL] using this
      · have hb0' : (0 : Int) < (bn : Int) := by omega
        have hBne : B ≠ [] := fun e => by rw [e] at hbl; simp at hbl; omega
        have HAL := vl (napl_any w2.heap.size v5 L5 ba bn bc w5 HO5.out (by omega) (by omega) hs5 hT5)
        clear hw5
        go_wp2_with fail
        refine HAL.out.mono ?_
        rintro e wl ⟨vl5, rfl, hol, hbl5⟩
        have HOL := vl hol
        have HBL : Vl (Below w2.heap.size w3 wl) := HB5.out.trans hbl5
        obtain ⟨_, l4l, hwl, hsl, _⟩ := HK3.out wl HBL.out
        have hdl := decL_le bn
        have hlll : (L5 ++ lineOf (lengthN, decL bn)).length ≤ 200000 := by
          rw [List.length_append]
          unfold lineOf lengthN
          simp
          omega
        clear hol hbl5 HAL hwl
        go_wp2_with (at_builtin; refine wpList_uapps _ rfl _ _ rfl w2.heap.size _ _ rfl HOL.out _ rfl [13, 10] rfl (by simp at hlll ⊢; omega) hsl ?_)
        intro v6 w6 ho6 hg6
        have HO6 := vl ho6
        have HB6 := vl (u_below_grown HBL.out hg6 hsl (fun k hk => (HOL.out.base k hk).1))
        obtain ⟨_, l4'', hw6, hs6, _⟩ := HK3.out w6 HB6.out
        have HA6 := vl (HBo.out.below hw6)
        clear ho6 hg6 hw6
        go_wp2_with (at_builtin; refine wpList_uapp _ rfl _ _ rfl w2.heap.size _ _ rfl HO6.out ba bn bc B rfl HA6.out (fun h => (HNI.out h).2) (by simp at hlll ⊢; omega) hs6 ?_)
        intro v7 w7 ho7 hg7
        have HO7 := vl ho7
        have HB7 := vl (u_below_grown HB6.out hg7 hs6 (fun k hk => (HO6.out.base k hk).1))
        clear ho7 hg7
        go_wp2
        go_ret2
        refine ⟨_, rfl, ?_, HB3'.out.trans (HB7.out.mono hbase)⟩
        rw [HN5.out]
        have := HO7.out.mono hbase
        simpa [tailL, hBne, lenLine, lineOf, hbl] using this
    · rw [errW_ne hE] at HC
      have HX := vl hE
      have HN := vl (HAO.out hE)
      clear hE HAO HAO0
      go_wp2_with fail
      refine HC.out.mono ?_
      rintro e w2 ⟨rfl, hb2⟩
      have HB2 := vl (HBW.out.trans (hb2.mono HBW.out.size))
      clear hb2 HC
      go_wp2
      go_ret2
      exact ⟨_, by rw [errW_ne HX.out]; rfl, Or.inl ⟨rfl, HN.out⟩, HB2.out⟩
theorem nask_any : NAskSaid nld := by
  intro q w hd h
  by_cases hbad : muchB q.fn q.bn = true ∨ tokL (unums q.m) = false ∨ wordL (unums q.p) = false
  · exact nask_bad q w h hbad
  · have h1 : muchB q.fn q.bn = false := by cases hx : muchB q.fn q.bn; rfl; exact absurd (Or.inl hx) hbad
    have h2 : tokL (unums q.m) = true := by cases hx : tokL (unums q.m); exact absurd (Or.inr (Or.inl hx)) hbad; rfl
    have h3 : wordL (unums q.p) = true := by cases hx : wordL (unums q.p); exact absurd (Or.inr (Or.inr hx)) hbad; rfl
    exact nask_good q w h hd h1 h2 h3
end Go.Proofs.YtdlaaollamgplagGreatDoor
