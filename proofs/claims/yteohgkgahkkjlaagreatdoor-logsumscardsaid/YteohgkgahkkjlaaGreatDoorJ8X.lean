/-
  WHAT WAS DONE: Top, walked, over what slices.SortedFunc and maps.Keys do. No claim by itself.
-/
import Derived.Deep.DeepCutAuto
import Derived.Deep.CutBlock
import Derived.Lib.MinMax
import Derived.Test.YteohgkgahkkjlaaGreatDoorMI
import Derived.Test.YteohgkgahkkjlaaGreatDoorMJ
import Derived.Test.YteohgkgahkkjlaaGreatDoorG3
namespace Go.Proofs.YteohgkgahkkjlaaGreatDoor
open Go Go.RowKit Go.Maps Go.Sort
set_option maxRecDepth 100000
/-- What is asked of slices.SortedFunc over the keys of a map of paths. -/
def JSortedSaid : Prop := ∀ (kb bx mb nn : Nat) (D : JDat) (P : List (List UInt8)) (w : World), w.cell? ⟨kb, 0, none⟩ = some (.map (some mb)) → w.cell? ⟨bx, 0, none⟩ = some (.map (some mb)) → JOwn w mb nn D → JCnt D P → (∀ x ∈ P, x.length ≤ 400) → Maps.size D ≤ 1000 →
    Calls Tryz.prog 32 #[.func (.func 54) #[] #[.pointer (some ⟨kb, 0, none⟩)], .func (.func 34) #[] #[.pointer (some ⟨bx, 0, none⟩)]] w fun e w' => ∃ (v : Value) (K : List (List UInt8)), e = .returned v ∧ K.Nodup ∧ (∀ x, x ∈ K ↔ x ∈ P) ∧ K.Pairwise (topL (cnt P)) ∧ TxRow w' v K ∧ Below w.heap.size w w'
def JKeysSaid : Prop := ∀ (mb : Option Nat) (W : World), Calls Tryz.prog 33 #[.map mb] W fun e w' => e = .returned (.func (.func 54) #[] #[.pointer (some ⟨W.heap.size, 0, none⟩)]) ∧ w' = W.alloc (.cells #[.map mb] 65)
def pth (x : Et) : List UInt8 := x.p.data.toList
def pthL (L : List Et) : List (List UInt8) := L.map pth
theorem pthL_more {L : List Et} {k : Nat} (h : k < L.length) : pthL (L.take (k + 1)) = pthL (L.take k) ++ [pth (L.getD k etn)] := by
  unfold pthL
  rw [etake_more h, List.map_append]
  rfl
theorem pthL_all (L : List Et) : pthL (L.take L.length) = pthL L := by rw [List.take_length]
def topE (L : List Et) (many : Int) : Int := if 1 ≤ many ∧ many ≤ 100 then chkL L else 1
/-- What Top answers. -/
def TopA (L : List Et) (many : Int) (e : Ending) (w' : World) : Prop :=
  (topE L many ≠ 0 ∧ e = .returned (.tuple #[.slice none 0 0, errW (topE L many)]))
  ∨ (topE L many = 0 ∧ ∃ v T, e = .returned (.tuple #[v, .nilIface]) ∧ TopIs (pthL L) many.toNat T ∧ TxRow w' v T)
theorem word_short {p : ByteArray} (h : wordL (unums p) = true) : p.data.toList.length ≤ 400 := by
  have := word_len h
  rw [Array.length_toList]
  exact this
theorem pthL_short {L : List Et} (h : chkL L = 0) : ∀ x ∈ pthL L, x.length ≤ 400 := by
  intro x hx
  obtain ⟨e, he, rfl⟩ := List.mem_map.1 hx
  obtain ⟨i, hi, rfl⟩ := List.getElem_of_mem he
  have h1 := (chkL_ok h).2 i hi
  rw [List.getD, List.getElem?_eq_getElem hi] at h1
  exact word_short (chkE_ok h1).2.2.2.2.2
/-- A row of texts, cut. -/
theorem TxRow.below {w w' : World} {v : Value} {K : List (List UInt8)} (h : TxRow w v K) (hb : Below w.heap.size w w') : TxRow w' v K := by
  rcases h with h | ⟨g, c, h1, h2, h3, h4⟩
  · exact Or.inl h
  · exact Or.inr ⟨g, c, h1, h2, h3, fun t ht => (hb.cell (p := ⟨g, t, none⟩) (eblk_of_cell (h4 t ht))).trans (h4 t ht)⟩
set_option maxHeartbeats 8000000 in
theorem gtop_any (HSF : JSortedSaid) (HKF : JKeysSaid) (x : Option Addr) (len cap : Nat) (L : List Et) (many : Int) (w : World) (hA : EtArg w x len cap L) (hs : SzE L) :
    Calls Tryz.prog 14 #[.slice x len cap, .int .i64 many] w fun e w' => TopA L many e w' ∧ Below w.heap.size w w' := by
  have HW := vl (gwith2_any many 1 100)
  by_cases hm : 1 ≤ many ∧ many ≤ 100
  · have hd : decide ((1 : Int) ≤ many ∧ many ≤ 100) = true := decide_eq_true hm
    rw [hd] at HW
    have HE : Vl (topE L many = chkL L) := vl (by unfold topE; rw [if_pos hm])
    have HC := vl (gchka_any x len cap L w hA hs)
    have HFA := vl hA
    have HSZ := vl hs
    have HLN := vl hA.len
    have HSF' := vl HSF
    have HKF' := vl HKF
    clear hA hs hd HSF HKF
    obtain ⟨m1, m2⟩ := hm
    by_cases h0 : chkL L = 0
    · have hok := chkL_ok h0
      have hlen : len ≤ 1000 := by rw [HLN.out] at hok; exact hok.1
      have HSH := vl (pthL_short h0)
      have HFIN : Vl (∀ v T W, TopIs (pthL L) many.toNat T → TxRow W v T → TopA L many (.returned (.tuple #[v, .nilIface])) W) := vl (fun v T W h1 h2 => Or.inr ⟨HE.out.trans h0, v, T, rfl, h1, h2⟩)
      rw [h0, gerr_zero] at HC
      have hmm := @run_makeMap Tryz.prog
      clear hok h0 HE
      go_enter Tryz.func14, Tryz.ntmps14
      go_wp2_with (go_at_call 29; refine (HW.out _).mono ?_; rintro e w' ⟨rfl, rfl⟩)
      refine HC.out.mono ?_
      rintro _ w2 ⟨rfl, hb2⟩
      have HB2 := vl hb2
      clear hb2 HC HW
      obtain ⟨W3, hW3⟩ : ∃ W3, W3 = (w2.alloc (Obj.map #[] 0)).alloc (Obj.cells #[Value.map (some w2.heap.size)] 65) := ⟨_, rfl⟩
      obtain ⟨mb, hmb⟩ : ∃ mb, mb = w2.heap.size := ⟨_, rfl⟩
      have HB3 : Vl (Below w.heap.size w W3) := vl (by rw [hW3]; exact (HB2.out.alloc HB2.out.size _).alloc (Nat.le_trans HB2.out.size (by simp)) _)
      have HX3 : Vl (W3.cell? ⟨mb + 1, 0, none⟩ = some (.map (some mb))) := vl (by
        have h := heap_alloc_new (w2.alloc (Obj.map #[] 0)) (Obj.cells #[Value.map (some w2.heap.size)] 65)
        rw [World.size_alloc] at h
        rw [hW3, hmb]
        simp only [World.cell?, h]
        rfl)
      have HO3 : Vl (JOwn W3 mb 0 (.map [])) := vl (by
        rw [hW3, hmb]
        exact jown_below (World.ownsMap_made _ _ _ _) ((Below.refl _ _).alloc (Nat.le_refl _) _))
      have hmw : w.heap.size ≤ mb := by rw [hmb]; exact HB2.out.size
      go_upto_region 7 with fail
      rw [← hW3, ← hmb]
      clear hW3 hmb hmm HB2
      go_wp2_with fail
      go_loopw [23] (fun i wr => ∃ (k : Nat) (D : JDat), i = .int .i64 k ∧ k ≤ len ∧ Vl (JOwn wr mb k D) ∧ Vl (JCnt D (pthL (L.take k))) ∧ Vl (wr.cell? ⟨mb + 1, 0, none⟩ = some (.map (some mb))) ∧ Vl (Below w.heap.size w wr)) (fun i _ => len - (intOf i).toNat)
      case atStart => exact ⟨0, .map [], rfl, by omega, HO3, vl jcnt_nil, HX3, HB3⟩
      case round =>
        obtain ⟨k, D, rfl, hk, HO, HC, HX, HB⟩ := hrel
        by_cases hlt : k < len
        · have hlt' : (k : Int) < (len : Int) := by omega
          rcases HFA.out.below HB.out with ⟨h, _⟩ | ⟨g, off, rfl, hr2⟩
          · omega
          have c0 := hr2.h0 k hlt
          have c1 := hr2.h1 k hlt
          have c2 := hr2.h2 k hlt
          have c3 := hr2.h3 k hlt
          have c4 := hr2.h4 k hlt
          have c5 := hr2.h5 k hlt
          have hz := (HSZ.out k).2
          have HPM := vl (pthL_more (L := L) (k := k) (by rw [HLN.out]; exact hlt))
          have hcap := hr2.hcap
          have hmax := hr2.hmax
          unfold maxLen at hmax
          have hcl : cnt (pthL (L.take k)) (pth (L.getD k etn)) ≤ 1000 := by
            unfold cnt
            refine Nat.le_trans (List.length_filter_le _ _) ?_
            unfold pthL
            rw [List.length_map, List.length_take]
            omega
          have HPT := vl (jcnt_put HC.out (pth (L.getD k etn)))
          rw [← HPM.out] at HPT
          clear hr2 HPM
          unfold pth at HPT hcl
          generalize L.getD k etn = f at *
          obtain ⟨t, c, b, q, m, p⟩ := f
          simp only at c0 c1 c2 c3 c4 c5 hz hcl HPT
          have HZ3 : Vl (EnB (wr.alloc (.cells #[.int .i64 0, .int .i64 0, .int .i64 0, .int .i64 0, .string ⟨#[]⟩, .string ⟨#[]⟩] 23)) wr.heap.size 0 0 0 0 ⟨#[]⟩ ⟨#[]⟩) := vl (heap_alloc_new wr _)
          go_wp2_with (refine wpList_enstore _ rfl _ _ rfl wr.heap.size _ _ _ _ t c b q _ _ m p rfl rfl HZ3.out ?_)
          intro w4 hR4 hg4
          have hb4 : Below wr.heap.size wr w4 := gbelow_grown ((Below.refl _ wr).alloc (Nat.le_refl _) _) hg4 (by simp) (fun k hk => by cases hk; exact Nat.le_refl _)
          have HB4 : Vl (Below w.heap.size w w4) := vl (HB.out.trans (hb4.mono HB.out.size))
          have HO4 := vl (jown_below HO.out hb4)
          have hrun := jown_look HO4.out HC.out hz
          have hx4 : w4.cell? ⟨mb + 1, 0, none⟩ = some (.map (some mb)) := (hb4.cell (p := ⟨mb + 1, 0, none⟩) (eblk_of_cell HX.out)).trans HX.out
          have HXL := vl (eblk_of_cell hx4)
          obtain ⟨d0, d1, d2, d3, d4, d5⟩ := hR4.cells
          have HKY := vl (jky_ok hz)
          generalize cnt (pthL (L.take k)) p.data.toList = cn at *
          have HWF : Vl ((Lit.int .i64 ((cn : Int) + 1)).wf = true) := vl (WalkArith.wf_i64 (by omega))
          have HX4 := vl hx4
          clear hR4 hg4 HZ3 c0 c1 c2 c3 c4 c5 hb4 HO HC HX HB
          go_wp2_with (at_mapUpdate; refine wpList_mapUpdate_own _ rfl _ _ _ 65 rfl 9 3 jskl Tryz.underlying65 _ mb k D rfl HO4.out (by unfold maxLen; omega) _ _ _ rfl rfl HKY.out (.lit (.int .i64 ((cn : Nat) + 1))) [] (plainElem_int Tryz.underlying3 HWF.out) ?_)
          intro w5 hown5 hg5
          have HB5 := vl (gbelow_grown HB4.out hg5 HB4.out.size (fun k hk => by cases hk; exact hmw))
          have HX5 : Vl (w5.cell? ⟨mb + 1, 0, none⟩ = some (.map (some mb))) := vl ((World.cell?_of_block (a := ⟨mb + 1, 0, none⟩) (hg5.block (mb + 1) HXL.out (fun e => by injection e with e; omega))).trans HX4.out)
          have HO5 := vl hown5
          clear hown5 hg5 hrun hx4 d0 d1 d2 d3 d4 d5 HX4 HB4 HO4 HKY HXL
          go_wp2_with fail
          go_roundw
          case rel => exact ⟨k + 1, _, by go_num, by omega, HO5, HPT, HX5, HB5⟩
          case measure => simp [intOf]; omega
        · have hlt' : ¬ (k : Int) < (len : Int) := by omega
          obtain rfl : k = len := by omega
          have HC2 : Vl (JCnt D (pthL L)) := vl (by have := HC.out; rw [← HLN.out, pthL_all] at this; exact this)
          have hsz := HO.out.size_le
          have HK := vl (HKF'.out (some mb) wr)
          obtain ⟨W4, hW4⟩ : ∃ W4, W4 = wr.alloc (.cells #[.map (some mb)] 65) := ⟨_, rfl⟩
          have hb4 : Below wr.heap.size wr W4 := by rw [hW4]; exact (Below.refl _ wr).alloc (Nat.le_refl _) _
          have HB4 := vl (HB.out.trans (hb4.mono HB.out.size))
          have HSS := vl (HSF'.out wr.heap.size (mb + 1) mb k D (pthL L) W4 (by
            have h := heap_alloc_new wr (Obj.cells #[Value.map (some mb)] 65)
            rw [hW4]
            simp only [World.cell?, h]
            rfl) ((hb4.cell (p := ⟨mb + 1, 0, none⟩) (eblk_of_cell HX.out)).trans HX.out) (jown_below HO.out hb4) HC2.out HSH.out (by omega))
          have hx := HX.out
          rw [← hW4] at HK
          clear hW4 hb4 hlt hlt' hk HO HC HC2 HSF' HKF' hsz HSH
          go_wp2_with fail
          refine HK.out.mono ?_
          rintro _ w4 ⟨rfl, rfl⟩
          clear hx HK
          go_wp2_with fail
          refine HSS.out.mono ?_
          rintro _ w5 ⟨v, K, rfl, q1, q2, q3, hT, hb5⟩
          have HB5 := vl (HB4.out.trans (hb5.mono HB4.out.size))
          have HTI : Vl (TopIs (pthL L) many.toNat (K.take many.toNat)) := vl ⟨K, q1, q2, q3, rfl⟩
          clear hb5 q1 q2 q3 HSS HB HX HB4
          obtain ⟨M, rfl⟩ := Int.eq_ofNat_of_zero_le (show 0 ≤ many by omega)
          rw [Int.toNat_natCast] at HTI HFIN
          rcases hT with ⟨rfl, rfl⟩ | ⟨g, c, rfl, r1, r2, r3⟩
          · have HQ := vl (HFIN.out (.slice none 0 0) _ w5 HTI.out (Or.inl ⟨rfl, by simp⟩))
            have hmn : min (M : Int) 0 = 0 := by omega
            clear HTI HFIN
            go_wp2_with fail
            go_ret2
            exact ⟨HQ.out, HB5.out⟩
          · unfold maxLen at r2
            by_cases hl : M ≤ K.length
            · have HQ := vl (HFIN.out (.slice (some ⟨g, 0, none⟩) M c) _ w5 HTI.out (Or.inr ⟨g, c, by rw [List.length_take]; congr 1; omega, by rw [List.length_take]; omega, r2, fun t ht => by
                rw [List.length_take] at ht
                rw [r3 t (by omega)]
                congr 2
                simp only [List.getD, List.getElem?_take, if_pos (show t < M by omega)]⟩))
              have hl' : min (M : Int) (K.length : Int) = (M : Int) := by omega
              have HR3 := vl r3
              generalize K.length = kn at *
              clear HTI HFIN r3
              go_wp2_with fail
              go_ret2
              exact ⟨HQ.out, HB5.out⟩
            · have HQ := vl (HFIN.out (.slice (some ⟨g, 0, none⟩) K.length c) _ w5 HTI.out (Or.inr ⟨g, c, by rw [List.length_take]; congr 1; omega, by rw [List.length_take]; omega, r2, fun t ht => by
                rw [List.length_take] at ht
                rw [r3 t (by omega)]
                congr 2
                simp only [List.getD, List.getElem?_take, if_pos (show t < M by omega)]⟩))
              have hl' : min (M : Int) (K.length : Int) = (K.length : Int) := by omega
              have HR3 := vl r3
              generalize K.length = kn at *
              clear HTI HFIN r3
              go_wp2_with fail
              go_ret2
              exact ⟨HQ.out, HB5.out⟩
    · have HFIN : Vl (∀ W, TopA L many (.returned (.tuple #[.slice none 0 0, .iface 52 (.int .i64 (chkL L))])) W) := vl (fun W => Or.inl ⟨by rw [HE.out]; exact h0, by rw [HE.out, gerr_pos h0]⟩)
      rw [gerr_pos h0] at HC
      generalize chkL L = E at *
      go_enter Tryz.func14, Tryz.ntmps14
      go_wp2_with (go_at_call 29; refine (HW.out _).mono ?_; rintro e w' ⟨rfl, rfl⟩)
      refine HC.out.mono ?_
      rintro _ w2 ⟨rfl, hb2⟩
      have HB2 := vl hb2
      clear hb2 HC HW
      go_wp2_with fail
      go_ret2
      exact ⟨HFIN.out _, HB2.out⟩
  · have hd : decide ((1 : Int) ≤ many ∧ many ≤ 100) = false := decide_eq_false hm
    rw [hd] at HW
    have HFIN : Vl (∀ W, TopA L many (.returned (.tuple #[.slice none 0 0, .iface 52 (.int .i64 1)])) W) := vl (fun W => Or.inl ⟨by unfold topE; rw [if_neg hm]; decide, by unfold topE; rw [if_neg hm, gerr_pos (by decide)]⟩)
    clear hA hs hd
    go_enter Tryz.func14, Tryz.ntmps14
    go_wp2_with (go_at_call 29; refine (HW.out _).mono ?_; rintro e w' ⟨rfl, rfl⟩)
    go_ret2
    exact ⟨HFIN.out _, Below.refl _ _⟩
end Go.Proofs.YteohgkgahkkjlaaGreatDoor
