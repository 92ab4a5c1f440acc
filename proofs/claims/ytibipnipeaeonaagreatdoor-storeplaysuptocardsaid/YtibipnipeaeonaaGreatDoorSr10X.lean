/-
  WHAT WAS ANSWERED: the law StorePlays, walked. No claim by itself.
-/
import Derived.Deep.RegionHeld3
import Derived.Test.YtibipnipeaeonaaGreatDoorMT
import Derived.Test.YtibipnipeaeonaaGreatDoorMO
import Derived.Test.YtibipnipeaeonaaGreatDoorMP
namespace Go.Proofs.YtibipnipeaeonaaGreatDoor
open Go Go.RowKit
set_option maxRecDepth 100000
set_option maxHeartbeats 16000000 in
theorem splays_ok (qa : Option Addr) (qn qc : Nat) (QF : Nat → RqM) (pa : Option Addr) (pn pc : Nat) (PF : Nat → RpM) (a : Option Addr) (len cap : Nat) (RA : Nat → Option Addr) (RL RC : Nat → Nat) (RZ : Nat → List Int) (w : World)
    (hQ : AsksIn w qa qn qc QF) (hP : TellsIn w pa pn pc PF) (hI : JArg w a len cap RA RL RC RZ) (hg : Laid w) (hm : QOk w) (hgl : 9 ≤ w.heap.size) (hq0 : RqIn w q00) (hp0 : RpIn w p00) :
    Calls Tryz.prog 3 #[.slice qa qn qc, .slice pa pn pc, .slice a len cap] w fun e w' => e = .returned (.bool true) ∧ Below w.heap.size w w' := by
  have HI : Vl (∀ wx, Below w.heap.size w wx → JArg wx a len cap RA RL RC RZ) := vl (fun wx hb => hI.below hb)
  have HG : Vl (∀ wx, Below w.heap.size w wx → Laid wx) := vl (fun wx hb => hg.below hb)
  have HQ := vl hQ
  have HP := vl hP
  have HM := vl hm
  have HGL := vl hgl
  have HZ := vl (And.intro hq0 hp0)
  have HN := vl (znew_any w)
  clear hI hg hQ hP hm hgl hq0 hp0
  go_enter Tryz.func3, Tryz.ntmps3
  go_wp2_with fail
  refine HN.out.mono ?_
  rintro _ w1 ⟨rfl, hS, hw1⟩
  have hb1 : Below w.heap.size w w1 := by rw [hw1]; exact (Below.refl _ _).alloc (Nat.le_refl _) _
  have hs1 : w1.heap.size = w.heap.size + 1 := by rw [hw1]; simp
  obtain ⟨ab, hab⟩ : ∃ x, x = w1.heap.size := ⟨_, rfl⟩
  obtain ⟨W2, hW2⟩ : ∃ x, w1.alloc (.cells #[.slice none 0 0] 30) = x := ⟨_, rfl⟩
  have hb2 : Below w1.heap.size w1 W2 := by rw [← hW2]; exact (Below.refl _ _).alloc (Nat.le_refl _) _
  have e2 : W2.heap[ab]? = some (.cells #[.slice none 0 0] 30 (0, 0)) := by rw [← hW2, hab]; exact heap_alloc_new _ _
  have hh : ∀ b, StS w.heap.size (.slice none 0 0) b → b = w.heap.size := fun b hb => by rcases hb with e | e; exact e; cases e
  have P0 : Vl (SP w W2 w (fun _ => False) w.heap.size (.slice none 0 0) [] ab (.slice none 0 0) []) := vl
    ⟨hb1.trans (hb2.mono hb1.size), hS.below hb2, ⟨e2, Or.inl ⟨rfl, rfl⟩, by omega, fun k e => by cases e⟩, (fun d hd => by cases hd), fun b hb => by rw [hh b hb]; exact Nat.le_refl _,
      fun b hb e => by have := hh b hb; omega, (fun k hk => by cases hk), (fun b _ e => by cases e), (fun i hi => hi.elim), (fun i hi => hi.elim), (fun i hi => hi.elim), (fun i hi => hi.elim), (fun i hi => hi.elim)⟩
  clear hS hw1 hb1 hs1 hb2 e2 hh HN
  go_wp2_with fail
  rw [← hab]
  clear hW2 hab
  go_loopw [9] (fun iv wr => ∃ (k : Nat) (v : Value) (ks : List KpM) (dv : Value) (D : List DK), iv = .int .i64 k ∧ k ≤ 60 ∧ Vl (SP w wr w (fun _ => False) w.heap.size v ks ab dv D) ∧ Vl (RelL ks D) ∧ Vl (ks.length ≤ 20)) (fun iv _ => 60 - (intOf iv).toNat)
  case atStart => exact ⟨0, _, [], _, [], rfl, by omega, P0.out, .nil, vl (by simp)⟩
  case round =>
    obtain ⟨k, v, ks, dv, D, rfl, hk, HS, HR, HL⟩ := hrel
    clear P0
    by_cases h1 : k < len
    case neg =>
      have p1 : ¬ ((k : Int) < (len : Int)) := by omega
      clear h1
      go_wp2
      go_ret
      exact ⟨rfl, HS.out.old⟩
    have p1 : (k : Int) < (len : Int) := by omega
    by_cases h2 : k < 60
    case neg =>
      have p2 : ¬ ((k : Int) < 60) := by omega
      clear h1 h2
      go_wp2
      go_ret
      exact ⟨rfl, HS.out.old⟩
    have p2 : (k : Int) < 60 := by omega
    rcases HI.out wr HS.out.old with hx | ⟨g, off, rfl, hr⟩
    · omega
    obtain ⟨r1, r2, r3⟩ := hr.hrow k h1
    have HRC := vl (hr.hcell k h1)
    have hcap2 := hr.hcap
    have hmax2 := hr.hmax
    unfold maxLen at hmax2 r3
    clear hr
    generalize RA k = ra at *
    generalize RL k = rl at *
    generalize RC k = rc at *
    generalize RZ k = rz at *
    have hg1 : g < wr.heap.size := blk_cell r1
    go_upto_block 2 with fail
    go_cut [11] from 43 to 64 (fun _ wx => ∃ x y z u : Int, I64 x ∧ I64 y ∧ I64 z ∧ I64 u ∧ wx = wr.alloc (.cells #[.int .i64 x, .int .i64 y, .int .i64 z, .int .i64 u] 31))
    case first =>
      as_aux_lemma =>
        go_wp2_with fail
        go_loopw [11] (fun i wq => ∃ (j : Nat) (x y z u : Int), i = .int .i64 j ∧ j ≤ 4 ∧ Vl (I64 x ∧ I64 y ∧ I64 z ∧ I64 u) ∧ wq = wr.alloc (.cells #[.int .i64 x, .int .i64 y, .int .i64 z, .int .i64 u] 31)) (fun i _ => 4 - (intOf i).toNat)
        case atStart => exact ⟨0, 0, 0, 0, 0, rfl, by omega, by unfold I64; exact ⟨by decide, by decide, by decide, by decide⟩, rfl⟩
        case round =>
          obtain ⟨j, x, y, z, u, rfl, hj, HXY, rfl⟩ := hrel
          by_cases hjl : j < rl ∧ j < 4
          · obtain ⟨hj1, hj2⟩ := hjl
            obtain ⟨g', off', rfl, rz1, rzw⟩ := HRC.out j hj1
            have hg2 : g' < wr.heap.size := blk_cell rz1
            have e1 : (j : Int) < (rl : Int) := by omega
            have e2 : (j : Int) < 4 := by omega
            generalize rz.getD j 0 = q at *
            have HQ1 : Vl (I64 q) := by
              simp [Lit.wf, IntKind.min, IntKind.max, IntKind.bits, IntKind.signed] at rzw
              exact ⟨by omega, by omega⟩
            clear rzw
            obtain rfl | rfl | rfl | rfl : j = 0 ∨ j = 1 ∨ j = 2 ∨ j = 3 := by omega
            · rw [Nat.add_zero] at rz1
              go_wp2
              go_roundw
              case rel => exact ⟨1, q, y, z, u, rfl, by omega, ⟨HQ1.out, HXY.out.2⟩, rfl⟩
              case measure => simp [intOf]
            · go_wp2
              go_roundw
              case rel => exact ⟨2, x, q, z, u, rfl, by omega, ⟨HXY.out.1, HQ1.out, HXY.out.2.2⟩, rfl⟩
              case measure => simp [intOf]
            · go_wp2
              go_roundw
              case rel => exact ⟨3, x, y, q, u, rfl, by omega, ⟨HXY.out.1, HXY.out.2.1, HQ1.out, HXY.out.2.2.2⟩, rfl⟩
              case measure => simp [intOf]
            · go_wp2
              go_roundw
              case rel => exact ⟨4, x, y, z, q, rfl, by omega, ⟨HXY.out.1, HXY.out.2.1, HXY.out.2.2.1, HQ1.out⟩, rfl⟩
              case measure => simp [intOf]
          · have hcase : (rl : Int) ≤ (j : Int) ∨ ((j : Int) < (rl : Int) ∧ 4 ≤ (j : Int)) := by omega
            clear hjl
            rcases hcase with e1 | ⟨e1, e2⟩
            all_goals
              go_wp2_with fail
              go_meet
              exact ⟨x, y, z, u, HXY.out.1, HXY.out.2.1, HXY.out.2.2.1, HXY.out.2.2.2, rfl⟩
    case rest =>
    obtain ⟨x, y, z, u, ix, iy, iz, iu, hwc⟩ := hcut
    have HIX := vl (And.intro ix (And.intro iy (And.intro iz iu)))
    have hsz : wc.heap.size = wr.heap.size + 1 := by rw [hwc]; simp
    obtain ⟨WB, hWB⟩ : ∃ X, wc.alloc (.cells #[.string ⟨#[]⟩, .string ⟨#[]⟩, .string ⟨#[]⟩, .slice none 0 0, .slice none 0 0] 36) = X := ⟨_, rfl⟩
    obtain ⟨WD, hWD⟩ : ∃ X, WB.alloc (.cells #[.int .i64 0, .slice none 0 0, .slice none 0 0] 38) = X := ⟨_, rfl⟩
    have hszB : WB.heap.size = wr.heap.size + 1 + 1 := by rw [← hWB]; simp [hsz]
    have hszD : WD.heap.size = wr.heap.size + 1 + 1 + 1 := by rw [← hWD]; simp [hszB]
    have hbc : Below wr.heap.size wr wc := by rw [hwc]; exact (Below.refl _ _).alloc (Nat.le_refl _) _
    have hbB : Below wc.heap.size wc WB := by rw [← hWB]; exact (Below.refl _ _).alloc (Nat.le_refl _) _
    have hbD : Below WB.heap.size WB WD := by rw [← hWD]; exact (Below.refl _ _).alloc (Nat.le_refl _) _
    have hbAll : Below wr.heap.size wr WD := hbc.trans ((hbB.mono hbc.size).trans (hbD.mono (Nat.le_trans hbc.size hbB.size)))
    have kv : WD.heap[wr.heap.size]? = some (.cells #[.int .i64 x, .int .i64 y, .int .i64 z, .int .i64 u] 31 (0, 0)) := by
      rw [hbD.block _ (by omega), hbB.block _ (by omega), hwc]
      exact heap_alloc_new _ _
    have kq : RB WD (wr.heap.size + 1) ⟨#[]⟩ ⟨#[]⟩ ⟨#[]⟩ (.slice none 0 0) (.slice none 0 0) := by
      show WD.heap[wr.heap.size + 1]? = _
      rw [hbD.block _ (by omega), ← hWB, ← hsz]
      exact heap_alloc_new _ _
    have kp : WD.heap[wr.heap.size + 1 + 1]? = some (.cells #[.int .i64 0, .slice none 0 0, .slice none 0 0] 38 (0, 0)) := by
      rw [← hWD, ← hszB]
      exact heap_alloc_new _ _
    have HSD : Vl (SP w WD WD (fun i => i = wr.heap.size ∨ i = wr.heap.size + 1 ∨ i = wr.heap.size + 1 + 1) w.heap.size v ks ab dv D) := vl (HS.out.wider hbAll (fun i hi => Or.inr (by rcases hi with rfl | rfl | rfl <;> omega)) (fun i hi => rfl))
    have HWD : Vl (wc.alloc (.cells #[.string ⟨#[]⟩, .string ⟨#[]⟩, .string ⟨#[]⟩, .slice none 0 0, .slice none 0 0] 36) = WB ∧ WB.alloc (.cells #[.int .i64 0, .slice none 0 0, .slice none 0 0] 38) = WD) := vl ⟨hWB, hWD⟩
    have HKV := vl kv
    have HKQ := vl kq
    have HKP := vl kp
    have HWC := vl hwc
    have HSC := vl hsz
    obtain ⟨vb, hvb⟩ : ∃ X, X = wr.heap.size := ⟨_, rfl⟩
    rw [← hvb] at HSD HKV HKQ HKP HSC
    have HVB := vl hvb
    clear HRC r1 r2 r3 hcap2 hmax2 hg1 ix iy iz iu hwc hsz hszB hszD hbc hbB hbD hbAll kv kq kp hWB hWD hvb
    have v1 : WD.cell? ⟨vb, 1, none⟩ = some (.int .i64 y) := by rw [cell_of_row _ _ _ _ _ _ HKV.out]; rfl
    have HLO : Vl (w.heap.size ≤ vb) := vl (by rw [HVB.out]; exact HS.out.old.size)
    have hyi : -9223372036854775808 ≤ y ∧ y ≤ 9223372036854775807 := HIX.out.2.1
    go_upto_region 13 with fail
    rw [HWD.out.1, HWD.out.2, HSC.out, ← HVB.out]
    clear HWD HSC HVB HS HWC
    obtain ⟨b74, hb74⟩ : ∃ b, decide (0 ≤ y ∧ y < (qn : Int)) = b := ⟨_, rfl⟩
    have Hb74 := vl hb74
    clear hb74
    go_cut [74] from 65 to 74 (fun tv wx => tv = .bool b74 ∧ wx = WD)
    case first =>
      have hc : (y < 0 ∧ ¬ (0 ≤ y ∧ y < (qn : Int))) ∨ (¬ y < 0 ∧ (qn : Int) ≤ y ∧ ¬ (0 ≤ y ∧ y < (qn : Int))) ∨ (¬ y < 0 ∧ ¬ (qn : Int) ≤ y ∧ (0 ≤ y ∧ y < (qn : Int))) := by omega
      rcases hc with ⟨y1, y3⟩ | ⟨y1, y2, y3⟩ | ⟨y1, y2, y3⟩
      · have HY4 := vl (Hb74.out.symm.trans (decide_eq_false y3))
        clear y3
        go_wp2_with fail
        go_meet
        exact ⟨by rw [HY4.out], rfl⟩
      · have HY4 := vl (Hb74.out.symm.trans (decide_eq_false y3))
        have HY5 := vl y2
        clear y3
        go_wp2_with fail
        go_meet
        exact ⟨by rw [HY4.out]; try first | rfl | (rw [decide_eq_false (by have := HY5.out; omega)]), rfl⟩
      · have HY4 := vl (Hb74.out.symm.trans (decide_eq_true y3))
        have HY5 := vl y2
        clear y3
        go_wp2_with fail
        go_meet
        exact ⟨by rw [HY4.out]; try first | rfl | (rw [decide_eq_true (by have := HY5.out; omega)]), rfl⟩
    case rest =>
    obtain ⟨rfl, hwD⟩ := hcut
    rw [hwD]
    clear hwD
    go_upto_if 74 with fail
    go_cut [14] from 74 to 79 (fun _ wx => ∃ q : RqM, Vl (RqIn w q ∧ RqS q) ∧ Vl (RB wx (vb + 1) q.m q.p q.h (.slice q.fa q.fn q.fc) (.slice q.ba q.bn q.bc)) ∧ Vl (SP w wx wx (fun i => i = vb ∨ i = vb + 1 ∨ i = vb + 1 + 1) w.heap.size v ks ab dv D) ∧ Vl (wx.heap[vb]? = some (.cells #[.int .i64 x, .int .i64 y, .int .i64 z, .int .i64 u] 31 (0, 0))) ∧ Vl (wx.heap[vb + 1 + 1]? = some (.cells #[.int .i64 0, .slice none 0 0, .slice none 0 0] 38 (0, 0))))
    case first =>
      cases b74 with
      | true =>
        have hy := of_decide_eq_true Hb74.out
        obtain ⟨t, rfl⟩ : ∃ t : Nat, y = t := ⟨y.toNat, by omega⟩
        obtain ⟨g2, o2, rfl, ⟨c0, c1, c2, c3, c4⟩, hin⟩ := HQ.out.each t (by omega)
        have hgl2 : g2 < w.heap.size := blk_cell c0
        have cw : ∀ j, WD.cell? ⟨g2, j, none⟩ = w.cell? ⟨g2, j, none⟩ := fun j => HSD.out.old.cell (p := ⟨g2, j, none⟩) hgl2
        rw [← cw] at c0 c1 c2 c3 c4
        have HIN := vl hin
        have hqc := HQ.out.cap
        unfold maxLen at hqc
        obtain ⟨hqc1, hqc2⟩ := hqc
        have y1 : (0 : Int) ≤ (t : Int) := by omega
        have y2 : (t : Int) < (qn : Int) := hy.2
        obtain ⟨q, hq⟩ : ∃ q, QF t = q := ⟨_, rfl⟩
        rw [hq] at c0 c1 c2 c3 c4 HIN
        clear hin cw hq hy Hb74
        go_wp2_with (refine wpList_rqstore _ rfl _ _ rfl (vb + 1) _ _ _ q.m q.p q.h _ _ _ _ rfl rfl HKQ.out rfl rfl ?_)
        intro w4 hR4 hg4
        have hT4 : Tn (fun i => i = vb + 1) WD w4 := ⟨hg4.os, hg4.tape, hg4.output, hg4.size, fun i hi hn => hg4.block i hi (fun e => hn (by cases e; rfl))⟩
        have HX := vl (And.intro hR4 hT4)
        clear hR4 hg4 hT4 c0 c1 c2 c3 c4
        go_wp2_with fail
        go_meet
        exact ⟨q, HIN, HX.out.1, HSD.out.turn HX.out.2 (fun i hi => Or.inr (Or.inl hi)) (fun i hi => by have hi' : i = vb + 1 := hi; have := HLO.out; omega), (HX.out.2.block vb (HSD.out.fl _ (Or.inl rfl)) (by omega)).trans HKV.out, (HX.out.2.block (vb + 1 + 1) (HSD.out.fl _ (Or.inr (Or.inr rfl))) (by omega)).trans HKP.out⟩
      | false =>
        clear Hb74
        go_wp2_with fail
        go_meet
        exact ⟨q00, ⟨HZ.out.1, ⟨by show (0 : Nat) ≤ _; omega⟩⟩, HKQ.out, HSD.out, HKV.out, HKP.out⟩
    case rest =>
    obtain ⟨q, HIQ, HRQ, HSE, HKV2, HKP2⟩ := hcut
    have HQZ := vl (And.intro HIQ.out.1 HIQ.out.2)
    clear HKV HKQ HKP HSD v1 hyi HIQ
    obtain ⟨WE, hWE⟩ : ∃ X, wc = X := ⟨_, rfl⟩
    rw [hWE] at HRQ HSE HKV2 HKP2 ⊢
    clear hWE
    have v2 : WE.cell? ⟨vb, 2, none⟩ = some (.int .i64 z) := by rw [cell_of_row _ _ _ _ _ _ HKV2.out]; rfl
    have hzi : -9223372036854775808 ≤ z ∧ z ≤ 9223372036854775807 := HIX.out.2.2.1
    go_upto_region 15 with fail
    obtain ⟨b89, hb89⟩ : ∃ b, decide (0 ≤ z ∧ z < (pn : Int)) = b := ⟨_, rfl⟩
    have Hb89 := vl hb89
    clear hb89
    go_cut [89] from 80 to 89 (fun tv wx => tv = .bool b89 ∧ wx = WE)
    case first =>
      have hc : (z < 0 ∧ ¬ (0 ≤ z ∧ z < (pn : Int))) ∨ (¬ z < 0 ∧ (pn : Int) ≤ z ∧ ¬ (0 ≤ z ∧ z < (pn : Int))) ∨ (¬ z < 0 ∧ ¬ (pn : Int) ≤ z ∧ (0 ≤ z ∧ z < (pn : Int))) := by omega
      rcases hc with ⟨y1, y3⟩ | ⟨y1, y2, y3⟩ | ⟨y1, y2, y3⟩
      · have HY4 := vl (Hb89.out.symm.trans (decide_eq_false y3))
        clear y3
        go_wp2_with fail
        go_meet
        exact ⟨by rw [HY4.out], rfl⟩
      · have HY4 := vl (Hb89.out.symm.trans (decide_eq_false y3))
        have HY5 := vl y2
        clear y3
        go_wp2_with fail
        go_meet
        exact ⟨by rw [HY4.out]; try first | rfl | (rw [decide_eq_false (by have := HY5.out; omega)]), rfl⟩
      · have HY4 := vl (Hb89.out.symm.trans (decide_eq_true y3))
        have HY5 := vl y2
        clear y3
        go_wp2_with fail
        go_meet
        exact ⟨by rw [HY4.out]; try first | rfl | (rw [decide_eq_true (by have := HY5.out; omega)]), rfl⟩
    case rest =>
    obtain ⟨rfl, hwD⟩ := hcut
    rw [hwD]
    clear hwD
    go_upto_if 89 with fail
    go_cut [14] from 89 to 94 (fun _ wx => ∃ p : RpM, Vl (RpIn w p ∧ RpS p) ∧ Vl (RB wx (vb + 1) q.m q.p q.h (.slice q.fa q.fn q.fc) (.slice q.ba q.bn q.bc)) ∧ Vl (SP w wx wx (fun i => i = vb ∨ i = vb + 1 ∨ i = vb + 1 + 1) w.heap.size v ks ab dv D) ∧ Vl (wx.heap[vb]? = some (.cells #[.int .i64 x, .int .i64 y, .int .i64 z, .int .i64 u] 31 (0, 0))) ∧ Vl (wx.heap[vb + 1 + 1]? = some (.cells #[.int .i64 p.code, .slice p.fa p.fn p.fc, .slice p.ba p.bn p.bc] 38 (0, 0))))
    case first =>
      cases b89 with
      | true =>
        have hy := of_decide_eq_true Hb89.out
        obtain ⟨t, rfl⟩ : ∃ t : Nat, z = t := ⟨z.toNat, by omega⟩
        obtain ⟨g2, o2, rfl, ⟨c0, c1, c2⟩, hin⟩ := HP.out.each t (by omega)
        have hgl2 : g2 < w.heap.size := blk_cell c0
        have cw : ∀ j, WE.cell? ⟨g2, j, none⟩ = w.cell? ⟨g2, j, none⟩ := fun j => HSE.out.old.cell (p := ⟨g2, j, none⟩) hgl2
        rw [← cw] at c0 c1 c2
        have HIN := vl hin
        have hqc := HP.out.cap
        unfold maxLen at hqc
        obtain ⟨hqc1, hqc2⟩ := hqc
        have y1 : (0 : Int) ≤ (t : Int) := by omega
        have y2 : (t : Int) < (pn : Int) := hy.2
        obtain ⟨p, hp⟩ : ∃ p, PF t = p := ⟨_, rfl⟩
        rw [hp] at c0 c1 c2 HIN
        have f0 : ∀ j, WE.frozen? ⟨vb + 1 + 1, j, none⟩ = false := fun j => frozen_of_row WE _ j _ _ HKP2.out
        have z0 : WE.cell? ⟨vb + 1 + 1, 0, none⟩ = some (.int .i64 0) := by rw [cell_of_row _ _ _ _ _ _ HKP2.out]; rfl
        have z1 : WE.cell? ⟨vb + 1 + 1, 1, none⟩ = some (.slice none 0 0) := by rw [cell_of_row _ _ _ _ _ _ HKP2.out]; rfl
        have z2 : WE.cell? ⟨vb + 1 + 1, 2, none⟩ = some (.slice none 0 0) := by rw [cell_of_row _ _ _ _ _ _ HKP2.out]; rfl
        obtain ⟨WF, hWF⟩ : ∃ X, ((WE.setCell ⟨vb + 1 + 1, 0, none⟩ (.int .i64 p.code)).setCell ⟨vb + 1 + 1, 1, none⟩ (.slice p.fa p.fn p.fc)).setCell ⟨vb + 1 + 1, 2, none⟩ (.slice p.ba p.bn p.bc) = X := ⟨_, rfl⟩
        have hR4 : WF.heap[vb + 1 + 1]? = some (.cells #[.int .i64 p.code, .slice p.fa p.fn p.fc, .slice p.ba p.bn p.bc] 38 (0, 0)) := by rw [← hWF]; exact three_set HKP2.out
        have hT4 : Tn (fun i => i = vb + 1 + 1) WE WF := by
          rw [← hWF]
          exact three_tn WE (vb + 1 + 1) _ _ _
        have HX := vl (And.intro hR4 hT4)
        have HWF := vl hWF
        clear hin cw hp hy Hb89 hR4 hT4 hWF
        go_wp2_with fail
        go_meet
        rw [HWF.out]
        exact ⟨p, HIN, (HX.out.2.block (vb + 1) (HSE.out.fl _ (Or.inr (Or.inl rfl))) (by omega)).trans HRQ.out, HSE.out.turn HX.out.2 (fun i hi => Or.inr (Or.inr hi)) (fun i hi => by have hi' : i = vb + 1 + 1 := hi; have := HLO.out; omega), (HX.out.2.block vb (HSE.out.fl _ (Or.inl rfl)) (by omega)).trans HKV2.out, HX.out.1⟩
      | false =>
        clear Hb89
        go_wp2_with fail
        go_meet
        exact ⟨p00, ⟨HZ.out.2, ⟨by show (0 : Nat) ≤ _; omega, by show (0 : Nat) < _; omega⟩⟩, HRQ.out, HSE.out, HKV2.out, HKP2.out⟩
    case rest =>
    obtain ⟨p, HIP, HRQ2, HSF, HKV3, HKP3⟩ := hcut
    clear HKV2 HKP2 HRQ HSE v2 hzi
    obtain ⟨WG, hWG⟩ : ∃ X, wc = X := ⟨_, rfl⟩
    rw [hWG] at HRQ2 HSF HKV3 HKP3 ⊢
    clear hWG
    have v3 : WG.cell? ⟨vb, 3, none⟩ = some (.int .i64 u) := by rw [cell_of_row _ _ _ _ _ _ HKV3.out]; rfl
    have hui : -9223372036854775808 ≤ u ∧ u ≤ 9223372036854775807 := HIX.out.2.2.2
    go_upto_region 18 with fail
    obtain ⟨bT, hbT⟩ : ∃ b, decide (0 ≤ u ∧ u ≤ 1000000) = b := ⟨_, rfl⟩
    have HbT := vl hbT
    clear hbT
    go_cut [102] from 95 to 102 (fun tv wx => tv = .bool (!bT) ∧ wx = WG)
    case first =>
      have hc : (u < 0 ∧ ¬ (0 ≤ u ∧ u ≤ 1000000)) ∨ (¬ u < 0 ∧ 1000000 < u ∧ ¬ (0 ≤ u ∧ u ≤ 1000000)) ∨ (¬ u < 0 ∧ ¬ 1000000 < u ∧ (0 ≤ u ∧ u ≤ 1000000)) := by omega
      rcases hc with ⟨y1, y3⟩ | ⟨y1, y2, y3⟩ | ⟨y1, y2, y3⟩
      · have HY4 := vl (HbT.out.symm.trans (decide_eq_false y3))
        clear y3
        go_wp2_with fail
        go_meet
        exact ⟨by rw [HY4.out]; try rfl, rfl⟩
      · have HY4 := vl (HbT.out.symm.trans (decide_eq_false y3))
        have HY5 := vl y2
        clear y3
        go_wp2_with fail
        go_meet
        exact ⟨by rw [HY4.out]; try first | rfl | (rw [decide_eq_true (by have := HY5.out; omega)]; rfl), rfl⟩
      · have HY4 := vl (HbT.out.symm.trans (decide_eq_true y3))
        have HY5 := vl y2
        clear y3
        go_wp2_with fail
        go_meet
        exact ⟨by rw [HY4.out]; try first | rfl | (rw [decide_eq_false (by have := HY5.out; omega)]; rfl), rfl⟩
    case rest =>
    obtain ⟨rfl, hwD⟩ := hcut
    rw [hwD]
    clear hwD
    obtain ⟨E, hE⟩ : ∃ E : Int, E = if bT then 0 else 1 := ⟨_, rfl⟩
    have HE := vl hE
    clear hE
    go_upto_if 102 with fail
    go_cut [14] from 102 to 102 (fun ev wx => ev = .int .i64 E ∧ wx = WG)
    case first =>
      cases bT with
      | true =>
        go_wp2_with fail
        go_meet
        exact ⟨by rw [HE.out]; rfl, rfl⟩
      | false =>
        go_wp2_with fail
        go_meet
        exact ⟨by rw [HE.out]; rfl, rfl⟩
    case rest =>
    obtain ⟨rfl, hwD⟩ := hcut
    rw [hwD]
    clear hwD
    have v0 : WG.cell? ⟨vb, 0, none⟩ = some (.int .i64 x) := by rw [cell_of_row _ _ _ _ _ _ HKV3.out]; rfl
    obtain ⟨q0, q1, q2, q3, q4⟩ := HRQ2.out.cells
    have p0 : WG.cell? ⟨vb + 1 + 1, 0, none⟩ = some (.int .i64 p.code) := by rw [cell_of_row _ _ _ _ _ _ HKP3.out]; rfl
    have p1' : WG.cell? ⟨vb + 1 + 1, 1, none⟩ = some (.slice p.fa p.fn p.fc) := by rw [cell_of_row _ _ _ _ _ _ HKP3.out]; rfl
    have p2' : WG.cell? ⟨vb + 1 + 1, 2, none⟩ = some (.slice p.ba p.bn p.bc) := by rw [cell_of_row _ _ _ _ _ _ HKP3.out]; rfl
    have hDl : D.length ≤ 20 := by have := HR.out.len; have := HL.out; omega
    have HQC := vl (And.intro q0 (And.intro q1 (And.intro q2 (And.intro q3 q4))))
    have HPC := vl (And.intro p0 (And.intro p1' p2'))
    have HVC := vl v3
    go_upto_block 4 with fail
    go_cut [14, 15, 16, 17, 18, 19, 20, 21, 22, 23, 24, 25, 26, 27, 28, 29] from 105 to 236 (fun _ _ _ _ _ _ _ _ _ _ _ _ _ _ _ _ wx => ∃ (v' : Value) (ks' : List KpM) (dv' : Value) (D' : List DK), Vl (SP w wx WG (fun i => i = vb ∨ i = vb + 1 ∨ i = vb + 1 + 1) w.heap.size v' ks' ab dv' D') ∧ Vl (RelL ks' D') ∧ Vl (ks'.length ≤ 20))
    case first =>
      by_cases hx : x = 0 ∨ x = 1
      · as_aux_lemma =>
          rcases hx with rfl | rfl
          all_goals
            cases bT with
            | true =>
              obtain ⟨hn1, hn2⟩ := of_decide_eq_true HbT.out
              have HNN := vl (And.intro hn1 hn2)
              have hE := HE.out
              clear HE HbT
              simp only [if_true] at hE
              subst hE
              have HMP := vl (HSF.out.mput (by omega) HQZ.out.1 HQZ.out.2 HIP.out.1 HIP.out.2 HNN.out)
              unfold RqM.val RpM.val at HMP
              clear hn1 hn2
              go_wp2_with fail
              refine HMP.out.mono ?_
              rintro _ w6 (⟨hno, rfl, hS6⟩ | ⟨hyes, rfl, dv6, hS6⟩)
              · have HS6 := vl hS6
                have HNO := vl hno
                have HDP := vl (hS6.dput HR.out HL.out HQZ.out.1 HQZ.out.2 HIP.out.1 HIP.out.2 HNN.out HM.out HGL.out)
                unfold RqM.val RpM.val at HDP
                have a0 := hS6.cell (Or.inr (Or.inl rfl)) HQC.out.1
                have a1 := hS6.cell (Or.inr (Or.inl rfl)) HQC.out.2.1
                have a2 := hS6.cell (Or.inr (Or.inl rfl)) HQC.out.2.2.1
                have a3 := hS6.cell (Or.inr (Or.inl rfl)) HQC.out.2.2.2.1
                have a4 := hS6.cell (Or.inr (Or.inl rfl)) HQC.out.2.2.2.2
                have b0 := hS6.cell (Or.inr (Or.inr rfl)) HPC.out.1
                have b1 := hS6.cell (Or.inr (Or.inr rfl)) HPC.out.2.1
                have b2 := hS6.cell (Or.inr (Or.inr rfl)) HPC.out.2.2
                have c3 := hS6.cell (Or.inl rfl) HVC.out
                clear hS6 hno HMP q0 q1 q2 q3 q4 p0 p1' p2' v0 v3
                go_wp2_with fail
                refine HDP.out.mono ?_
                rintro _ w7 (⟨_, rfl, hS7⟩ | ⟨hyes, _, _⟩)
                case inr => exact absurd hyes HNO.out
                have HS7 := vl hS7
                have HER := vl (error_nil 0 w7)
                clear hS7 HDP a0 a1 a2 a3 a4 b0 b1 b2 c3
                go_wp2_with fail
                refine HER.out.mono ?_
                rintro _ _ ⟨rfl, rfl⟩
                clear HER
                go_wp2_with fail
                go_meet
                exact ⟨_, ks, _, D, HS7.out, HR.out, HL.out⟩
              · have HS6 := vl hS6
                have HYES := vl hyes
                have HDP := vl (hS6.dput HR.out HL.out HQZ.out.1 HQZ.out.2 HIP.out.1 HIP.out.2 HNN.out HM.out HGL.out)
                unfold RqM.val RpM.val at HDP
                have a0 := hS6.cell (Or.inr (Or.inl rfl)) HQC.out.1
                have a1 := hS6.cell (Or.inr (Or.inl rfl)) HQC.out.2.1
                have a2 := hS6.cell (Or.inr (Or.inl rfl)) HQC.out.2.2.1
                have a3 := hS6.cell (Or.inr (Or.inl rfl)) HQC.out.2.2.2.1
                have a4 := hS6.cell (Or.inr (Or.inl rfl)) HQC.out.2.2.2.2
                have b0 := hS6.cell (Or.inr (Or.inr rfl)) HPC.out.1
                have b1 := hS6.cell (Or.inr (Or.inr rfl)) HPC.out.2.1
                have b2 := hS6.cell (Or.inr (Or.inr rfl)) HPC.out.2.2
                have c3 := hS6.cell (Or.inl rfl) HVC.out
                clear hS6 hyes HMP q0 q1 q2 q3 q4 p0 p1' p2' v0 v3
                go_wp2_with fail
                refine HDP.out.mono ?_
                rintro _ w7 (⟨hno, _, _⟩ | ⟨_, rfl, v7, ks7, hS7, hR7, hL7⟩)
                case inl => exact absurd HYES.out hno
                have HS7 := vl hS7
                have HR7 := vl hR7
                have HL7 := vl hL7
                have HER := vl (error_nil 0 w7)
                clear hS7 hR7 hL7 HDP a0 a1 a2 a3 a4 b0 b1 b2 c3
                go_wp2_with fail
                refine HER.out.mono ?_
                rintro _ _ ⟨rfl, rfl⟩
                clear HER
                go_wp2_with fail
                go_meet
                exact ⟨_, ks7, _, _, HS7.out, HR7.out, HL7.out⟩
            | false =>
              have HNN := vl (of_decide_eq_false HbT.out)
              have hE := HE.out
              clear HE HbT
              simp at hE
              subst hE
              have HDP := vl (zput_bad w.heap.size q p u WG HNN.out)
              unfold RqM.val RpM.val at HDP
              go_wp2_with fail
              refine HDP.out.mono ?_
              rintro _ w7 ⟨rfl, hb7⟩
              have HS7 := vl (HSF.out.below hb7)
              have HER := vl (error_hit 1 1 w7 (HG.out w7 (HSF.out.below hb7).old))
              clear hb7 HDP q0 q1 q2 q3 q4 p0 p1' p2' v0 v3
              go_wp2_with fail
              refine HER.out.mono ?_
              rintro _ w8 ⟨rfl, hb8⟩
              have HS8 := vl (HS7.out.below hb8)
              clear HER hb8
              go_wp2_with fail
              go_meet
              exact ⟨_, ks, _, D, HS8.out, HR.out, HL.out⟩
      by_cases hx2 : x = 2
      · have x0 : ¬ x = 0 := by omega
        have x1 : ¬ x = 1 := by omega
        clear hx
        subst hx2
        obtain ⟨da, dc, hdv, hdc1, hdc2, hrd⟩ := HSF.out.ds.row.shape
        have c0 : WG.cell? ⟨ab, 0, none⟩ = some (.slice da D.length dc) := by rw [← hdv]; exact HSF.out.ds.cell
        have HC0 := vl c0
        have HBX : Vl (WG.heap[ab]? = some (.cells #[.slice da D.length dc] 30 (0, 0))) := vl (by rw [← hdv]; exact HSF.out.ds.box)
        have HRD := vl hrd
        have HABL := vl HSF.out.ds.lt
        unfold maxLen at hdc2
        clear hdv hrd HE HbT q0 q1 q2 q3 q4 p0 p1' p2' v3 x0 x1
        go_wp2_with fail
        go_loopw [20, 21] (fun lv kv wr => ∃ i : Nat, kv = .int .i64 i ∧ i ≤ D.length ∧ Vl (DOwn wr WG.heap.size lv (dropP q.p (D.take i))) ∧ Vl (Below WG.heap.size WG wr)) (fun _ kv _ => D.length - (intOf kv).toNat)
        case atStart => exact ⟨0, rfl, Nat.zero_le _, down_nil _ _, vl (Below.refl _ _)⟩
        case round =>
          obtain ⟨i, rfl, hi, HO, HB⟩ := hrel
          have c1 : wr.cell? ⟨ab, 0, none⟩ = some (.slice da D.length dc) := (HB.out.cell (p := ⟨ab, 0, none⟩) HABL.out).trans HC0.out
          have hvq : vb + 1 < WG.heap.size := HSF.out.fl _ (Or.inr (Or.inl rfl))
          have qp : wr.cell? ⟨vb + 1, 1, none⟩ = some (.string q.p) := (HB.out.cell (p := ⟨vb + 1, 1, none⟩) hvq).trans HQC.out.2.1
          have hkl : (dropP q.p (D.take i)).length ≤ 21 := by have := drop_len q.p (D.take i); rw [List.length_take] at this; omega
          clear c0 v0
          by_cases hlt : i < D.length
          case neg =>
            have e1 : ¬ ((i : Int) < (D.length : Int)) := by omega
            have HO2 : Vl (DOwn wr WG.heap.size u20 (dropP q.p D)) := vl (by
              have h1 := HO.out
              have h2 : D.take i = D := List.take_of_length_le (by omega)
              rw [h2] at h1
              exact h1)
            have hbx : wr.heap[ab]? = some (.cells #[.slice da D.length dc] 30 (0, 0)) := (HB.out.block ab HABL.out).trans HBX.out
            have f1 : ∀ j, wr.frozen? ⟨ab, j, none⟩ = false := fun j => frozen_of_row wr ab j _ _ hbx
            have f10 := f1 0
            have HROW := vl (down_row HO2.out)
            have HPU := vl (DSt.put (lo := w.heap.size) hbx HROW.out HABL.out HSF.out.ds.abs)
            obtain ⟨na, nc, hnv, _, _, _⟩ := HROW.out.shape
            subst hnv
            obtain ⟨W8, hW8⟩ : ∃ X, wr.setCell ⟨ab, 0, none⟩ (.slice na (dropP q.p D).length nc) = X := ⟨_, rfl⟩
            rw [hW8] at HPU
            have HS8 : Vl (SP w W8 WG (fun i => i = vb ∨ i = vb + 1 ∨ i = vb + 1 + 1) w.heap.size v ks ab (.slice na (dropP q.p D).length nc) (dropP q.p D)) := vl (HSF.out.doc HPU.out.1 (Tn.trans' (Tn.of_below HB.out) HPU.out.2) (fun k hk => (HROW.out.own k hk).1) (fun d hd => HSF.out.din d (drop_mem d hd)))
            have HDR := vl (HS8.out.drop HR.out HL.out q.p)
            have qp8 := HS8.out.cell (Or.inr (Or.inl rfl)) HQC.out.2.1
            have HW8 := vl hW8
            have hdl := drop_len q.p D
            clear hlt HO hkl hbx f1 hW8 qp
            go_upto_region 53 with fail
            rw [HW8.out]
            clear f10 c1
            go_wp2_with fail
            refine HDR.out.mono ?_
            rintro _ w9 ⟨v9, ks9, rfl, hS9, hR9, hL9⟩
            have HS9 := vl hS9
            have HR9 := vl hR9
            have HL9 := vl hL9
            clear hS9 hR9 hL9 HDR qp8
            go_wp2_with fail
            go_meet
            exact ⟨_, ks9, _, _, HS9.out, HR9.out, HL9.out⟩
          have e1 : (i : Int) < (D.length : Int) := by omega
          have e0 : (0 : Int) ≤ (i : Int) := by omega
          obtain ⟨g2, o2, rfl, _, hg2, hat⟩ := HRD.out i hlt
          have HAT := vl (hat.kept (HB.out.block g2 hg2))
          have HKN := vl (drop_no (s := q.p) hlt)
          have HKY := vl (drop_yes (s := q.p) hlt)
          obtain ⟨d, hd⟩ : ∃ d, dnth D i = d := ⟨_, rfl⟩
          rw [hd] at HAT HKN HKY
          have HGL2 : Vl (g2 < wr.heap.size) := vl (Nat.lt_of_lt_of_le hg2 HB.out.size)
          obtain ⟨y0, y1, y2, y3, y4, y5, y6, y7, y8⟩ := HAT.out
          have hbd : Below wr.heap.size wr wr.drew := (Below.refl _ _).drew
          have HATN : Vl (DAt wr.drew g2 (o2 + i * 9) d ∧ wr.drew.cell? ⟨ab, 0, none⟩ = some (.slice (some ⟨g2, o2, none⟩) D.length dc)) := vl ⟨HAT.out.kept (hbd.block g2 HGL2.out), (hbd.cell (p := ⟨ab, 0, none⟩) (Nat.lt_of_lt_of_le HABL.out HB.out.size)).trans c1⟩
          have HBN := vl (HB.out.trans (hbd.mono HB.out.size))
          have HON := vl (down_below HO.out hbd)
          clear hbd
          clear hat hd hg2
          by_cases hpe : unums d.q.p = unums q.p
          · have hq : (d.q.p.toList == q.p.toList) = true := by rw [un_beq, decide_eq_true hpe]
            have HO6 : Vl (DOwn wr.drew WG.heap.size u20 (dropP q.p (D.take (i + 1)))) := vl (by rw [HKN.out hpe]; exact HON.out)
            clear hpe hlt
            go_wp2_with fail
            go_region_held3 (fun w' => w'.cell? ⟨ab, 0, none⟩ = some (.slice (some ⟨g2, o2, none⟩) D.length dc) ∧ w'.cell? ⟨g2, o2 + i * 9 + 1, none⟩ = some (.string d.q.p) ∧ w'.cell? ⟨vb + 1, 1, none⟩ = some (.string q.p)) (go_keep) (fail)
            go_wp2_with fail
            go_roundw
            case rel => exact ⟨i + 1, by go_num, by omega, HO6, HBN⟩
            case measure => first | (simp [intOf]; done) | (simp [intOf]; omega)
          · have hq : (d.q.p.toList == q.p.toList) = false := by rw [un_beq, decide_eq_false hpe]
            have HKE := vl (HKY.out hpe)
            have LL : Vl ((dropP q.p (D.take i)).length < 4194304) := vl (by omega)
            clear hpe hlt
            go_wp2_with fail
            go_region_held3 (fun w' => w'.cell? ⟨ab, 0, none⟩ = some (.slice (some ⟨g2, o2, none⟩) D.length dc) ∧ w'.cell? ⟨g2, o2 + i * 9 + 1, none⟩ = some (.string d.q.p) ∧ w'.cell? ⟨vb + 1, 1, none⟩ = some (.string q.p)) (go_keep) (fail)
            obtain ⟨WR, hWR⟩ : ∃ X, wr.drew = X := ⟨_, rfl⟩
            rw [hWR]
            rw [hWR] at HATN HBN HON
            clear hWR y0 y1 y2 y3 y4 y5 y6 y7 y8 c1 qp
            obtain ⟨⟨z0, z1, z2, z3, z4, z5, z6, z7, z8⟩, z9⟩ := HATN.out
            go_wp2_with (at_builtin; refine wpList_dapp _ rfl _ _ rfl WG.heap.size u20 (dropP q.p (D.take i)) d rfl HON.out rfl LL.out HBN.out.size ?_)
            intro nv w6 ho6 hg6
            have HO6 : Vl (DOwn w6 WG.heap.size nv (dropP q.p (D.take (i + 1)))) := vl (by rw [HKE.out]; exact ho6)
            have HB6 := vl (u_below_grown (HBN.out.alloc HBN.out.size (.cells d.cells.toArray 46)) hg6 (by have := HBN.out.size; simp; omega) (fun k hk => (HON.out.lt k hk).1))
            clear ho6 hg6
            go_wp2
            go_roundw
            case rel => exact ⟨i + 1, by go_num, by omega, HO6, HB6⟩
            case measure => first | (simp [intOf]; done) | (simp [intOf]; omega)
      as_aux_lemma =>
        have x0 : ¬ x = 0 := by omega
        have x1 : ¬ x = 1 := by omega
        have x2 : ¬ x = 2 := by omega
        clear hx hx2
        obtain ⟨da, dc, hdv, hdc1, hdc2, hrd⟩ := HSF.out.ds.row.shape
        have c0 : WG.cell? ⟨ab, 0, none⟩ = some (.slice da D.length dc) := by rw [← hdv]; exact HSF.out.ds.cell
        have HC0 := vl c0
        have HRD := vl hrd
        have HABL := vl HSF.out.ds.lt
        unfold maxLen at hdc2
        obtain ⟨WW, hWW⟩ : ∃ X, WG.alloc (.cells #[.int .i64 0, .slice none 0 0, .slice none 0 0] 38) = X := ⟨_, rfl⟩
        have hbW : Below WG.heap.size WG WW := by rw [← hWW]; exact (Below.refl _ _).alloc (Nat.le_refl _) _
        have hsW : WW.heap.size = WG.heap.size + 1 := by rw [← hWW]; simp
        have HKW : Vl (WW.heap[WG.heap.size]? = some (.cells #[.int .i64 0, .slice none 0 0, .slice none 0 0] 38 (0, 0))) := vl (by rw [← hWW]; exact heap_alloc_new _ _)
        obtain ⟨nb, hnb⟩ : ∃ X, X = WG.heap.size := ⟨_, rfl⟩
        rw [← hnb] at HKW
        have HNB : Vl (vb + 1 + 1 < nb ∧ w.heap.size ≤ nb ∧ ab < nb) := vl ⟨by rw [hnb]; exact HSF.out.fl _ (Or.inr (Or.inr rfl)), by rw [hnb]; exact HSF.out.old.size, by rw [hnb]; exact HABL.out⟩
        have HSW : Vl (SP w WW WW (fun i => i = vb ∨ i = vb + 1 ∨ i = vb + 1 + 1 ∨ i = nb) w.heap.size v ks ab dv D) := vl (HSF.out.wider hbW (fun i hi => by
          rcases hi with hi | hi | hi | hi
          · exact Or.inl (Or.inl hi)
          · exact Or.inl (Or.inr (Or.inl hi))
          · exact Or.inl (Or.inr (Or.inr hi))
          · exact Or.inr (by omega)) (fun i hi => rfl))
        have HBW := vl hbW
        have HWW := vl hWW
        have HNE := vl hnb
        clear hdv hrd hbW hsW hWW hnb
        go_upto_region 23 with fail
        rw [HWW.out, ← HNE.out]
        have a0 := HSW.out.cell (i := vb + 1) (Or.inr (Or.inl rfl)) (((HBW.out.cell (p := ⟨vb + 1, 0, none⟩) (HSF.out.fl _ (Or.inr (Or.inl rfl)))).trans q0))
        have a1 := HSW.out.cell (i := vb + 1) (Or.inr (Or.inl rfl)) (((HBW.out.cell (p := ⟨vb + 1, 1, none⟩) (HSF.out.fl _ (Or.inr (Or.inl rfl)))).trans q1))
        have a2 := HSW.out.cell (i := vb + 1) (Or.inr (Or.inl rfl)) (((HBW.out.cell (p := ⟨vb + 1, 2, none⟩) (HSF.out.fl _ (Or.inr (Or.inl rfl)))).trans q2))
        have a3 := HSW.out.cell (i := vb + 1) (Or.inr (Or.inl rfl)) (((HBW.out.cell (p := ⟨vb + 1, 3, none⟩) (HSF.out.fl _ (Or.inr (Or.inl rfl)))).trans q3))
        have a4 := HSW.out.cell (i := vb + 1) (Or.inr (Or.inl rfl)) (((HBW.out.cell (p := ⟨vb + 1, 4, none⟩) (HSF.out.fl _ (Or.inr (Or.inl rfl)))).trans q4))
        have a5 := HSW.out.cell (i := vb) (Or.inl rfl) (((HBW.out.cell (p := ⟨vb, 3, none⟩) (HSF.out.fl _ (Or.inl rfl))).trans v3))
        have a6 : WW.cell? ⟨nb, 0, none⟩ = some (.int .i64 0) := by rw [cell_of_row _ _ _ _ _ _ HKW.out]; rfl
        have a7 : WW.cell? ⟨nb, 1, none⟩ = some (.slice none 0 0) := by rw [cell_of_row _ _ _ _ _ _ HKW.out]; rfl
        have a8 : WW.cell? ⟨nb, 2, none⟩ = some (.slice none 0 0) := by rw [cell_of_row _ _ _ _ _ _ HKW.out]; rfl
        have HBACK : Vl (∀ (wx : World), SP w wx WW (fun i => i = vb ∨ i = vb + 1 ∨ i = vb + 1 + 1 ∨ i = nb) w.heap.size v ks ab dv D → SP w wx WG (fun i => i = vb ∨ i = vb + 1 ∨ i = vb + 1 + 1) w.heap.size v ks ab dv D) := vl (fun wx h => h.wider (Below.refl _ _) (fun i hi => Or.inl (by rcases hi with hi | hi | hi <;> simp [hi])) (fun i hi => (h.fx i (by rcases hi with hi | hi | hi <;> simp [hi])).trans (HBW.out.block i (HSF.out.fl i hi))))
        have HA := vl (And.intro a0 (And.intro a1 (And.intro a2 (And.intro a3 (And.intro a4 (And.intro a5 (And.intro a6 (And.intro a7 a8))))))))
        clear HWW HNE q0 q1 q2 q3 q4 p0 p1' p2' v0 v3 c0 x0 x1 x2
        cases bT with
        | false =>
          have HNN := vl (of_decide_eq_false HbT.out)
          have hE := HE.out
          clear HE HbT
          simp at hE
          subst hE
          have HDG := vl (zget_bad w.heap.size q u WW HNN.out)
          unfold RqM.val at HDG
          go_wp2_with fail
          refine HDG.out.mono ?_
          rintro _ w7 ⟨rfl, hb7⟩
          have HS7 := vl (HSW.out.below hb7)
          obtain ⟨gb, hgb⟩ : ∃ X, X = w7.heap.size := ⟨_, rfl⟩
          obtain ⟨W8, hW8⟩ : ∃ X, w7.alloc (.cells #[.int .i64 0, .slice none 0 0, .slice none 0 0] 38) = X := ⟨_, rfl⟩
          have hb8 : Below w7.heap.size w7 W8 := by rw [← hW8]; exact (Below.refl _ _).alloc (Nat.le_refl _) _
          have hK8 : W8.heap[gb]? = some (.cells #[.int .i64 0, .slice none 0 0, .slice none 0 0] 38 (0, 0)) := by rw [← hW8, hgb]; exact heap_alloc_new _ _
          have HS8 := vl (HS7.out.below hb8)
          have HER := vl (error_hit 1 1 W8 (HG.out W8 HS8.out.old))
          have HK8 := vl hK8
          have HW8 := vl hW8
          have HGB := vl hgb
          clear hb7 HDG a0 a1 a2 a3 a4 a5 a6 a7 a8 hgb hW8 hb8 hK8
          go_upto_region 31 with fail
          rw [HW8.out, ← HGB.out]
          go_wp2_with fail
          refine HER.out.mono ?_
          rintro _ w9 ⟨rfl, hb9⟩
          have HS9 := vl (HS8.out.below hb9)
          have hK9 : w9.heap[gb]? = some (.cells #[.int .i64 0, .slice none 0 0, .slice none 0 0] 38 (0, 0)) := (hb9.block gb (Array.getElem?_eq_some_iff.1 HK8.out).1).trans HK8.out
          have g0 : w9.cell? ⟨gb, 0, none⟩ = some (.int .i64 0) := by rw [cell_of_row _ _ _ _ _ _ hK9]; rfl
          have g1 : w9.cell? ⟨gb, 1, none⟩ = some (.slice none 0 0) := by rw [cell_of_row _ _ _ _ _ _ hK9]; rfl
          have g2 : w9.cell? ⟨gb, 2, none⟩ = some (.slice none 0 0) := by rw [cell_of_row _ _ _ _ _ _ hK9]; rfl
          have k6 := HS9.out.cell (i := nb) (Or.inr (Or.inr (Or.inr rfl))) HA.out.2.2.2.2.2.2.1
          have k7 := HS9.out.cell (i := nb) (Or.inr (Or.inr (Or.inr rfl))) HA.out.2.2.2.2.2.2.2.1
          have k8 := HS9.out.cell (i := nb) (Or.inr (Or.inr (Or.inr rfl))) HA.out.2.2.2.2.2.2.2.2
          have HSR := vl (zsrep_like p00 p00 w9 (HZ.out.2.below HS9.out.old) (HZ.out.2.below HS9.out.old) rfl)
          unfold RpM.val p00 at HSR
          dsimp only at HSR
          clear hb9 hK9 HER
          go_wp2_with fail
          refine HSR.out.mono ?_
          rintro _ w10 ⟨rfl, hb10⟩
          have HS10 := vl (HBACK.out _ (HS9.out.below hb10))
          clear hb10 HSR g0 g1 g2 k6 k7 k8
          go_wp2_with fail
          go_meet
          exact ⟨_, ks, _, D, HS10.out, HR.out, HL.out⟩
        | true =>
          obtain ⟨hn1, hn2⟩ := of_decide_eq_true HbT.out
          have HNN := vl (And.intro hn1 hn2)
          have hE := HE.out
          clear HE HbT
          simp only [if_true] at hE
          subst hE
          have HMG := vl (HSW.out.mget (by omega) HQZ.out.1 HQZ.out.2 HNN.out)
          unfold RqM.val at HMG
          clear hn1 hn2
          go_wp2_with fail
          refine HMG.out.mono ?_
          rintro _ w6 ⟨i, rfl, hGI, hS6⟩
          rcases hGI with ⟨rfl, hno⟩ | ⟨t, rfl, ht, hhit, hlast⟩
          · have HNO := vl hno
            have HDG : Vl (Calls Tryz.prog 10 #[.pointer (some ⟨w.heap.size, 0, none⟩), q.val, .int .i64 u] w6 fun e w' => e = .returned (.tuple #[.agg #[.int .i64 0, .slice none 0 0, .slice none 0 0], .int .i64 0, .iface 60 (.int .i64 5)]) ∧ Below w6.heap.size w6 w') := vl ((hS6.dget HR.out HQZ.out.1 HQZ.out.2 HNN.out HM.out HGL.out).mono (by
              rintro e w' ⟨hE, _, hb⟩
              rcases hE with ⟨t, p, h1, h2, _⟩ | ⟨_, h2⟩
              · exact absurd h2 (hno t h1)
              · exact ⟨h2, hb⟩))
            unfold RqM.val at HDG
            have HS6 := vl hS6
            clear hno hS6 HMG a0 a1 a2 a3 a4 a5 a6 a7 a8
            have a0 := HS6.out.cell (i := vb + 1) (Or.inr (Or.inl rfl)) HA.out.1
            have a1 := HS6.out.cell (i := vb + 1) (Or.inr (Or.inl rfl)) HA.out.2.1
            have a2 := HS6.out.cell (i := vb + 1) (Or.inr (Or.inl rfl)) HA.out.2.2.1
            have a3 := HS6.out.cell (i := vb + 1) (Or.inr (Or.inl rfl)) HA.out.2.2.2.1
            have a4 := HS6.out.cell (i := vb + 1) (Or.inr (Or.inl rfl)) HA.out.2.2.2.2.1
            have a5 := HS6.out.cell (i := vb) (Or.inl rfl) HA.out.2.2.2.2.2.1
            have a6 := HS6.out.cell (i := nb) (Or.inr (Or.inr (Or.inr rfl))) HA.out.2.2.2.2.2.2.1
            have a7 := HS6.out.cell (i := nb) (Or.inr (Or.inr (Or.inr rfl))) HA.out.2.2.2.2.2.2.2.1
            have a8 := HS6.out.cell (i := nb) (Or.inr (Or.inr (Or.inr rfl))) HA.out.2.2.2.2.2.2.2.2
            go_wp2_with fail
            refine HDG.out.mono ?_
            rintro _ w7 ⟨rfl, hb7⟩
            have HS7 := vl (HS6.out.below hb7)
            obtain ⟨gb, hgb⟩ : ∃ X, X = w7.heap.size := ⟨_, rfl⟩
            obtain ⟨W8, hW8⟩ : ∃ X, w7.alloc (.cells #[.int .i64 0, .slice none 0 0, .slice none 0 0] 38) = X := ⟨_, rfl⟩
            have hb8 : Below w7.heap.size w7 W8 := by rw [← hW8]; exact (Below.refl _ _).alloc (Nat.le_refl _) _
            have hK8 : W8.heap[gb]? = some (.cells #[.int .i64 0, .slice none 0 0, .slice none 0 0] 38 (0, 0)) := by rw [← hW8, hgb]; exact heap_alloc_new _ _
            have HS8 := vl (HS7.out.below hb8)
            have HER := vl (error_hit 5 5 W8 (HG.out W8 HS8.out.old))
            have HK8 := vl hK8
            have HW8 := vl hW8
            have HGB := vl hgb
            clear hb7 HDG a0 a1 a2 a3 a4 a5 a6 a7 a8 hgb hW8 hb8 hK8
            go_upto_region 31 with fail
            rw [HW8.out, ← HGB.out]
            go_wp2_with fail
            refine HER.out.mono ?_
            rintro _ w9 ⟨rfl, hb9⟩
            have HS9 := vl (HS8.out.below hb9)
            have hK9 : w9.heap[gb]? = some (.cells #[.int .i64 0, .slice none 0 0, .slice none 0 0] 38 (0, 0)) := (hb9.block gb (Array.getElem?_eq_some_iff.1 HK8.out).1).trans HK8.out
            have g0 : w9.cell? ⟨gb, 0, none⟩ = some (.int .i64 0) := by rw [cell_of_row _ _ _ _ _ _ hK9]; rfl
            have g1 : w9.cell? ⟨gb, 1, none⟩ = some (.slice none 0 0) := by rw [cell_of_row _ _ _ _ _ _ hK9]; rfl
            have g2 : w9.cell? ⟨gb, 2, none⟩ = some (.slice none 0 0) := by rw [cell_of_row _ _ _ _ _ _ hK9]; rfl
            have k6 := HS9.out.cell (i := nb) (Or.inr (Or.inr (Or.inr rfl))) HA.out.2.2.2.2.2.2.1
            have k7 := HS9.out.cell (i := nb) (Or.inr (Or.inr (Or.inr rfl))) HA.out.2.2.2.2.2.2.2.1
            have k8 := HS9.out.cell (i := nb) (Or.inr (Or.inr (Or.inr rfl))) HA.out.2.2.2.2.2.2.2.2
            have HSR := vl (zsrep_like p00 p00 w9 (HZ.out.2.below HS9.out.old) (HZ.out.2.below HS9.out.old) rfl)
            unfold RpM.val p00 at HSR
            dsimp only at HSR
            clear hb9 hK9 HER
            go_wp2_with fail
            refine HSR.out.mono ?_
            rintro _ w10 ⟨rfl, hb10⟩
            have HS10 := vl (HBACK.out _ (HS9.out.below hb10))
            clear hb10 HSR g0 g1 g2 k6 k7 k8
            go_wp2_with fail
            go_meet
            exact ⟨_, ks, _, D, HS10.out, HR.out, HL.out⟩
          · have HS6 := vl hS6
            have HHIT := vl hhit
            have HLAST := vl hlast
            clear hS6 hhit hlast HMG a0 a1 a2 a3 a4 a5 a6 a7 a8
            have a5 := HS6.out.cell (i := vb) (Or.inl rfl) HA.out.2.2.2.2.2.1
            have a6 := HS6.out.cell (i := nb) (Or.inr (Or.inr (Or.inr rfl))) HA.out.2.2.2.2.2.2.1
            have a7 := HS6.out.cell (i := nb) (Or.inr (Or.inr (Or.inr rfl))) HA.out.2.2.2.2.2.2.2.1
            have a8 := HS6.out.cell (i := nb) (Or.inr (Or.inr (Or.inr rfl))) HA.out.2.2.2.2.2.2.2.2
            obtain ⟨ea, ec, hev, he1, he2, her⟩ := HS6.out.ds.row.shape
            have c6 : w6.cell? ⟨ab, 0, none⟩ = some (.slice ea D.length ec) := by rw [← hev]; exact HS6.out.ds.cell
            obtain ⟨g3, o3, rfl, _, hg3, hat⟩ := her t ht
            have HAT := vl hat
            have HDI := vl (HS6.out.dinW (dnth D t) (by rw [← dnth_at ht]; exact List.getElem_mem _))
            obtain ⟨d, hd⟩ : ∃ d, dnth D t = d := ⟨_, rfl⟩
            rw [hd] at HAT HDI HHIT
            have HDD := vl hd
            obtain ⟨y0, y1, y2, y3, y4, y5, y6, y7, y8⟩ := HAT.out
            have t0 : (0 : Int) ≤ (t : Int) := by omega
            have t1 : (t : Int) < (D.length : Int) := by omega
            unfold maxLen at he2
            have hK6 : w6.heap[nb]? = some (.cells #[.int .i64 0, .slice none 0 0, .slice none 0 0] 38 (0, 0)) := (HS6.out.fx nb (Or.inr (Or.inr (Or.inr rfl)))).trans HKW.out
            have f6 : ∀ j, w6.frozen? ⟨nb, j, none⟩ = false := fun j => frozen_of_row w6 nb j _ _ hK6
            obtain ⟨W7, hW7⟩ : ∃ X, ((w6.setCell ⟨nb, 0, none⟩ (.int .i64 d.r.code)).setCell ⟨nb, 1, none⟩ (.slice d.r.fa d.r.fn d.r.fc)).setCell ⟨nb, 2, none⟩ (.slice d.r.ba d.r.bn d.r.bc) = X := ⟨_, rfl⟩
            have HK7 : Vl (W7.heap[nb]? = some (.cells #[.int .i64 d.r.code, .slice d.r.fa d.r.fn d.r.fc, .slice d.r.ba d.r.bn d.r.bc] 38 (0, 0))) := vl (by rw [← hW7]; exact three_set hK6)
            have hT7 : Tn (fun i => i = nb) w6 W7 := by rw [← hW7]; exact three_tn w6 nb _ _ _
            have HS7 := vl (HS6.out.turn hT7 (fun i hi => Or.inr (Or.inr (Or.inr hi))) (fun i hi => by have hi' : i = nb := hi; have := HNB.out.2.1; omega))
            have HW7 := vl hW7
            have HT7 := vl hT7
            have HEV := vl hev
            clear hev her hat hd hg3 hK6 hW7 hT7 he1
            go_upto_region 29 with fail
            rw [HW7.out]
            have hb0 : ∀ b, b ≠ nb → b < w6.heap.size → W7.heap[b]? = w6.heap[b]? := fun b h1 h2 => HT7.out.block b h2 h1
            have hgn : g3 ≠ nb := fun e => HS6.out.fd nb (Or.inr (Or.inr (Or.inr rfl))) (by rw [← e, HEV.out]; rfl)
            have hgs : g3 < w6.heap.size := blk_cell y0
            have s5 := HS7.out.cell (i := vb) (Or.inl rfl) ((World.cell?_of_block (a := ⟨vb, 3, none⟩) (hb0 vb (by have := HNB.out.1; omega) (blk_cell a5))).trans a5)
            have s6 : W7.cell? ⟨ab, 0, none⟩ = some (.slice (some ⟨g3, o3, none⟩) D.length ec) := (World.cell?_of_block (a := ⟨ab, 0, none⟩) (hb0 ab (by have := HNB.out.2.2; omega) (blk_cell c6))).trans c6
            have s8 : W7.cell? ⟨g3, o3 + t * 9 + 8, none⟩ = some (.int .i64 d.at_) := (World.cell?_of_block (a := ⟨g3, o3 + t * 9 + 8, none⟩) (hb0 g3 hgn hgs)).trans y8
            obtain ⟨n1, n2⟩ := HNN.out
            obtain ⟨m1, m2⟩ := HDI.out.time
            clear hb0 hgn hgs a5 a6 a7 a8 c6 y0 y1 y2 y3 y4 y5 y6 y7 y8 f6
            go_wp2_with fail
            go_region_held3 (fun w' => w'.cell? ⟨vb, 3, none⟩ = some (.int .i64 u) ∧ w'.cell? ⟨ab, 0, none⟩ = some (.slice (some ⟨g3, o3, none⟩) D.length ec) ∧ w'.cell? ⟨g3, o3 + t * 9 + 8, none⟩ = some (.int .i64 d.at_)) (go_keep) (fail)
            obtain ⟨WR, hWR⟩ : ∃ X, W7.drew = X := ⟨_, rfl⟩
            rw [hWR]
            have hbR : Below W7.heap.size W7 WR := by rw [← hWR]; exact (Below.refl _ _).drew
            have HSR0 := vl (HS7.out.below hbR)
            have HKR : Vl (WR.heap[nb]? = some (.cells #[.int .i64 d.r.code, .slice d.r.fa d.r.fn d.r.fc, .slice d.r.ba d.r.bn d.r.bc] 38 (0, 0))) := vl ((hbR.block nb (Array.getElem?_eq_some_iff.1 HK7.out).1).trans HK7.out)
            have HDG : Vl (Calls Tryz.prog 10 #[.pointer (some ⟨w.heap.size, 0, none⟩), q.val, .int .i64 u] WR fun e w' => ∃ p, e = .returned (.tuple #[p.val, .int .i64 (u - d.at_), .nilIface]) ∧ RpIn w' p ∧ p.rp = d.r.rp ∧ Below WR.heap.size WR w') := vl ((HSR0.out.dget HR.out HQZ.out.1 HQZ.out.2 HNN.out HM.out HGL.out).mono (by
              rintro e w' ⟨hE, _, hb⟩
              rcases hE with ⟨t2, p2, h1, h2, h3, h4, h5, h6⟩ | ⟨h1, _⟩
              · have e2 : t2 = t := by
                  rcases Nat.lt_trichotomy t2 t with hl | hl | hl
                  · exact absurd (HDD.out ▸ HHIT.out) (h3 t hl ht)
                  · exact hl
                  · exact absurd h2 (HLAST.out t2 hl h1)
                subst e2
                rw [HDD.out] at h4 h6
                exact ⟨p2, h4, h5, h6, hb⟩
              · exact absurd (HDD.out ▸ HHIT.out) (h1 t ht)))
            unfold RqM.val at HDG
            have hq7 : W7.heap[vb + 1]? = w6.heap[vb + 1]? := HT7.out.block (vb + 1) (HS6.out.fl _ (Or.inr (Or.inl rfl))) (by have := HNB.out.1; omega)
            have hqR : WR.heap[vb + 1]? = WW.heap[vb + 1]? := (hbR.block (vb + 1) (HS7.out.fl _ (Or.inr (Or.inl rfl)))).trans (hq7.trans (HS6.out.fx _ (Or.inr (Or.inl rfl))))
            have a0 := (World.cell?_of_block (a := ⟨vb + 1, 0, none⟩) hqR).trans HA.out.1
            have a1 := (World.cell?_of_block (a := ⟨vb + 1, 1, none⟩) hqR).trans HA.out.2.1
            have a2 := (World.cell?_of_block (a := ⟨vb + 1, 2, none⟩) hqR).trans HA.out.2.2.1
            have a3 := (World.cell?_of_block (a := ⟨vb + 1, 3, none⟩) hqR).trans HA.out.2.2.2.1
            have a4 := (World.cell?_of_block (a := ⟨vb + 1, 4, none⟩) hqR).trans HA.out.2.2.2.2.1
            have r5 : WR.cell? ⟨vb, 3, none⟩ = some (.int .i64 u) := (hbR.cell (p := ⟨vb, 3, none⟩) (HS7.out.fl _ (Or.inl rfl))).trans s5
            have HBACK2 : Vl (∀ (wx : World), SP w wx W7 (fun i => i = vb ∨ i = vb + 1 ∨ i = vb + 1 + 1 ∨ i = nb) w.heap.size v ks ab dv D → SP w wx WG (fun i => i = vb ∨ i = vb + 1 ∨ i = vb + 1 + 1) w.heap.size v ks ab dv D) := vl (fun wx h => h.wider (Below.refl _ _) (fun i hi => Or.inl (by rcases hi with hi | hi | hi <;> simp [hi])) (fun i hi => (h.fx i (by rcases hi with hi | hi | hi <;> simp [hi])).trans ((HT7.out.block i (HS6.out.fl i (by rcases hi with hi | hi | hi <;> simp [hi])) (fun e => by have e' : i = nb := e; have := HNB.out.1; rcases hi with hi | hi | hi <;> omega)).trans ((HS6.out.fx i (by rcases hi with hi | hi | hi <;> simp [hi])).trans (HBW.out.block i (HSF.out.fl i hi))))))
            clear hWR hbR hq7 hqR s5 s6 s8
            go_wp2_with fail
            refine HDG.out.mono ?_
            rintro _ w8 ⟨p2, rfl, hin, hrp, hb8⟩
            obtain ⟨pc2, pfa, pfn, pfc, pba, pbn, pbc, PL, PB⟩ := p2
            have HIN2 := vl hin
            have HRP := vl hrp
            have HS8 := vl (HSR0.out.below hb8)
            have HK8 : Vl (w8.heap[nb]? = some (.cells #[.int .i64 d.r.code, .slice d.r.fa d.r.fn d.r.fc, .slice d.r.ba d.r.bn d.r.bc] 38 (0, 0))) := vl ((hb8.block nb (Array.getElem?_eq_some_iff.1 HKR.out).1).trans HKR.out)
            obtain ⟨gb, hgb⟩ : ∃ X, X = w8.heap.size := ⟨_, rfl⟩
            obtain ⟨W9, hW9⟩ : ∃ X, w8.alloc (.cells #[.int .i64 pc2, .slice pfa pfn pfc, .slice pba pbn pbc] 38) = X := ⟨_, rfl⟩
            have hb9 : Below w8.heap.size w8 W9 := by rw [← hW9]; exact (Below.refl _ _).alloc (Nat.le_refl _) _
            have HKG : Vl (W9.heap[gb]? = some (.cells #[.int .i64 pc2, .slice pfa pfn pfc, .slice pba pbn pbc] 38 (0, 0))) := vl (by rw [← hW9, hgb]; exact heap_alloc_new _ _)
            have HKN9 : Vl (W9.heap[nb]? = some (.cells #[.int .i64 d.r.code, .slice d.r.fa d.r.fn d.r.fc, .slice d.r.ba d.r.bn d.r.bc] 38 (0, 0))) := vl ((hb9.block nb (Array.getElem?_eq_some_iff.1 HK8.out).1).trans HK8.out)
            have HS9 := vl (HS8.out.below hb9)
            have HSR := vl (zsrep_like _ _ W9 (HIN2.out.below hb9) (((HS6.out.din (dnth D t) (by rw [← dnth_at ht]; exact List.getElem_mem _)).rp.below HS9.out.old)) (by rw [HRP.out, HDD.out]))
            rw [HDD.out] at HSR
            unfold RpM.val at HSR
            dsimp only at HSR
            have HER := vl (error_nil 0 W9)
            have HW9 := vl hW9
            have HGB := vl hgb
            clear hin hrp hb8 hb9 hgb hW9 HDG a0 a1 a2 a3 a4 r5
            dsimp only [RpM.val]
            go_upto_region 31 with fail
            rw [HW9.out, ← HGB.out]
            go_wp2_with fail
            refine HER.out.mono ?_
            rintro _ _ ⟨rfl, rfl⟩
            have g0 : W9.cell? ⟨gb, 0, none⟩ = some (.int .i64 pc2) := by rw [cell_of_row _ _ _ _ _ _ HKG.out]; rfl
            have g1 : W9.cell? ⟨gb, 1, none⟩ = some (.slice pfa pfn pfc) := by rw [cell_of_row _ _ _ _ _ _ HKG.out]; rfl
            have g2 : W9.cell? ⟨gb, 2, none⟩ = some (.slice pba pbn pbc) := by rw [cell_of_row _ _ _ _ _ _ HKG.out]; rfl
            have k6 : W9.cell? ⟨nb, 0, none⟩ = some (.int .i64 d.r.code) := by rw [cell_of_row _ _ _ _ _ _ HKN9.out]; rfl
            have k7 : W9.cell? ⟨nb, 1, none⟩ = some (.slice d.r.fa d.r.fn d.r.fc) := by rw [cell_of_row _ _ _ _ _ _ HKN9.out]; rfl
            have k8 : W9.cell? ⟨nb, 2, none⟩ = some (.slice d.r.ba d.r.bn d.r.bc) := by rw [cell_of_row _ _ _ _ _ _ HKN9.out]; rfl
            clear HER
            go_wp2_with fail
            refine HSR.out.mono ?_
            rintro _ w10 ⟨rfl, hb10⟩
            have HS10 := vl (HBACK2.out _ (HS9.out.below hb10))
            clear hb10 HSR g0 g1 g2 k6 k7 k8
            go_wp2_with fail
            go_meet
            exact ⟨_, ks, _, D, HS10.out, HR.out, HL.out⟩
    case rest =>
    as_aux_lemma =>
      obtain ⟨v', ks', dv', D', HSX, HR2, HL2⟩ := hcut
      obtain ⟨WX, hWX⟩ : ∃ X, wc = X := ⟨_, rfl⟩
      rw [hWX] at HSX ⊢
      clear hWX q0 q1 q2 q3 q4 p0 p1' p2' v0 v3 hui hDl
      have hbD : Below WX.heap.size WX WX.drew := (Below.refl _ _).drew
      have HSD2 := vl (HSX.out.below hbD)
      obtain ⟨da, dc, hdv, hdc1, hdc2, _⟩ := HSX.out.ds.row.shape
      have c0 : WX.cell? ⟨ab, 0, none⟩ = some (.slice da D'.length dc) := by rw [← hdv]; exact HSX.out.ds.cell
      have b0 := HSX.out.cell (Or.inr (Or.inr rfl)) HPC.out.1
      have b1 := HSX.out.cell (Or.inr (Or.inr rfl)) HPC.out.2.1
      have b2 := HSX.out.cell (Or.inr (Or.inr rfl)) HPC.out.2.2
      have hlen := HR2.out.len
      have hDl2 : D'.length ≤ 20 := by have := HL2.out; omega
      have HLN : Vl (Calls Tryz.prog 12 #[.pointer (some ⟨w.heap.size, 0, none⟩)] WX.drew fun e w' => e = .returned (.int .i64 (D'.length : Nat)) ∧ WX.drew = w') := vl (by rw [← hlen]; exact HSD2.out.len)
      have hpd := HIP.out.1.below HSD2.out.old
      have hps := HIP.out.2
      have HLD := vl (zlife_any p.code p.fa p.fn p.fc p.ba p.bn p.bc p.FL WX.drew hpd.fields (by have := hps.fn; omega) hpd.each (HM.out.below HSD2.out.old).ld)
      have HLR : Vl (∀ wx, Below WX.drew.heap.size WX.drew wx → Calls Tryz.prog 14 #[.agg #[.int .i64 p.code, .slice p.fa p.fn p.fc, .slice p.ba p.bn p.bc]] wx fun e w' => e = .returned (.int .i64 (lifeR (fdsOf p.FL) : Nat)) ∧ Below wx.heap.size wx w') := vl (fun wx hb => rlife_any p.code p.fa p.fn p.fc p.ba p.bn p.bc p.FL wx (hpd.below hb).fields (by have := hps.fn; omega) (fun t => (hpd.each t).2))
      obtain ⟨L, hL⟩ : ∃ L : Nat, lifeR (fdsOf p.FL) = L := ⟨_, rfl⟩
      rw [hL] at HLD HLR
      have HLT : Vl (ab < WX.heap.size ∧ vb + 1 + 1 < WX.heap.size) := vl ⟨HSX.out.ds.lt, HSX.out.fl _ (Or.inr (Or.inr rfl))⟩
      have HSS : Vl (∀ wx, Below WX.heap.size WX wx → wx.cell? ⟨ab, 0, none⟩ = some (.slice da D'.length dc) ∧ wx.cell? ⟨vb + 1 + 1, 0, none⟩ = some (.int .i64 p.code) ∧ wx.cell? ⟨vb + 1 + 1, 1, none⟩ = some (.slice p.fa p.fn p.fc) ∧ wx.cell? ⟨vb + 1 + 1, 2, none⟩ = some (.slice p.ba p.bn p.bc)) := vl (fun wx hb =>
        ⟨(hb.cell (p := ⟨ab, 0, none⟩) HLT.out.1).trans c0, (hb.cell (p := ⟨vb + 1 + 1, 0, none⟩) HLT.out.2).trans b0, (hb.cell (p := ⟨vb + 1 + 1, 1, none⟩) HLT.out.2).trans b1, (hb.cell (p := ⟨vb + 1 + 1, 2, none⟩) HLT.out.2).trans b2⟩)
      have HBD := vl hbD
      clear hdv hdc1 hdc2 hlen hpd hps hL hbD
      go_wp2_with fail
      go_region_held3 (fun w' => w'.cell? ⟨ab, 0, none⟩ = some (.slice da D'.length dc) ∧ w'.cell? ⟨vb + 1 + 1, 0, none⟩ = some (.int .i64 p.code) ∧ w'.cell? ⟨vb + 1 + 1, 1, none⟩ = some (.slice p.fa p.fn p.fc) ∧ w'.cell? ⟨vb + 1 + 1, 2, none⟩ = some (.slice p.ba p.bn p.bc))
        (first | (with_reducible exact HSS.out _ hz7) | (with_reducible exact HSS.out _ hz6) | (with_reducible exact HSS.out _ HBD.out) | go_keep)
        (first
          | (go_at_call 12; refine HLN.out.mono ?_; rintro _ _ ⟨rfl, rfl⟩)
          | (go_at_call 13; refine HLD.out.mono ?_; rintro _ w6 ⟨rfl, hb6⟩; have hz6 := HBD.out.trans hb6)
          | (go_at_call 14; refine (HLR.out _ hb6).mono ?_; rintro _ w7 ⟨rfl, hb7⟩; have hz7 := HBD.out.trans (hb6.trans (hb7.mono hb6.size))))
      have HSY := vl (HSX.out.below hz7)
      clear c0 b0 b1 b2 hz6 hz7 hb6 hb7
      go_wp2_with fail
      go_roundw
      case rel => exact ⟨k + 1, v', ks', dv', D', by go_num, by omega, vl (HSY.out.wider (Below.refl _ _) (fun _ hi => hi.elim) (fun _ hi => hi.elim)), HR2, HL2⟩
      case measure => first | (simp [intOf]; done) | (simp [intOf]; omega)
end Go.Proofs.YtibipnipeaeonaaGreatDoor
