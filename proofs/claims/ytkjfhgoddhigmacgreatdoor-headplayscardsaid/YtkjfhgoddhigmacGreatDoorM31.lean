/-
  CONTRACT of the method decode of tollref1.C. No claim by itself.
-/
import Derived.Deep.RegionHeld3
import Derived.Test.YtkjfhgoddhigmacGreatDoorM30
namespace Go.Proofs.YtkjfhgoddhigmacGreatDoor
open Go.RowKit
set_option maxRecDepth 100000
set_option maxHeartbeats 16000000 in
theorem rlist_any (cb : Nat) (st : CSt) (S : Nat → Prop) (a : Option Addr) (len cap : Nat) (Z : List Int) (w : World) (hC : CodR w cb st S) (hF : CFit st) (hA : ArgS S w a len cap Z) (hZ : Z.length = len) (hlm : len ≤ 140737488351232) :
    Calls Tryz.prog 31 #[.pointer (some ⟨cb, 0, none⟩), .slice a len cap] w fun e w' => ∃ T, RListTold cb st (dcF st.most (len + 1) st.mi st.AI [] Z) w e w' T ∧ Off S w w' ∧ ∀ k, T k → S k ∨ w.heap.size ≤ k := by
  obtain ⟨i0, hi, hz0, hz1, hz2⟩ := info_parts infoFd
  have h0 : RInv cb st S (dcF st.most (len + 1) st.mi st.AI [] Z) w len (.slice a len cap) (.slice none 0 0) w a len cap (len + 1) Z st.mi st.AI [] S :=
    ⟨rfl, Nat.le_refl _, hZ, hA, World.ownsRow_nil _ _ _ _, fun q hq => by simp [Value.ownBlock] at hq, Off.of_below (Below.refl _ _), fun q hq => Or.inl hq, hC, hF.inn, rfl, by omega, by simp, by simp [weight]⟩
  have H0 := hide h0
  have HF := hide hF
  have HCW := hide hC
  generalize dcF st.most (len + 1) st.mi st.AI [] Z = R at *
  clear h0 hF hC hA hZ
  go_enter Tryz.func31, Tryz.ntmps31
  go_wp2_with fail
  go_loopw [1, 6] (fun b l wr => ∃ a n c k Y mi AI acc T, RInv cb st S R w len b l wr a n c k Y mi AI acc T) (fun b _ _ => lenOf b)
  case atStart => exact ⟨_, _, _, _, _, _, _, _, _, H0.out⟩
  case round =>
    obtain ⟨a, n, c, k, Y, mi, AI, acc, T, inv⟩ := hrel
    have hb := inv.hb
    subst hb
    have hn := inv.hn
    have h40 := inv.h40
    have INV := hide inv
    clear inv H0
    obtain ⟨la, lc, rfl⟩ := dslen_own INV.out.hl
    by_cases hpos : 0 < n
    · obtain ⟨k', hk'⟩ : ∃ k', k = k' + 1 := ⟨k - 1, by have := INV.out.hk; omega⟩
      subst hk'
      rcases INV.out.hA wr INV.out.hO with ⟨h0, _⟩ | ⟨g, off, rfl, hr⟩
      · omega
      have hc0 := hr.hcell 0 hpos
      rw [Nat.add_zero] at hc0
      have hzb := hr.hbyte 0
      have hcap := hr.hcap
      have hmx := hr.hmax
      unfold maxLen at hmx
      obtain ⟨w0, hw0⟩ : ∃ w0, w0 = wr.alloc (.cells #[.string ⟨#[]⟩, .string ⟨#[]⟩] 60) := ⟨_, rfl⟩
      have hb0 : Below wr.heap.size wr w0 := by rw [hw0]; exact (Below.refl _ _).alloc (Nat.le_refl _) _
      have hsz0 : wr.heap.size + 1 ≤ w0.heap.size := by rw [hw0]; simp
      have hk0 : w0.heap[wr.heap.size]? = some (.cells #[.string ⟨#[]⟩, .string ⟨#[]⟩] 60 (0, 0)) := by rw [hw0]; exact Array.getElem?_push_size
      have hArg : Arg w0 (some ⟨g, off, none⟩) n c Y := Or.inr ⟨g, off, rfl, hr.below hb0⟩
      obtain ⟨G, hTI, hturn⟩ := INV.out.hC.inn
      have HTI := hide hTI
      have HTU := hide hturn
      have hYl := INV.out.hY
      have HYL := hide hYl
      have hAl := INV.out.hF.len
      have K0 := hide hk0
      have hcbT := INV.out.hC.hcb
      have hcbl := INV.out.hC.hlt cb hcbT
      have hTB : ¬ T wr.heap.size := fun h => by have := INV.out.hC.hlt _ h; omega
      have hswr := INV.out.hO.size
      -- behind whatever makes memory alone, with the box turned
      have HTS : Hid (∀ wx, Below wr.heap.size wr wx → CodR wx cb { st with mi := mi, AI := AI } T ∧ wx.ownsRow w.heap.size 60 2 (.slice la acc.length lc) acc.length (fcells acc) ∧ Off S w wx) := fun wx hbx =>
        ⟨INV.out.hC.below hbx, own_kept INV.out.hl (fun q hq => hbx.block q (INV.out.hl.lt q hq).2), INV.out.hO.trans (Off.of_below hbx)⟩
      have HNT : Hid (∀ q, (Value.slice la acc.length lc).ownBlock = some q → ¬ T q ∧ w.heap.size ≤ q) := fun q hq => ⟨INV.out.hN q hq, (INV.out.hl.lt q hq).1⟩
      clear hr hTI hturn hk0
      by_cases hz : 31 < Y.getD 0 0 ∧ Y.getD 0 0 < 64
      · have hz'' := hz
        clear hz''
        have hget := rget_arg (some ⟨g, off, none⟩) n c Y 5 w0 hArg (by decide) (by decide)
        have hgb := getF_bd Y 5 (by decide) (by decide)
        rw [hYl] at hgb
        have hgu := getF_used Y 5
        rw [hYl] at hgu
        obtain ⟨u, hu⟩ := Int.eq_ofNat_of_zero_le hgu.1
        have D1 := hide (fun h h' h'' => INV.out.hR.trans (dc_sz_ok st.most k' mi AI acc Y (by omega) hz h h' h''))
        have D2 := hide (fun h => INV.out.hR.trans (dc_sz_bad st.most k' mi AI acc Y (by omega) hz h))
        rw [hu] at hget hgb hgu D1
        have HGB := hide hgb
        generalize Y.getD 0 0 = z at *
        have d1 : decide (127 < z) = false := decide_eq_false (by omega)
        have d2 : decide (63 < z) = false := decide_eq_false (by omega)
        have d3 : decide (31 < z) = true := decide_eq_true (by omega)
        generalize (getF Y 5).1 = gn at *
        generalize (getF Y 5).2.2 = gk at *
        have hun : u ≤ n := by omega
        have HBW := hide hb0
        have c4 : w0.cell? ⟨cb, 4, none⟩ = some (.int .i64 st.most) := (hb0.cell (p := ⟨cb, 4, none⟩) hcbl).trans INV.out.hC.hmost
        clear hz hArg hgb hYl hgu hu hzb
        go_wp2_with fail
        rw [← hw0]
        clear hw0
        refine hget.mono ?_
        rintro e w' ⟨rfl, rfl⟩
        clear hget hc0
        by_cases hk : gk = 0
        · subst hk
          obtain ⟨g0, g1, g2⟩ := HGB.out rfl
          by_cases hmo : st.most < gn
          · have dm : decide (st.most < gn) = true := decide_eq_true hmo
            have HR : Hid (R = ([], 1, mi, AI)) := by
              refine (D2.out (fun h => ?_)).trans ?_
              · omega
              · rw [if_neg (by simp), if_pos hmo]
            have HK : Hid ((1 : Int) ≠ 0) := by show (1 : Int) ≠ 0; decide
            clear D1 D2 HGB
            go_wp2
            go_ret2
            exact ⟨T, Or.inr ⟨by rw [HR.out]; exact HK.out, by rw [HR.out]; rfl, mi, AI, (HTS.out _ HBW.out).1⟩, (HTS.out _ HBW.out).2.2, INV.out.hT⟩
          · have dm : decide (st.most < gn) = false := decide_eq_false hmo
            by_cases hac : 0 < acc.length
            · have da : decide ((0 : Int) < (acc.length : Int)) = true := decide_eq_true (by omega)
              have HR : Hid (R = ([], 6, mi, AI)) := by
                refine (D2.out (fun h => ?_)).trans ?_
                · omega
                · rw [if_neg (by simp), if_neg hmo]
              have HK : Hid ((6 : Int) ≠ 0) := by show (6 : Int) ≠ 0; decide
              clear D1 D2 HGB
              go_wp2
              go_ret2
              exact ⟨T, Or.inr ⟨by rw [HR.out]; exact HK.out, by rw [HR.out]; rfl, mi, AI, (HTS.out _ HBW.out).1⟩, (HTS.out _ HBW.out).2.2, INV.out.hT⟩
            · have da : decide ((0 : Int) < (acc.length : Int)) = false := decide_eq_false (by omega)
              have HR : Hid (R = dcF st.most k' gn (AI.take (keepN AI gn AI.length)) acc (Y.drop u)) := by
                refine (D1.out rfl (by omega) (by omega)).trans ?_
                rw [Int.toNat_natCast]
              obtain ⟨hC0, hO0, hF0⟩ := HTS.out _ hb0
              have hm3 : w0.cell? ⟨cb, 3, none⟩ = some (.int .i64 mi) := (hb0.cell (p := ⟨cb, 3, none⟩) hcbl).trans HTI.out.hmax
              have hf3 : w0.frozen? ⟨cb, 3, none⟩ = false := (hb0.frozen (p := ⟨cb, 3, none⟩) hcbl).trans HTI.out.hfz.2
              obtain ⟨G0, hTI0, htu0⟩ := hC0.inn
              obtain ⟨w1, hw1⟩ : ∃ w1, w1 = w0.setCell ⟨cb, 3, none⟩ (.int .i64 gn) := ⟨_, rfl⟩
              have hT1 : TabR w1 cb 2 gn AI G0 := by rw [hw1]; exact hTI0.setMax gn
              have hsh := rshrink_any cb 2 gn gn AI w1 hT1 (by have h1 := INV.out.hF.h1; have h2 := INV.out.hF.h2; omega)
              obtain ⟨o, ho, hcut⟩ := INV.out.hA.cut u hun hpos
              have HCU := hide hcut
              have b1 : (0 : Int) ≤ (u : Int) := by omega
              have b2 : (u : Int) ≤ (n : Int) := by omega
              have b3 : (u : Int) ≤ (c : Int) := by omega
              have HU1 : Hid (1 ≤ u) := by show 1 ≤ u; omega
              have HG0 := hide g0
              have HMO := hide hmo
              have HTU0 := hide htu0
              have HO0 := hide hO0
              have HF0 := hide hF0
              have HC0 := hide hC0
              clear D1 D2 HGB g0 g1 g2 hcut hmo htu0 hT1 hTI0 hO0 hF0 hC0
              go_wp2_with fail
              rw [← hw1]
              refine hsh.mono ?_
              rintro e w2 ⟨rfl, hbut, hT2⟩
              rw [hw1] at hbut
              have HC2 := hide (HTU0.out gn _ w2 hbut hT2)
              have hblk : ∀ q, q < w0.heap.size → q ≠ cb → w2.heap[q]? = w0.heap[q]? := fun q hq hn => (hbut.block q (by simp; omega) hn).trans (Below.heap_setCell w0 ⟨cb, 3, none⟩ _ q hn)
              have HO2 : Hid (w2.ownsRow w.heap.size 60 2 (.slice la acc.length lc) acc.length (fcells acc)) := own_kept HO0.out (fun q hq => hblk q (HO0.out.lt q hq).2 (fun e => by have h1 := (HNT.out q hq).1; rw [e] at h1; exact h1 hcbT))
              have HF2 : Hid (Off S w w2) := HF0.out.trans2 (((Off.of_below (S := T) (Below.refl _ w0)).setCell cb 3 hcbT (.int .i64 gn)).trans (Off.of_but hbut hcbT)) INV.out.hT
              clear hsh hbut hT2 hblk hw1
              go_wp2
              go_roundw
              case rel =>
                refine ⟨_, n - u, c - u, k', Y.drop u, gn, _, acc, T, ⟨rfl, by omega, by rw [List.length_drop, HYL.out], HCU.out, HO2.out, INV.out.hN, HF2.out, INV.out.hT, HC2.out, Fit.shrink HG0.out (by have h1 := HF.out.hmost.2; have h2 := HMO.out; omega), HR.out, by have h1 := INV.out.hk; have h2 := HU1.out; omega, h40, INV.out.hw⟩⟩
              case measure => have := HU1.out; simp [lenOf]; omega
        · have HR : Hid (R = ([], gk, mi, AI)) := by
            refine (D2.out (fun h => hk h.1)).trans ?_
            rw [if_pos hk]
          have HK := hide hk
          have dk : (gk != 0) = true := by simpa using hk
          clear hk D1 D2 HGB
          go_wp2
          go_ret2
          exact ⟨T, Or.inr ⟨by rw [HR.out]; exact HK.out, by rw [HR.out]; rfl, mi, AI, (HTS.out _ HBW.out).1⟩, (HTS.out _ HBW.out).2.2, INV.out.hT⟩
      · by_cases h127 : 127 < Y.getD 0 0
        · have hz'' := hz
          clear hz''
          have D3 := hide (fun h => INV.out.hR.trans (dc_fl_bad st.most k' mi AI acc Y (by omega) hz h))
          have D4 := hide (fun h h' => INV.out.hR.trans (dc_fl_full st.most k' mi AI acc Y (by omega) hz h h'))
          have D5 := hide (fun h h' => INV.out.hR.trans (dc_fl_ok st.most k' mi AI acc Y (by omega) hz h h'))
          have HBD := hide (fld_bd mi AI Y)
          have HSM := hide (fld_small AI Y INV.out.hF)
          have HFF := hide (INV.out.hF.fld Y)
          have hFE : fldF mi AI Y = (numF AI Y, AI) := by unfold fldF; rw [if_pos h127]
          rw [hFE] at D3 D4 D5 HBD HSM HFF
          clear hFE
          have hget := rget_arg (some ⟨g, off, none⟩) n c Y 7 w0 hArg (by decide) (by decide)
          have hgb := getF_bd Y 7 (by decide) (by decide)
          rw [hYl] at hgb
          have hgu := getF_used Y 7
          rw [hYl] at hgu
          obtain ⟨u, hu⟩ := Int.eq_ofNat_of_zero_le hgu.1
          have HNF : Hid (numF AI Y = if (getF Y 7).2.2 ≠ 0 then (fnone, 0, (getF Y 7).2.2) else if 1 ≤ (getF Y 7).1 ∧ (getF Y 7).1 ≤ ((12 + AI.length : Nat) : Int) then ((alwaysL ++ AI).getD ((getF Y 7).1 - 1).toNat fnone, (getF Y 7).2.1, 0) else (fnone, 0, 5)) := rfl
          rw [hu] at hget hgb hgu HNF
          generalize numF AI Y = FF at *
          have HGB := hide hgb
          generalize Y.getD 0 0 = z at *
          have d1 : decide (127 < z) = true := decide_eq_true (by omega)
          generalize (getF Y 7).1 = gn at *
          generalize (getF Y 7).2.2 = gk at *
          have hun' : u ≤ n := by omega
          have hall := rall_any cb 2 mi AI w0 (HTI.out.below hb0) (by omega)
          clear hz hArg hgb hYl hgu hu hzb h127
          go_wp2_with fail
          rw [← hw0]
          clear hw0
          refine hget.mono ?_
          rintro e w' ⟨rfl, rfl⟩
          clear hget hc0
          go_wp2_with fail
          refine hall.mono ?_
          rintro e w2 ⟨gg, cc, rfl, hfr, hbe2⟩
          have HBW := hide (hb0.trans (hbe2.mono (by omega)))
          have hfc := hfr.hcap
          have hfm := hfr.hmax
          unfold maxLen at hfm
          have HFR := hide hfr
          have k2 := (hbe2.block wr.heap.size (by omega)).trans K0.out
          have hs2 := hbe2.size
          clear hall hfr hbe2
          by_cases hk : gk = 0
          · subst hk
            obtain ⟨g0, g1, g2⟩ := HGB.out rfl
            obtain ⟨m, rfl⟩ := Int.eq_ofNat_of_zero_le g0
            by_cases hin : 1 ≤ m ∧ m ≤ 12 + AI.length
            · obtain ⟨m', rfl⟩ : ∃ m', m = m' + 1 := ⟨m - 1, by omega⟩
              have HE : Hid (FF = ((alwaysL ++ AI).getD m' fnone, (u : Int), 0)) := by
                show FF = _
                rw [HNF.out, if_neg (by simp), if_pos (by omega), show (((m' + 1 : Nat) : Int) - 1).toNat = m' by omega]
              rw [HE.out] at D3 D4 D5 HBD HSM
              have cn := HFR.out.hname m' (by omega)
              have cv := HFR.out.hvalue m' (by omega)
              rw [Nat.zero_add] at cn cv
              generalize (alwaysL ++ AI).getD m' fnone = fx at *
              obtain ⟨fn, fv⟩ := fx
              simp only at D3 D4 D5 HBD HSM cn cv
              have hsm := HSM.out (by simp)
              have u1 : 1 ≤ u := by omega
              have u2 : u ≤ n := hun'
              have i1 : decide ((m' : Int) + 1 < 1) = false := decide_eq_false (by omega)
              have i2 : decide (((12 + AI.length : Nat) : Int) < (m' : Int) + 1) = false := decide_eq_false (by omega)
              have im1 : (m' : Int) < ((12 + AI.length : Nat) : Int) := by omega
              generalize 12 + AI.length = nA at *
              obtain ⟨⟨q0, q1, f0, f1⟩, qa, qb⟩ := box_rules k2
              have qa0 := fun a => (qa a).1
              have qa1 := fun a => (qa a).2
              have qc := fun a b => (box_at (qb a b)).1
              have qd := fun a b => (box_at (qb a b)).2
              have HBX : Hid (Below wr.heap.size wr ((w2.setCell ⟨wr.heap.size, 0, none⟩ (.string fn)).setCell ⟨wr.heap.size, 1, none⟩ (.string fv))) := Below.setCell (Below.setCell HBW.out (by simp) _) (by simp) _
              clear HBW HNF HE HGB g0 g1 g2 HFR qa qb
              have HBW := HBX
              obtain ⟨A', hA'⟩ : ∃ A', A' = AI := ⟨_, rfl⟩
              rw [← hA'] at D3 D4 D5 HFF
              have HCq : Hid (CodR ((w2.setCell ⟨wr.heap.size, 0, none⟩ (.string fn)).setCell ⟨wr.heap.size, 1, none⟩ (.string fv)) cb { st with mi := mi, AI := AI } T) := (HTS.out _ HBW.out).1
              have HOq : Hid ((((w2.setCell ⟨wr.heap.size, 0, none⟩ (.string fn)).setCell ⟨wr.heap.size, 1, none⟩ (.string fv))).ownsRow w.heap.size 60 2 (.slice la acc.length lc) acc.length (fcells acc)) := (HTS.out _ HBW.out).2.1
              have HF1 : Hid (Off S w ((w2.setCell ⟨wr.heap.size, 0, none⟩ (.string fn)).setCell ⟨wr.heap.size, 1, none⟩ (.string fv))) := (HTS.out _ HBW.out).2.2
              have HN1 := HNT
              have HT1 : Hid (∀ q, T q → S q ∨ w.heap.size ≤ q) := INV.out.hT
              rw [← hA'] at HCq
              obtain ⟨T1, hT1⟩ : ∃ T1, T1 = T := ⟨_, rfl⟩
              rw [← hT1] at HCq HT1 HN1
              clear hT1 hA'
              have hun : u ≤ n := u2
              obtain ⟨o, ho, hcut⟩ := INV.out.hA.cut u hun hpos
              have HCU := hide hcut
              have b1 : (0 : Int) ≤ (u : Int) := by omega
              have b2 : (u : Int) ≤ (n : Int) := by omega
              have b3 : (u : Int) ≤ (c : Int) := by omega
              have HAD : Hid (((w2.setCell ⟨wr.heap.size, 0, none⟩ (.string fn)).setCell ⟨wr.heap.size, 1, none⟩ (.string fv)).heap.size = w2.heap.size) := by show ((w2.setCell ⟨wr.heap.size, 0, none⟩ (.string fn)).setCell ⟨wr.heap.size, 1, none⟩ (.string fv)).heap.size = _; simp
              have HBB : Hid (Below ((w2.setCell ⟨wr.heap.size, 0, none⟩ (.string fn)).setCell ⟨wr.heap.size, 1, none⟩ (.string fv)).heap.size ((w2.setCell ⟨wr.heap.size, 0, none⟩ (.string fn)).setCell ⟨wr.heap.size, 1, none⟩ (.string fv)) (((w2.setCell ⟨wr.heap.size, 0, none⟩ (.string fn)).setCell ⟨wr.heap.size, 1, none⟩ (.string fv)).alloc (.cells #[.string fn, .string fv] 60))) := (Below.refl _ _).alloc (Nat.le_refl _) _
              have HNW : Hid (∀ j u, [Value.string fn, .string fv][j]? = some u → (((w2.setCell ⟨wr.heap.size, 0, none⟩ (.string fn)).setCell ⟨wr.heap.size, 1, none⟩ (.string fv)).alloc (.cells #[.string fn, .string fv] 60)).cell? ((⟨w2.heap.size, 0, none⟩ : Addr).add j) = some u) := by
                have h := World.news_of_block (w := ((w2.setCell ⟨wr.heap.size, 0, none⟩ (.string fn)).setCell ⟨wr.heap.size, 1, none⟩ (.string fv)).alloc (.cells #[.string fn, .string fv] 60)) (B := ((w2.setCell ⟨wr.heap.size, 0, none⟩ (.string fn)).setCell ⟨wr.heap.size, 1, none⟩ (.string fv)).heap.size) (cs := #[.string fn, .string fv]) (t := 60) (fr := (0, 0)) Array.getElem?_push_size
                rw [HAD.out] at h
                exact h
              have HOB : Hid ((((w2.setCell ⟨wr.heap.size, 0, none⟩ (.string fn)).setCell ⟨wr.heap.size, 1, none⟩ (.string fv)).alloc (.cells #[.string fn, .string fv] 60)).ownsRow w.heap.size 60 2 (.slice la acc.length lc) acc.length (fcells acc)) := own_kept HOq.out (fun q hq => HBB.out.block q (HOq.out.lt q hq).2)
              have hsW := HF1.out.size
              clear hcut HOq
              go_wp2_with (at_builtin; refine wpList_append_own_at _ rfl _ _ 38 rfl w.heap.size 60 i0 _ 2 32 Tryz.underlying38 hi hz0 hz1 hz2 rfl (by decide) _ _ _ rfl HOB.out ⟨w2.heap.size, 0, none⟩ 1 1 [.string fn, .string fv] rfl rfl HNW.out (by intro u hu; simp at hu; rcases hu with rfl | rfl <;> rfl) ?c3 ?c4 ?c5 ?_)
              case c3 => unfold maxLen; omega
              case c4 => omega
              case c5 => have h1 := HBB.out.size; have h2 := HAD.out; omega
              intro v3 w3 hown3 hgrow3 _ hat3
              have hown3' : w3.ownsRow w.heap.size 60 2 v3 (acc.length + 1) (fcells (acc ++ [(fn, fv)])) := by rw [fcells_append]; exact hown3
              obtain ⟨g3, cap3, rfl, hg3, hl3⟩ := World.ownsRow.form hown3' (by omega)
              have HO3 := hide hown3'
              have HG3 := hide hgrow3
              have HA3 := hide hat3
              have hwt : weight (acc ++ [(fn, fv)]) ≤ 20000 := by
                have h1 := INV.out.hw
                rw [weight_append, weight_one]
                unfold fsize
                simp only
                omega
              have HLA : Hid ((acc ++ [(fn, fv)]).length = acc.length + 1) := by show (acc ++ [(fn, fv)]).length = acc.length + 1; simp
              have HRW : Hid (Calls Tryz.prog 12 #[.slice (some ⟨g3, 0, none⟩) (acc.length + 1) cap3] w3 fun e w' => e = .returned (.int .i64 (weight (acc ++ [(fn, fv)]) : Int)) ∧ Below w3.heap.size w3 w') := rweight_arg (some ⟨g3, 0, none⟩) (acc.length + 1) cap3 (acc ++ [(fn, fv)]) w3 (Or.inr ⟨g3, 0, rfl, dfrow_of HLA.out HO3.out⟩) (by omega)
              have HFin : Hid (∀ wz, Below w3.heap.size w3 wz → Off S w wz ∧ CodR wz cb { st with mi := mi, AI := A' } T1 ∧ wz.ownsRow w.heap.size 60 2 (.slice (some ⟨g3, 0, none⟩) (acc.length + 1) cap3) (acc.length + 1) (fcells (acc ++ [(fn, fv)])) ∧ ¬ T1 g3) := fun wz hbz => by
                have hCB := HCq.out.below HBB.out
                have hC3 := hCB.frame HG3.out.size (fun q hq => HG3.out.block q (hCB.hlt q hq) (fun e => (HN1.out q e.symm).1 hq))
                have hF3 : Off S w w3 := (HF1.out.trans (Off.of_below HBB.out)).trans2 (off_grown HG3.out) (fun q hq => Or.inr (HN1.out q hq).2)
                refine ⟨hF3.trans (Off.of_below hbz), hC3.below hbz, own_kept HO3.out (fun q hq => hbz.block q (HO3.out.lt q hq).2), fun h => ?_⟩
                rcases HA3.out with e | e
                · exact (HN1.out g3 (e.symm.trans rfl)).1 h
                · have e2 : g3 = (((w2.setCell ⟨wr.heap.size, 0, none⟩ (.string fn)).setCell ⟨wr.heap.size, 1, none⟩ (.string fv)).alloc (.cells #[.string fn, .string fv] 60)).heap.size := by simpa [Value.ownBlock] using e
                  have h1 := HCq.out.hlt _ h
                  have h2 := HBB.out.size
                  omega
              clear hown3 hown3' hgrow3 hat3 HOB HNW
              by_cases h41 : acc.length + 1 ≤ 40
              · have dl : decide ((40 : Int) < (acc.length : Int) + 1) = false := decide_eq_false (by omega)
                by_cases hful : weight (acc ++ [(fn, fv)]) ≤ 2000
                · have HR : Hid (R = dcF st.most k' mi A' (acc ++ [(fn, fv)]) (Y.drop u)) := by
                    exact (D5.out (by simp) (by rw [HLA.out]; omega)).trans (by rw [Int.toNat_natCast])
                  have HFU := hide hful
                  have dw : decide ((2000 : Int) < (weight (acc ++ [(fn, fv)]) : Int)) = false := decide_eq_false (by omega)
                  have HU1 := hide u1
                  clear D3 D4 D5 hwt u1 u2 hful
                  obtain ⟨wl, hwl⟩ : ∃ wl, wl = weight (acc ++ [(fn, fv)]) := ⟨_, rfl⟩
                  rw [← hwl] at HRW dw
                  clear hwl
                  go_wp2_with fail
                  refine HRW.out.mono ?_
                  rintro e w4 ⟨rfl, hb4⟩
                  have HZ4 := hide (HFin.out w4 hb4)
                  clear HRW hb4
                  go_wp2
                  go_roundw
                  case rel =>
                    obtain ⟨z1, z2, z3, z4⟩ := HZ4.out
                    refine ⟨_, n - u, c - u, k', Y.drop u, mi, A', acc ++ [(fn, fv)], T1, ⟨rfl, by omega, by rw [List.length_drop, HYL.out], HCU.out, ?_, ?_, z1, HT1.out, z2, HFF.out, HR.out, by have h1 := INV.out.hk; have h2 := HU1.out; omega, by rw [HLA.out]; exact h41, HFU.out⟩⟩
                    · rw [HLA.out]; exact z3
                    · intro q hq
                      have e : g3 = q := by simpa [Value.ownBlock] using hq
                      subst e
                      exact z4
                  case measure => have := HU1.out; simp [lenOf]; omega
                · have HR : Hid (R = ([], 4, mi, A')) := by
                    exact D4.out (by simp) (by rw [HLA.out]; omega)
                  have dw : decide ((2000 : Int) < (weight (acc ++ [(fn, fv)]) : Int)) = true := decide_eq_true (by omega)
                  clear D3 D4 D5 hwt u1 u2 hful
                  obtain ⟨wl, hwl⟩ : ∃ wl, wl = weight (acc ++ [(fn, fv)]) := ⟨_, rfl⟩
                  rw [← hwl] at HRW dw
                  clear hwl
                  go_wp2_with fail
                  refine HRW.out.mono ?_
                  rintro e w4 ⟨rfl, hb4⟩
                  have HZ4 := hide (HFin.out w4 hb4)
                  clear HRW hb4
                  go_wp2
                  go_ret2
                  obtain ⟨z1, z2, z3, z4⟩ := HZ4.out
                  exact ⟨T1, Or.inr ⟨by rw [HR.out]; exact (by decide : (4 : Int) ≠ 0), by rw [HR.out]; rfl, mi, A', z2⟩, z1, HT1.out⟩
              · have dl : decide ((40 : Int) < (acc.length : Int) + 1) = true := decide_eq_true (by omega)
                have HR : Hid (R = ([], 4, mi, A')) := by
                  exact D4.out (by simp) (by rw [HLA.out]; omega)
                have HZ4 := hide (HFin.out w3 (Below.refl _ _))
                clear D3 D4 D5 hwt u1 u2 HRW
                go_wp2
                go_ret2
                obtain ⟨z1, z2, z3, z4⟩ := HZ4.out
                exact ⟨T1, Or.inr ⟨by rw [HR.out]; exact (by decide : (4 : Int) ≠ 0), by rw [HR.out]; rfl, mi, A', z2⟩, z1, HT1.out⟩
            · have HE : Hid (FF = (fnone, 0, 5)) := by
                show FF = _
                rw [HNF.out, if_neg (by simp), if_neg (by omega)]
              rw [HE.out] at D3
              have HR : Hid (R = ([], 5, mi, AI)) := D3.out (by decide)
              have HK : Hid ((5 : Int) ≠ 0) := by show (5 : Int) ≠ 0; decide
              clear D3 D4 D5 HNF HE HGB g0 g1 g2 HBD HSM HFF
              by_cases hm1 : m < 1
              · have i1 : decide ((m : Int) < 1) = true := decide_eq_true (by omega)
                go_wp2
                go_ret2
                exact ⟨T, Or.inr ⟨by rw [HR.out]; exact HK.out, by rw [HR.out]; rfl, mi, AI, (HTS.out _ HBW.out).1⟩, (HTS.out _ HBW.out).2.2, INV.out.hT⟩
              · have i1 : decide ((m : Int) < 1) = false := decide_eq_false (by omega)
                have i2 : decide (((12 + AI.length : Nat) : Int) < (m : Int)) = true := decide_eq_true (by omega)
                generalize 12 + AI.length = nA at *
                go_wp2
                go_ret2
                exact ⟨T, Or.inr ⟨by rw [HR.out]; exact HK.out, by rw [HR.out]; rfl, mi, AI, (HTS.out _ HBW.out).1⟩, (HTS.out _ HBW.out).2.2, INV.out.hT⟩
          · have HE : Hid (FF = (fnone, 0, gk)) := by
              show FF = _
              rw [HNF.out, if_pos hk]
            rw [HE.out] at D3
            have HR : Hid (R = ([], gk, mi, AI)) := D3.out hk
            have HK := hide hk
            have dk : (gk != 0) = true := by simpa using hk
            have dk2 : (gk == 0) = false := by simpa using hk
            clear hk D3 D4 D5 HNF HE HGB HBD HSM HFF
            go_wp2
            go_ret2
            exact ⟨T, Or.inr ⟨by rw [HR.out]; exact HK.out, by rw [HR.out]; rfl, mi, AI, (HTS.out _ HBW.out).1⟩, (HTS.out _ HBW.out).2.2, INV.out.hT⟩
        · by_cases h63 : 63 < Y.getD 0 0
          · have hz'' := hz
            clear hz''
            have D3 := hide (fun h => INV.out.hR.trans (dc_fl_bad st.most k' mi AI acc Y (by omega) hz h))
            have D4 := hide (fun h h' => INV.out.hR.trans (dc_fl_full st.most k' mi AI acc Y (by omega) hz h h'))
            have D5 := hide (fun h h' => INV.out.hR.trans (dc_fl_ok st.most k' mi AI acc Y (by omega) hz h h'))
            have HBD := hide (fld_bd mi AI Y)
            have HSM := hide (fld_small AI Y INV.out.hF)
            have HFF := hide (INV.out.hF.fld Y)
            have hFE : fldF mi AI Y = (litF AI Y 6, if (litF AI Y 6).2.2 = 0 then (addL AI (litF AI Y 6).1 mi).2 else AI) := by unfold fldF; rw [if_neg h127, if_pos h63]
            rw [hFE] at D3 D4 D5 HBD HSM HFF
            clear hFE
            have hlit := rlit_any cb mi AI G (some ⟨g, off, none⟩) n c Y 6 w0 (HTI.out.below hb0) (by omega) hArg (by decide) (by decide) (by omega)
            have HNV := hide (lit_small AI Y 6 INV.out.hF)
            unfold lval2 at hlit
            generalize litF AI Y 6 = FF at *
            obtain ⟨⟨fn, fv⟩, fu, fk⟩ := FF
            simp only at hlit D3 D4 D5 HBD HSM HFF HNV
            generalize Y.getD 0 0 = z at *
            have d1 : decide (127 < z) = false := decide_eq_false (by omega)
            have d2 : decide (63 < z) = true := decide_eq_true (by omega)
            clear hz hArg hYl
            go_wp2_with fail
            rw [← hw0]
            clear hw0
            refine hlit.mono ?_
            rintro e w1 ⟨rfl, hbe1⟩
            have HB1 := hide (hb0.trans (hbe1.mono (by omega)))
            have hs1 := hbe1.size
            have k1 := (hbe1.block wr.heap.size (by omega)).trans K0.out
            obtain ⟨⟨q0, q1, f0, f1⟩, qa, qb⟩ := box_rules k1
            have qa0 := fun a => (qa a).1
            have qa1 := fun a => (qa a).2
            have qc := fun a b => (box_at (qb a b)).1
            have qd := fun a b => (box_at (qb a b)).2
            have HBW : Hid (Below wr.heap.size wr ((w1.setCell ⟨wr.heap.size, 0, none⟩ (.string fn)).setCell ⟨wr.heap.size, 1, none⟩ (.string fv))) := Below.setCell (Below.setCell HB1.out (by simp) _) (by simp) _
            clear hlit hbe1 hc0 qa
            by_cases hk : fk = 0
            · subst hk
              obtain ⟨u1, u2⟩ := HBD.out (by simp)
              rw [HYL.out] at u2
              obtain ⟨u, rfl⟩ := Int.eq_ofNat_of_zero_le (show 0 ≤ fu by omega)
              have hsm := HSM.out (by simp)
              have u1' : 1 ≤ u := by omega
              have u2' : u ≤ n := by omega
              clear u1 u2
              have u1 := u1'
              have u2 := u2'
              clear u1' u2'
              obtain ⟨w2, hw2⟩ : ∃ w2, w2 = (w1.setCell ⟨wr.heap.size, 0, none⟩ (.string fn)).setCell ⟨wr.heap.size, 1, none⟩ (.string fv) := ⟨_, rfl⟩
              have k2 : w2.heap[wr.heap.size]? = some (.cells #[.string fn, .string fv] 60 (0, 0)) := by rw [hw2]; exact qb _ _
              obtain ⟨p0, p1⟩ := box_at k2
              have K2 := hide k2
              rw [← hw2] at HBW
              have hBd : Below wr.heap.size wr w2.drew := HBW.out.trans (((Below.refl _ _).drew).mono HBW.out.size)
              have hadd := radd_any cb 2 mi AI fn fv w2.drew (HTI.out.below hBd) INV.out.hF (by have := HNV.out (by simp); omega)
              have hgl : wr.heap.size < w2.heap.size := lt_of_heap k2
              have hne : wr.heap.size ≠ cb := by omega
              have HBd := hide hBd
              clear qb k2 hBd q0 q1 f0 f1 qa0 qa1 qc qd
              have q0 : w1.cell? ⟨wr.heap.size, 0, none⟩ = some (.string ⟨#[]⟩) := (cell_at k1 0).trans rfl
              have q1 : w1.cell? ⟨wr.heap.size, 1, none⟩ = some (.string ⟨#[]⟩) := (cell_at k1 1).trans rfl
              have f0 : w1.frozen? ⟨wr.heap.size, 0, none⟩ = false := frozen_at k1 0
              have f1 : w1.frozen? ⟨wr.heap.size, 1, none⟩ = false := frozen_at k1 1
              clear k1
              go_wp2_with fail
              rw [← hw2]
              clear hw2
              go_region_held3 (fun w' => w'.cell? ⟨wr.heap.size, 0, none⟩ = some (.string fn) ∧ w'.cell? ⟨wr.heap.size, 1, none⟩ = some (.string fv))
                (first | go_keep | (exact ⟨(World.cell?_of_block (w := w2.drew) (a := ⟨wr.heap.size, 0, none⟩) (hbut5.block _ (by simpa using hgl) hne)).trans p0, (World.cell?_of_block (w := w2.drew) (a := ⟨wr.heap.size, 1, none⟩) (hbut5.block _ (by simpa using hgl) hne)).trans p1⟩))
                ((go_at_call 23; refine hadd.mono ?_; rintro e w5 ⟨rfl, hbut5, hT5⟩))
              have hC2 := (HTS.out _ HBd.out).1
              have HCq := hide (hC2.setInn hbut5 mi _ hT5)
              have hO2 := (HTS.out _ HBd.out).2.1
              have HOq : Hid (w5.ownsRow w.heap.size 60 2 (.slice la acc.length lc) acc.length (fcells acc)) := own_kept hO2 (fun q hq => hbut5.block q (hO2.lt q hq).2 (fun e => by have h1 := (HNT.out q hq).1; rw [e] at h1; exact h1 hcbT))
              have HF1 : Hid (Off S w w5) := (HTS.out _ HBd.out).2.2.trans2 (Off.of_but (S := T) hbut5 hcbT) INV.out.hT
              have HN1 : Hid (∀ q, (Value.slice la acc.length lc).ownBlock = some q → ¬ (T q ∨ (w2.drew.heap.size ≤ q ∧ q < w5.heap.size)) ∧ w.heap.size ≤ q) := fun q hq => ⟨fun h => by
                rcases h with h | h
                · exact (HNT.out q hq).1 h
                · have h1 := (hO2.lt q hq).2; omega, (HNT.out q hq).2⟩
              have HT1 : Hid (∀ q, T q ∨ (w2.drew.heap.size ≤ q ∧ q < w5.heap.size) → S q ∨ w.heap.size ≤ q) := fun q hq => by
                rcases hq with h | h
                · exact INV.out.hT q h
                · have h1 := HBd.out.size; right; omega
              have k50 : w5.cell? ⟨wr.heap.size, 0, none⟩ = some (.string fn) := (World.cell?_of_block (w := w2.drew) (a := ⟨wr.heap.size, 0, none⟩) (hbut5.block _ (by simpa using hgl) hne)).trans p0
              have k51 : w5.cell? ⟨wr.heap.size, 1, none⟩ = some (.string fv) := (World.cell?_of_block (w := w2.drew) (a := ⟨wr.heap.size, 1, none⟩) (hbut5.block _ (by simpa using hgl) hne)).trans p1
              obtain ⟨T1, hT1⟩ : ∃ T1 : Nat → Prop, T1 = fun q => T q ∨ (w2.drew.heap.size ≤ q ∧ q < w5.heap.size) := ⟨_, rfl⟩
              simp only [← hT1] at HCq
              have HN1' : Hid (∀ q, (Value.slice la acc.length lc).ownBlock = some q → ¬ T1 q ∧ w.heap.size ≤ q) := by rw [hT1]; exact HN1
              have HT1' : Hid (∀ q, T1 q → S q ∨ w.heap.size ≤ q) := by rw [hT1]; exact HT1
              clear HN1 HT1 hT1 hadd hbut5 hT5 hC2 hO2
              have HN1 := HN1'
              have HT1 := HT1'
              clear HN1' HT1'
              simp only [if_true] at D4 D5 HFF
              generalize (addL AI (fn, fv) mi).2 = A' at *
              have hun : u ≤ n := u2
              obtain ⟨o, ho, hcut⟩ := INV.out.hA.cut u hun hpos
              have HCU := hide hcut
              have b1 : (0 : Int) ≤ (u : Int) := by omega
              have b2 : (u : Int) ≤ (n : Int) := by omega
              have b3 : (u : Int) ≤ (c : Int) := by omega
              have HAD : Hid ((w5).heap.size = w5.heap.size) := by show (w5).heap.size = _; simp
              have HBB : Hid (Below (w5).heap.size (w5) ((w5).alloc (.cells #[.string fn, .string fv] 60))) := (Below.refl _ _).alloc (Nat.le_refl _) _
              have HNW : Hid (∀ j u, [Value.string fn, .string fv][j]? = some u → ((w5).alloc (.cells #[.string fn, .string fv] 60)).cell? ((⟨w5.heap.size, 0, none⟩ : Addr).add j) = some u) := by
                have h := World.news_of_block (w := (w5).alloc (.cells #[.string fn, .string fv] 60)) (B := (w5).heap.size) (cs := #[.string fn, .string fv]) (t := 60) (fr := (0, 0)) Array.getElem?_push_size
                rw [HAD.out] at h
                exact h
              have HOB : Hid (((w5).alloc (.cells #[.string fn, .string fv] 60)).ownsRow w.heap.size 60 2 (.slice la acc.length lc) acc.length (fcells acc)) := own_kept HOq.out (fun q hq => HBB.out.block q (HOq.out.lt q hq).2)
              have hsW := HF1.out.size
              clear hcut HOq
              go_wp2_with (at_builtin; refine wpList_append_own_at _ rfl _ _ 38 rfl w.heap.size 60 i0 _ 2 32 Tryz.underlying38 hi hz0 hz1 hz2 rfl (by decide) _ _ _ rfl HOB.out ⟨w5.heap.size, 0, none⟩ 1 1 [.string fn, .string fv] rfl rfl HNW.out (by intro u hu; simp at hu; rcases hu with rfl | rfl <;> rfl) ?c3 ?c4 ?c5 ?_)
              case c3 => unfold maxLen; omega
              case c4 => omega
              case c5 => have h1 := HBB.out.size; have h2 := HAD.out; omega
              intro v3 w3 hown3 hgrow3 _ hat3
              have hown3' : w3.ownsRow w.heap.size 60 2 v3 (acc.length + 1) (fcells (acc ++ [(fn, fv)])) := by rw [fcells_append]; exact hown3
              obtain ⟨g3, cap3, rfl, hg3, hl3⟩ := World.ownsRow.form hown3' (by omega)
              have HO3 := hide hown3'
              have HG3 := hide hgrow3
              have HA3 := hide hat3
              have hwt : weight (acc ++ [(fn, fv)]) ≤ 20000 := by
                have h1 := INV.out.hw
                rw [weight_append, weight_one]
                unfold fsize
                simp only
                omega
              have HLA : Hid ((acc ++ [(fn, fv)]).length = acc.length + 1) := by show (acc ++ [(fn, fv)]).length = acc.length + 1; simp
              have HRW : Hid (Calls Tryz.prog 12 #[.slice (some ⟨g3, 0, none⟩) (acc.length + 1) cap3] w3 fun e w' => e = .returned (.int .i64 (weight (acc ++ [(fn, fv)]) : Int)) ∧ Below w3.heap.size w3 w') := rweight_arg (some ⟨g3, 0, none⟩) (acc.length + 1) cap3 (acc ++ [(fn, fv)]) w3 (Or.inr ⟨g3, 0, rfl, dfrow_of HLA.out HO3.out⟩) (by omega)
              have HFin : Hid (∀ wz, Below w3.heap.size w3 wz → Off S w wz ∧ CodR wz cb { st with mi := mi, AI := A' } T1 ∧ wz.ownsRow w.heap.size 60 2 (.slice (some ⟨g3, 0, none⟩) (acc.length + 1) cap3) (acc.length + 1) (fcells (acc ++ [(fn, fv)])) ∧ ¬ T1 g3) := fun wz hbz => by
                have hCB := HCq.out.below HBB.out
                have hC3 := hCB.frame HG3.out.size (fun q hq => HG3.out.block q (hCB.hlt q hq) (fun e => (HN1.out q e.symm).1 hq))
                have hF3 : Off S w w3 := (HF1.out.trans (Off.of_below HBB.out)).trans2 (off_grown HG3.out) (fun q hq => Or.inr (HN1.out q hq).2)
                refine ⟨hF3.trans (Off.of_below hbz), hC3.below hbz, own_kept HO3.out (fun q hq => hbz.block q (HO3.out.lt q hq).2), fun h => ?_⟩
                rcases HA3.out with e | e
                · exact (HN1.out g3 (e.symm.trans rfl)).1 h
                · have e2 : g3 = ((w5).alloc (.cells #[.string fn, .string fv] 60)).heap.size := by simpa [Value.ownBlock] using e
                  have h1 := HCq.out.hlt _ h
                  have h2 := HBB.out.size
                  omega
              clear hown3 hown3' hgrow3 hat3 HOB HNW
              by_cases h41 : acc.length + 1 ≤ 40
              · have dl : decide ((40 : Int) < (acc.length : Int) + 1) = false := decide_eq_false (by omega)
                by_cases hful : weight (acc ++ [(fn, fv)]) ≤ 2000
                · have HR : Hid (R = dcF st.most k' mi A' (acc ++ [(fn, fv)]) (Y.drop u)) := by
                    exact (D5.out (by simp) (by rw [HLA.out]; omega)).trans (by rw [Int.toNat_natCast])
                  have HFU := hide hful
                  have dw : decide ((2000 : Int) < (weight (acc ++ [(fn, fv)]) : Int)) = false := decide_eq_false (by omega)
                  have HU1 := hide u1
                  clear D3 D4 D5 hwt u1 u2 hful
                  obtain ⟨wl, hwl⟩ : ∃ wl, wl = weight (acc ++ [(fn, fv)]) := ⟨_, rfl⟩
                  rw [← hwl] at HRW dw
                  clear hwl
                  go_wp2_with fail
                  refine HRW.out.mono ?_
                  rintro e w4 ⟨rfl, hb4⟩
                  have HZ4 := hide (HFin.out w4 hb4)
                  clear HRW hb4
                  go_wp2
                  go_roundw
                  case rel =>
                    obtain ⟨z1, z2, z3, z4⟩ := HZ4.out
                    refine ⟨_, n - u, c - u, k', Y.drop u, mi, A', acc ++ [(fn, fv)], T1, ⟨rfl, by omega, by rw [List.length_drop, HYL.out], HCU.out, ?_, ?_, z1, HT1.out, z2, HFF.out, HR.out, by have h1 := INV.out.hk; have h2 := HU1.out; omega, by rw [HLA.out]; exact h41, HFU.out⟩⟩
                    · rw [HLA.out]; exact z3
                    · intro q hq
                      have e : g3 = q := by simpa [Value.ownBlock] using hq
                      subst e
                      exact z4
                  case measure => have := HU1.out; simp [lenOf]; omega
                · have HR : Hid (R = ([], 4, mi, A')) := by
                    exact D4.out (by simp) (by rw [HLA.out]; omega)
                  have dw : decide ((2000 : Int) < (weight (acc ++ [(fn, fv)]) : Int)) = true := decide_eq_true (by omega)
                  clear D3 D4 D5 hwt u1 u2 hful
                  obtain ⟨wl, hwl⟩ : ∃ wl, wl = weight (acc ++ [(fn, fv)]) := ⟨_, rfl⟩
                  rw [← hwl] at HRW dw
                  clear hwl
                  go_wp2_with fail
                  refine HRW.out.mono ?_
                  rintro e w4 ⟨rfl, hb4⟩
                  have HZ4 := hide (HFin.out w4 hb4)
                  clear HRW hb4
                  go_wp2
                  go_ret2
                  obtain ⟨z1, z2, z3, z4⟩ := HZ4.out
                  exact ⟨T1, Or.inr ⟨by rw [HR.out]; exact (by decide : (4 : Int) ≠ 0), by rw [HR.out]; rfl, mi, A', z2⟩, z1, HT1.out⟩
              · have dl : decide ((40 : Int) < (acc.length : Int) + 1) = true := decide_eq_true (by omega)
                have HR : Hid (R = ([], 4, mi, A')) := by
                  exact D4.out (by simp) (by rw [HLA.out]; omega)
                have HZ4 := hide (HFin.out w3 (Below.refl _ _))
                clear D3 D4 D5 hwt u1 u2 HRW
                go_wp2
                go_ret2
                obtain ⟨z1, z2, z3, z4⟩ := HZ4.out
                exact ⟨T1, Or.inr ⟨by rw [HR.out]; exact (by decide : (4 : Int) ≠ 0), by rw [HR.out]; rfl, mi, A', z2⟩, z1, HT1.out⟩
            · have HR : Hid (R = ([], fk, mi, _)) := D3.out hk
              have HK := hide hk
              have dk : (fk != 0) = true := by simpa using hk
              have dk2 : (fk == 0) = false := by simpa using hk
              clear hk D3 D4 D5 qb
              go_wp2
              go_ret2
              exact ⟨T, Or.inr ⟨by rw [HR.out]; exact HK.out, by rw [HR.out]; rfl, mi, AI, (HTS.out _ HBW.out).1⟩, (HTS.out _ HBW.out).2.2, INV.out.hT⟩
          · have h31 : Y.getD 0 0 ≤ 31 := by omega
            have D3 := hide (fun h => INV.out.hR.trans (dc_fl_bad st.most k' mi AI acc Y (by omega) hz h))
            have D4 := hide (fun h h' => INV.out.hR.trans (dc_fl_full st.most k' mi AI acc Y (by omega) hz h h'))
            have D5 := hide (fun h h' => INV.out.hR.trans (dc_fl_ok st.most k' mi AI acc Y (by omega) hz h h'))
            have HBD := hide (fld_bd mi AI Y)
            have HSM := hide (fld_small AI Y INV.out.hF)
            have HFF := hide (INV.out.hF.fld Y)
            have hFE : fldF mi AI Y = (litF AI Y 4, AI) := by unfold fldF; rw [if_neg h127, if_neg h63]
            rw [hFE] at D3 D4 D5 HBD HSM HFF
            clear hFE
            have hlit := rlit_any cb mi AI G (some ⟨g, off, none⟩) n c Y 4 w0 (HTI.out.below hb0) (by omega) hArg (by decide) (by decide) (by omega)
            have HNV := hide (lit_small AI Y 4 INV.out.hF)
            unfold lval2 at hlit
            generalize litF AI Y 4 = FF at *
            obtain ⟨⟨fn, fv⟩, fu, fk⟩ := FF
            simp only at hlit D3 D4 D5 HBD HSM HFF HNV
            generalize Y.getD 0 0 = z at *
            have d1 : decide (127 < z) = false := decide_eq_false (by omega)
            have d2 : decide (63 < z) = false := decide_eq_false (by omega)
            have d3 : decide (31 < z) = false := decide_eq_false (by omega)
            clear hz hArg hYl
            go_wp2_with fail
            rw [← hw0]
            clear hw0
            refine hlit.mono ?_
            rintro e w1 ⟨rfl, hbe1⟩
            have HB1 := hide (hb0.trans (hbe1.mono (by omega)))
            have hs1 := hbe1.size
            have k1 := (hbe1.block wr.heap.size (by omega)).trans K0.out
            obtain ⟨⟨q0, q1, f0, f1⟩, qa, qb⟩ := box_rules k1
            have qa0 := fun a => (qa a).1
            have qa1 := fun a => (qa a).2
            have qc := fun a b => (box_at (qb a b)).1
            have qd := fun a b => (box_at (qb a b)).2
            have HBW : Hid (Below wr.heap.size wr ((w1.setCell ⟨wr.heap.size, 0, none⟩ (.string fn)).setCell ⟨wr.heap.size, 1, none⟩ (.string fv))) := Below.setCell (Below.setCell HB1.out (by simp) _) (by simp) _
            clear hlit hbe1 hc0 qa
            by_cases hk : fk = 0
            · subst hk
              obtain ⟨u1, u2⟩ := HBD.out (by simp)
              rw [HYL.out] at u2
              obtain ⟨u, rfl⟩ := Int.eq_ofNat_of_zero_le (show 0 ≤ fu by omega)
              have hsm := HSM.out (by simp)
              have u1' : 1 ≤ u := by omega
              have u2' : u ≤ n := by omega
              clear u1 u2
              have u1 := u1'
              have u2 := u2'
              clear u1' u2'
              have A' := AI
              clear A'
              obtain ⟨A', hA'⟩ : ∃ A', A' = AI := ⟨_, rfl⟩
              rw [← hA'] at D3 D4 D5 HFF
              clear qb
              have HCq : Hid (CodR ((w1.setCell ⟨wr.heap.size, 0, none⟩ (.string fn)).setCell ⟨wr.heap.size, 1, none⟩ (.string fv)) cb { st with mi := mi, AI := AI } T) := (HTS.out _ HBW.out).1
              have HOq : Hid ((((w1.setCell ⟨wr.heap.size, 0, none⟩ (.string fn)).setCell ⟨wr.heap.size, 1, none⟩ (.string fv))).ownsRow w.heap.size 60 2 (.slice la acc.length lc) acc.length (fcells acc)) := (HTS.out _ HBW.out).2.1
              have HF1 : Hid (Off S w ((w1.setCell ⟨wr.heap.size, 0, none⟩ (.string fn)).setCell ⟨wr.heap.size, 1, none⟩ (.string fv))) := (HTS.out _ HBW.out).2.2
              have HN1 := HNT
              have HT1 : Hid (∀ q, T q → S q ∨ w.heap.size ≤ q) := INV.out.hT
              rw [← hA'] at HCq
              obtain ⟨T1, hT1⟩ : ∃ T1, T1 = T := ⟨_, rfl⟩
              rw [← hT1] at HCq HT1 HN1
              clear hT1 hA'
              have hun : u ≤ n := u2
              obtain ⟨o, ho, hcut⟩ := INV.out.hA.cut u hun hpos
              have HCU := hide hcut
              have b1 : (0 : Int) ≤ (u : Int) := by omega
              have b2 : (u : Int) ≤ (n : Int) := by omega
              have b3 : (u : Int) ≤ (c : Int) := by omega
              have HAD : Hid (((w1.setCell ⟨wr.heap.size, 0, none⟩ (.string fn)).setCell ⟨wr.heap.size, 1, none⟩ (.string fv)).heap.size = w1.heap.size) := by show ((w1.setCell ⟨wr.heap.size, 0, none⟩ (.string fn)).setCell ⟨wr.heap.size, 1, none⟩ (.string fv)).heap.size = _; simp
              have HBB : Hid (Below ((w1.setCell ⟨wr.heap.size, 0, none⟩ (.string fn)).setCell ⟨wr.heap.size, 1, none⟩ (.string fv)).heap.size ((w1.setCell ⟨wr.heap.size, 0, none⟩ (.string fn)).setCell ⟨wr.heap.size, 1, none⟩ (.string fv)) (((w1.setCell ⟨wr.heap.size, 0, none⟩ (.string fn)).setCell ⟨wr.heap.size, 1, none⟩ (.string fv)).alloc (.cells #[.string fn, .string fv] 60))) := (Below.refl _ _).alloc (Nat.le_refl _) _
              have HNW : Hid (∀ j u, [Value.string fn, .string fv][j]? = some u → (((w1.setCell ⟨wr.heap.size, 0, none⟩ (.string fn)).setCell ⟨wr.heap.size, 1, none⟩ (.string fv)).alloc (.cells #[.string fn, .string fv] 60)).cell? ((⟨w1.heap.size, 0, none⟩ : Addr).add j) = some u) := by
                have h := World.news_of_block (w := ((w1.setCell ⟨wr.heap.size, 0, none⟩ (.string fn)).setCell ⟨wr.heap.size, 1, none⟩ (.string fv)).alloc (.cells #[.string fn, .string fv] 60)) (B := ((w1.setCell ⟨wr.heap.size, 0, none⟩ (.string fn)).setCell ⟨wr.heap.size, 1, none⟩ (.string fv)).heap.size) (cs := #[.string fn, .string fv]) (t := 60) (fr := (0, 0)) Array.getElem?_push_size
                rw [HAD.out] at h
                exact h
              have HOB : Hid ((((w1.setCell ⟨wr.heap.size, 0, none⟩ (.string fn)).setCell ⟨wr.heap.size, 1, none⟩ (.string fv)).alloc (.cells #[.string fn, .string fv] 60)).ownsRow w.heap.size 60 2 (.slice la acc.length lc) acc.length (fcells acc)) := own_kept HOq.out (fun q hq => HBB.out.block q (HOq.out.lt q hq).2)
              have hsW := HF1.out.size
              clear hcut HOq
              go_wp2_with (at_builtin; refine wpList_append_own_at _ rfl _ _ 38 rfl w.heap.size 60 i0 _ 2 32 Tryz.underlying38 hi hz0 hz1 hz2 rfl (by decide) _ _ _ rfl HOB.out ⟨w1.heap.size, 0, none⟩ 1 1 [.string fn, .string fv] rfl rfl HNW.out (by intro u hu; simp at hu; rcases hu with rfl | rfl <;> rfl) ?c3 ?c4 ?c5 ?_)
              case c3 => unfold maxLen; omega
              case c4 => omega
              case c5 => have h1 := HBB.out.size; have h2 := HAD.out; omega
              intro v3 w3 hown3 hgrow3 _ hat3
              have hown3' : w3.ownsRow w.heap.size 60 2 v3 (acc.length + 1) (fcells (acc ++ [(fn, fv)])) := by rw [fcells_append]; exact hown3
              obtain ⟨g3, cap3, rfl, hg3, hl3⟩ := World.ownsRow.form hown3' (by omega)
              have HO3 := hide hown3'
              have HG3 := hide hgrow3
              have HA3 := hide hat3
              have hwt : weight (acc ++ [(fn, fv)]) ≤ 20000 := by
                have h1 := INV.out.hw
                rw [weight_append, weight_one]
                unfold fsize
                simp only
                omega
              have HLA : Hid ((acc ++ [(fn, fv)]).length = acc.length + 1) := by show (acc ++ [(fn, fv)]).length = acc.length + 1; simp
              have HRW : Hid (Calls Tryz.prog 12 #[.slice (some ⟨g3, 0, none⟩) (acc.length + 1) cap3] w3 fun e w' => e = .returned (.int .i64 (weight (acc ++ [(fn, fv)]) : Int)) ∧ Below w3.heap.size w3 w') := rweight_arg (some ⟨g3, 0, none⟩) (acc.length + 1) cap3 (acc ++ [(fn, fv)]) w3 (Or.inr ⟨g3, 0, rfl, dfrow_of HLA.out HO3.out⟩) (by omega)
              have HFin : Hid (∀ wz, Below w3.heap.size w3 wz → Off S w wz ∧ CodR wz cb { st with mi := mi, AI := A' } T1 ∧ wz.ownsRow w.heap.size 60 2 (.slice (some ⟨g3, 0, none⟩) (acc.length + 1) cap3) (acc.length + 1) (fcells (acc ++ [(fn, fv)])) ∧ ¬ T1 g3) := fun wz hbz => by
                have hCB := HCq.out.below HBB.out
                have hC3 := hCB.frame HG3.out.size (fun q hq => HG3.out.block q (hCB.hlt q hq) (fun e => (HN1.out q e.symm).1 hq))
                have hF3 : Off S w w3 := (HF1.out.trans (Off.of_below HBB.out)).trans2 (off_grown HG3.out) (fun q hq => Or.inr (HN1.out q hq).2)
                refine ⟨hF3.trans (Off.of_below hbz), hC3.below hbz, own_kept HO3.out (fun q hq => hbz.block q (HO3.out.lt q hq).2), fun h => ?_⟩
                rcases HA3.out with e | e
                · exact (HN1.out g3 (e.symm.trans rfl)).1 h
                · have e2 : g3 = (((w1.setCell ⟨wr.heap.size, 0, none⟩ (.string fn)).setCell ⟨wr.heap.size, 1, none⟩ (.string fv)).alloc (.cells #[.string fn, .string fv] 60)).heap.size := by simpa [Value.ownBlock] using e
                  have h1 := HCq.out.hlt _ h
                  have h2 := HBB.out.size
                  omega
              clear hown3 hown3' hgrow3 hat3 HOB HNW
              by_cases h41 : acc.length + 1 ≤ 40
              · have dl : decide ((40 : Int) < (acc.length : Int) + 1) = false := decide_eq_false (by omega)
                by_cases hful : weight (acc ++ [(fn, fv)]) ≤ 2000
                · have HR : Hid (R = dcF st.most k' mi A' (acc ++ [(fn, fv)]) (Y.drop u)) := by
                    exact (D5.out (by simp) (by rw [HLA.out]; omega)).trans (by rw [Int.toNat_natCast])
                  have HFU := hide hful
                  have dw : decide ((2000 : Int) < (weight (acc ++ [(fn, fv)]) : Int)) = false := decide_eq_false (by omega)
                  have HU1 := hide u1
                  clear D3 D4 D5 hwt u1 u2 hful
                  obtain ⟨wl, hwl⟩ : ∃ wl, wl = weight (acc ++ [(fn, fv)]) := ⟨_, rfl⟩
                  rw [← hwl] at HRW dw
                  clear hwl
                  go_wp2_with fail
                  refine HRW.out.mono ?_
                  rintro e w4 ⟨rfl, hb4⟩
                  have HZ4 := hide (HFin.out w4 hb4)
                  clear HRW hb4
                  go_wp2
                  go_roundw
                  case rel =>
                    obtain ⟨z1, z2, z3, z4⟩ := HZ4.out
                    refine ⟨_, n - u, c - u, k', Y.drop u, mi, A', acc ++ [(fn, fv)], T1, ⟨rfl, by omega, by rw [List.length_drop, HYL.out], HCU.out, ?_, ?_, z1, HT1.out, z2, HFF.out, HR.out, by have h1 := INV.out.hk; have h2 := HU1.out; omega, by rw [HLA.out]; exact h41, HFU.out⟩⟩
                    · rw [HLA.out]; exact z3
                    · intro q hq
                      have e : g3 = q := by simpa [Value.ownBlock] using hq
                      subst e
                      exact z4
                  case measure => have := HU1.out; simp [lenOf]; omega
                · have HR : Hid (R = ([], 4, mi, A')) := by
                    exact D4.out (by simp) (by rw [HLA.out]; omega)
                  have dw : decide ((2000 : Int) < (weight (acc ++ [(fn, fv)]) : Int)) = true := decide_eq_true (by omega)
                  clear D3 D4 D5 hwt u1 u2 hful
                  obtain ⟨wl, hwl⟩ : ∃ wl, wl = weight (acc ++ [(fn, fv)]) := ⟨_, rfl⟩
                  rw [← hwl] at HRW dw
                  clear hwl
                  go_wp2_with fail
                  refine HRW.out.mono ?_
                  rintro e w4 ⟨rfl, hb4⟩
                  have HZ4 := hide (HFin.out w4 hb4)
                  clear HRW hb4
                  go_wp2
                  go_ret2
                  obtain ⟨z1, z2, z3, z4⟩ := HZ4.out
                  exact ⟨T1, Or.inr ⟨by rw [HR.out]; exact (by decide : (4 : Int) ≠ 0), by rw [HR.out]; rfl, mi, A', z2⟩, z1, HT1.out⟩
              · have dl : decide ((40 : Int) < (acc.length : Int) + 1) = true := decide_eq_true (by omega)
                have HR : Hid (R = ([], 4, mi, A')) := by
                  exact D4.out (by simp) (by rw [HLA.out]; omega)
                have HZ4 := hide (HFin.out w3 (Below.refl _ _))
                clear D3 D4 D5 hwt u1 u2 HRW
                go_wp2
                go_ret2
                obtain ⟨z1, z2, z3, z4⟩ := HZ4.out
                exact ⟨T1, Or.inr ⟨by rw [HR.out]; exact (by decide : (4 : Int) ≠ 0), by rw [HR.out]; rfl, mi, A', z2⟩, z1, HT1.out⟩
            · have HR : Hid (R = ([], fk, mi, _)) := D3.out hk
              have HK := hide hk
              have dk : (fk != 0) = true := by simpa using hk
              have dk2 : (fk == 0) = false := by simpa using hk
              clear hk D3 D4 D5 qb
              go_wp2
              go_ret2
              exact ⟨T, Or.inr ⟨by rw [HR.out]; exact HK.out, by rw [HR.out]; rfl, mi, AI, (HTS.out _ HBW.out).1⟩, (HTS.out _ HBW.out).2.2, INV.out.hT⟩
    · have hnil : n = 0 := by omega
      subst hnil
      have HR : Hid (R = (acc, 0, mi, AI)) := by
        show R = _
        rw [INV.out.hR, dc_nil _ _ _ _ _ _ INV.out.hY]
      go_wp2
      go_ret2
      refine ⟨T, Or.inl ⟨by rw [HR.out], _, rfl, ?_, INV.out.hN, ?_, ?_⟩, INV.out.hO, INV.out.hT⟩
      · rw [HR.out]; exact INV.out.hl
      · rw [HR.out]; exact INV.out.hC
      · rw [HR.out]; exact INV.out.hF
end Go.Proofs.YtkjfhgoddhigmacGreatDoor
