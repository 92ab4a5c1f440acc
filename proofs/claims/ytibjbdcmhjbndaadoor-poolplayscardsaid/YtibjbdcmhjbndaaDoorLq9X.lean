/-
  CONNECTIONS TO PLACES: the law PoolPlays, walked. No claim by itself.
-/
import Derived.Deep.DeepCutAuto
import Derived.Deep.CutBlock
import Derived.BigRegion
import Derived.Deep.RegionHeld3
import Derived.Test.YtibjbdcmhjbndaaDoorLq9aX
import Derived.Test.YtibjbdcmhjbndaaDoorNopen2
namespace Go.Proofs.YtibjbdcmhjbndaaDoor
open Go Go.RowKit Go.Maps
set_option maxRecDepth 100000
set_option maxHeartbeats 8000000 in
theorem oplays_ok (many : Int) (a : Option Addr) (len cap : Nat) (RA : Nat → Option Addr) (RL RC : Nat → Nat) (RZ : Nat → List Int) (w : World) (hI : JArg w a len cap RA RL RC RZ) (hg : Laid w) :
    Calls Tryd.prog 3 #[.int .i64 many, .slice a len cap] w fun e w' => e = .returned (.bool true) ∧ Below w.heap.size w w' := by
  have HI : Vl (∀ wx, Below w.heap.size w wx → JArg wx a len cap RA RL RC RZ) := vl (fun wx hb => hI.below hb)
  have HG : Vl (∀ wx, Below w.heap.size w wx → Laid wx) := vl (fun wx hb => hg.below hb)
  clear hI hg
  by_cases hm : 1 ≤ many ∧ many ≤ 8
  case neg =>
    have HN := vl (onew_no w many hm)
    have hc : many < 1 ∨ (¬ many < 1 ∧ 8 < many) := by omega
    clear hm
    rcases hc with q1 | ⟨q1, q2⟩
    all_goals
      go_enter Tryd.func3, Tryd.ntmps3
      go_wp2_with fail
      refine HN.out.mono ?_
      rintro _ w1 ⟨rfl, hb⟩
      have HE := vl (error_hit 1 1 w1 (HG.out w1 hb))
      have HB := vl hb
      clear hb HN
      go_wp2_with fail
      refine HE.out.mono ?_
      rintro _ w2 ⟨rfl, hb2⟩
      have HB2 := vl (HB.out.trans (hb2.mono HB.out.size))
      clear hb2 HE HB
      go_wp2_with fail
      go_ret
      exact ⟨rfl, HB2.out⟩
  have HN := vl (ob_new w w (Below.refl _ _) many hm)
  have q1 : ¬ many < 1 := by omega
  have q2 : ¬ 8 < many := by omega
  go_enter Tryd.func3, Tryd.ntmps3
  go_wp2_with fail
  refine HN.out.mono ?_
  rintro _ w1 ⟨pb, bb, ib, rfl, hB, _⟩
  have HE := vl (error_nil 0 w1)
  obtain ⟨rb, hrb⟩ : ∃ x, x = w1.heap.size := ⟨_, rfl⟩
  obtain ⟨W2, hW2⟩ : ∃ x, w1.alloc (.cells #[.int .i64 many, .int .i64 0, .int .i64 0, .int .i64 0, .slice none 0 0] 32) = x := ⟨_, rfl⟩
  obtain ⟨W3, hW3⟩ : ∃ x, W2.alloc (.cells #[.string ⟨#[97]⟩, .string ⟨#[98]⟩, .string ⟨#[99]⟩, .string ⟨#[]⟩, .string ⟨#[65, 45, 49]⟩] 9) = x := ⟨_, rfl⟩
  have hb2 : Below w1.heap.size w1 W2 := by rw [← hW2]; exact (Below.refl _ _).alloc (Nat.le_refl _) _
  have hb3 : Below W2.heap.size W2 W3 := by rw [← hW3]; exact (Below.refl _ _).alloc (Nat.le_refl _) _
  have hs2 : W2.heap.size = w1.heap.size + 1 := by rw [← hW2]; simp
  have hs3 : W3.heap.size = W2.heap.size + 1 := by rw [← hW3]; simp
  have e2 : W2.heap[rb]? = some (.cells #[.int .i64 many, .int .i64 0, .int .i64 0, .int .i64 0, .slice none 0 0] 32 (0, 0)) := by rw [← hW2, hrb]; exact heap_alloc_new _ _
  have e3 : W3.heap[rb + 1]? = some (.cells #[.string ⟨#[97]⟩, .string ⟨#[98]⟩, .string ⟨#[99]⟩, .string ⟨#[]⟩, .string ⟨#[65, 45, 49]⟩] 9 (0, 0)) := by rw [← hW3, hrb, ← hs2]; exact heap_alloc_new _ _
  have e32 : W3.heap[rb]? = W2.heap[rb]? := hb3.block rb (by omega)
  have hO3 : OB w W3 pb bb ib (po0 many) := ob_below (ob_below hB hb2) hb3
  have hh : ∀ k, HersO rb (.slice none 0 0) k → k = rb := fun k hk => by rcases hk with e | e; exact e; cases e
  have hpl : ∀ k, Po3 pb bb ib k → k < w1.heap.size := by
    obtain ⟨DB, DI, hM⟩ := hB.pool
    have hl := hM.lt
    rintro i (rfl | rfl | rfl)
    · exact hl.1
    · exact hl.2.1
    · exact hl.2.2
  have P0 : Vl (OP2 w W3 W3 (fun i => i = rb + 1) pb bb ib rb (.slice none 0 0) (po0 many) (po0 many)) := vl
    ⟨hO3, ⟨by rw [e32]; exact e2, World.ownsRow_nil _ _ _ _⟩, poI_new hm, fun i hi => by rw [hh i hi, hrb]; exact hB.old.size, fun i hi e => by have := hpl i hi; have := hh i e; omega,
      fun i hi e => by have := hpl i e; omega, fun i hi e => by have := hh i e; omega, fun i hi => by omega, fun i hi => rfl⟩
  have HNM : Vl (∀ wx : World, wx.heap[rb + 1]? = W3.heap[rb + 1]? → ∀ t, t < 5 → wx.cell? ⟨rb + 1, t, none⟩ = some (.string (onm t))) := vl (fun wx he t ht => by
    have e := he.trans e3
    rw [cell_of_row _ _ _ _ _ _ e]
    match t, ht with
    | 0, _ => rfl
    | 1, _ => rfl
    | 2, _ => rfl
    | 3, _ => rfl
    | 4, _ => rfl)
  have HS3 : Vl (rb + 1 < W3.heap.size) := vl (by omega)
  have HRB := vl hrb
  have HS2 := vl hs2
  have HW2 := vl hW2
  have HW3 := vl hW3
  clear hB HN hb2 hb3 hs2 hs3 e2 e3 e32 hO3 hh hpl hrb hW2 hW3
  go_wp2_with fail
  refine HE.out.mono ?_
  rintro _ _ ⟨rfl, rfl⟩
  clear HE
  go_wp2_with fail
  rw [HW2.out, HW3.out, ← HRB.out]
  go_loopw [8, 11] (fun tv iv wr => ∃ (k : Nat) (S : Po) (rv : Value), iv = .int .i64 k ∧ tv = .bool true ∧ k ≤ 80 ∧ Vl (PoBd S k) ∧ Vl (OP2 w wr W3 (fun i => i = rb + 1) pb bb ib rb rv S S)) (fun _ iv _ => 80 - (intOf iv).toNat)
  case atStart => exact ⟨0, po0 many, .slice none 0 0, rfl, rfl, by omega, vl ⟨Int.le_refl _, Int.le_refl _⟩, P0.out⟩
  case round =>
    obtain ⟨k, S, rv, rfl, rfl, hk, HBD, HOA⟩ := hrel
    clear P0 HW2 HW3 HRB HS2 q1 q2
    by_cases h1 : k < len
    case neg =>
      have p1 : ¬ ((k : Int) < (len : Int)) := by omega
      clear h1
      go_wp2
      go_ret
      exact ⟨rfl, HOA.out.old⟩
    have p1 : (k : Int) < (len : Int) := by omega
    by_cases h2 : k < 80
    case neg =>
      have p2 : ¬ ((k : Int) < 80) := by omega
      clear h1 h2
      go_wp2
      go_ret
      exact ⟨rfl, HOA.out.old⟩
    have p2 : (k : Int) < 80 := by omega
    rcases HI.out wr HOA.out.old with hx | ⟨g, off, rfl, hr⟩
    · omega
    obtain ⟨r1, r2, r3⟩ := hr.hrow k h1
    have HRC := vl (hr.hcell k h1)
    have hcap2 := hr.hcap
    have hmax2 := hr.hmax
    unfold maxLen at hmax2 r3
    clear hr
    generalize RA k = ra at *
    generalize RL k = rl at *
    generalize RC k = rc at *
    generalize RZ k = rz at *
    have hg1 : g < wr.heap.size := blk_of_cell r1
    go_upto_block 2 with fail
    go_cut [13] from 64 to 85 (fun _ wx => ∃ x y z : Int, I64 x ∧ I64 y ∧ I64 z ∧ wx = wr.alloc (.cells #[.int .i64 x, .int .i64 y, .int .i64 z] 34))
    case first =>
      as_aux_lemma =>
        go_wp2_with fail
        go_loopw [13] (fun i wq => ∃ (j : Nat) (x y z : Int), i = .int .i64 j ∧ j ≤ 3 ∧ Vl (I64 x ∧ I64 y ∧ I64 z) ∧ wq = wr.alloc (.cells #[.int .i64 x, .int .i64 y, .int .i64 z] 34)) (fun i _ => 3 - (intOf i).toNat)
        case atStart => exact ⟨0, 0, 0, 0, rfl, by omega, by unfold I64; exact ⟨by decide, by decide, by decide⟩, rfl⟩
        case round =>
          obtain ⟨j, x, y, z, rfl, hj, HXY, rfl⟩ := hrel
          by_cases hjl : j < rl ∧ j < 3
          · obtain ⟨hj1, hj2⟩ := hjl
            obtain ⟨g', off', rfl, rz1, rzw⟩ := HRC.out j hj1
            have hg2 : g' < wr.heap.size := blk_of_cell rz1
            have e1 : (j : Int) < (rl : Int) := by omega
            have e2 : (j : Int) < 3 := by omega
            generalize rz.getD j 0 = q at *
            have HQ : Vl (I64 q) := by
              simp [Lit.wf, IntKind.min, IntKind.max, IntKind.bits, IntKind.signed] at rzw
              exact ⟨by omega, by omega⟩
            clear rzw
            obtain rfl | rfl | rfl : j = 0 ∨ j = 1 ∨ j = 2 := by omega
            · rw [Nat.add_zero] at rz1
              go_wp2
              go_roundw
              case rel => exact ⟨1, q, y, z, rfl, by omega, ⟨HQ.out, HXY.out.2⟩, rfl⟩
              case measure => simp [intOf]
            · go_wp2
              go_roundw
              case rel => exact ⟨2, x, q, z, rfl, by omega, ⟨HXY.out.1, HQ.out, HXY.out.2.2⟩, rfl⟩
              case measure => simp [intOf]
            · go_wp2
              go_roundw
              case rel => exact ⟨3, x, y, q, rfl, by omega, ⟨HXY.out.1, HXY.out.2.1, HQ.out⟩, rfl⟩
              case measure => simp [intOf]
          · have hcase : (rl : Int) ≤ (j : Int) ∨ ((j : Int) < (rl : Int) ∧ 3 ≤ (j : Int)) := by omega
            clear hjl
            rcases hcase with e1 | ⟨e1, e2⟩
            all_goals
              go_wp2_with fail
              go_meet
              exact ⟨x, y, z, HXY.out.1, HXY.out.2.1, HXY.out.2.2, rfl⟩
    case rest =>
    obtain ⟨x, y, z, ix, iy, iz, hwc⟩ := hcut
    have hbc : Below wr.heap.size wr wc := by rw [hwc]; exact (Below.refl _ _).alloc (Nat.le_refl _) _
    have hszc : wc.heap.size = wr.heap.size + 1 := by rw [hwc]; simp
    have hxv : wc.heap[wr.heap.size]? = some (.cells #[.int .i64 x, .int .i64 y, .int .i64 z] 34 (0, 0)) := by rw [hwc]; exact heap_alloc_new _ _
    have v0 : wc.cell? ⟨wr.heap.size, 0, none⟩ = some (.int .i64 x) := by simp only [World.cell?, hxv]; rfl
    have v1 : wc.cell? ⟨wr.heap.size, 1, none⟩ = some (.int .i64 y) := by simp only [World.cell?, hxv]; rfl
    have v2 : wc.cell? ⟨wr.heap.size, 2, none⟩ = some (.int .i64 z) := by simp only [World.cell?, hxv]; rfl
    have hnl : rb + 1 < wr.heap.size := HOA.out.fl _ rfl
    have hnc : wc.heap[rb + 1]? = W3.heap[rb + 1]? := (hbc.block _ hnl).trans (HOA.out.fx _ rfl)
    have HNC := vl hnc
    have OC : Vl (OP2 w wc wc (fun i => i = rb + 1 ∨ i = wr.heap.size) pb bb ib rb rv S S) := vl (HOA.out.wider hbc (fun i hi => hi.elim Or.inl (fun e => Or.inr (by omega))) (fun i hi => rfl))
    have IYZ := vl (And.intro iy iz)
    obtain ⟨r, t, hr, hr1, hr2, ht, ht5⟩ := oidx y
    have hnt := HNM.out wc hnc t ht5
    obtain ⟨tt, htt⟩ : ∃ q, q = onm t := ⟨_, rfl⟩
    rw [← htt] at hnt
    have HTT : Vl (tt.size ≤ 140737488351232) := vl (by rw [htt]; exact onm_small t)
    have ht0 : (0 : Int) ≤ (t : Int) := by omega
    have ht5' : (t : Int) < 5 := by omega
    clear hwc hbc hszc hxv HRC r1 r2 r3 hcap2 hmax2 hg1 HOA hnc ix iy iz htt hnl
    generalize wr.heap.size = vb at *
    go_upto_block 4 with fail
    go_cut [8, 15, 16, 17, 18, 19, 20, 21, 22, 23, 24, 25] from 96 to 174 (fun td _ _ _ _ _ _ _ _ _ _ _ wx => td = .bool true ∧ ∃ (S' : Po) (rv' : Value), Vl (PoBd S' (k + 1)) ∧ Vl (OP2 w wx wc (fun i => i = rb + 1 ∨ i = vb) pb bb ib rb rv' S' S'))
    case first =>
      have hb1 := HBD.out.1
      have hb2 := HBD.out.2
      by_cases hx : x = 0 ∨ x = 1
      · have HMT := vl (OC.out.mtake tt HTT.out (by omega))
        have HBN := vl (poBd_take HBD.out tt)
        rcases hx with rfl | rfl
        all_goals
          go_wp2_with fail
          refine HMT.out.mono ?_
          rintro _ w6 ⟨rfl, rv6, hO6, _⟩
          have HO6 := vl hO6
          have HD := vl (hO6.dtake tt HTT.out (by omega) (by omega))
          clear hO6 HMT v0 v1 v2 hnt
          go_wp2_with fail
          refine HD.out.mono ?_
          rintro _ w7 ⟨rfl, hO7⟩
          have HO7 := vl hO7
          have HE := vl (perr_ok w7 (takeT S tt).2.2.1 (HG.out w7 hO7.old))
          clear hO7 HD
          go_wp2_with fail
          refine HE.out.mono ?_
          rintro _ w8 ⟨rfl, hb8⟩
          have HO8 := vl (HO7.out.below hb8)
          clear hb8 HE HO7 HO6
          go_wp2_with fail
          go_meet
          exact ⟨rfl, _, rv6, HBN.out, HO8.out⟩
      by_cases hx2 : x = 2 ∨ x = 3
      · obtain ⟨ec, S1, hF⟩ : ∃ ec S1, backF S y (decide (0 < z.tmod 3)) = (ec, S1) := ⟨_, _, rfl⟩
        have PD : OP2 w wc.drew wc (fun i => i = rb + 1 ∨ i = vb) pb bb ib rb rv S S := OC.out.below ((Below.refl _ _).drew)
        have A1 := vl (PD.dback y (decide (0 < z.tmod 3)) IYZ.out.1 (by omega))
        have A2 := vl (fun (wx : World) (hp : OP2 w wx wc (fun i => i = rb + 1 ∨ i = vb) pb bb ib rb rv S1 S) => hp.mback y (decide (0 < z.tmod 3)) (by omega))
        have A3 := vl (fun (wx : World) (v2 : Value) (hp : OP2 w wx wc (fun i => i = rb + 1 ∨ i = vb) pb bb ib rb v2 S1 S1) => hp.err (HG.out wx hp.old) ec)
        have HBN := vl (poBd_back HBD.out y (decide (0 < z.tmod 3)))
        rw [hF] at A1 A2 HBN
        have HV1 := vl v1
        have HV2 := vl v2
        clear hF PD hx
        rcases hx2 with rfl | rfl
        all_goals
          go_wp2_with fail
          go_region_held3 (fun w' => w'.cell? ⟨vb, 1, none⟩ = some (.int .i64 y) ∧ w'.cell? ⟨vb, 2, none⟩ = some (.int .i64 z))
            (first | go_keep | (with_reducible exact ⟨hp3.cell (Or.inr rfl) HV1.out, hp3.cell (Or.inr rfl) HV2.out⟩) | (with_reducible exact ⟨hp2.cell (Or.inr rfl) HV1.out, hp2.cell (Or.inr rfl) HV2.out⟩) | (with_reducible exact ⟨hp1.cell (Or.inr rfl) HV1.out, hp1.cell (Or.inr rfl) HV2.out⟩))
            (first
              | (go_at_call 9; refine A1.out.mono ?_; rintro e1 w1' ⟨rfl, hp1, _⟩)
              | (go_at_call 10; refine (A2.out _ hp1).mono ?_; rintro e2 w2' ⟨rfl, rv2, hp2, _⟩)
              | (go_at_call 6; refine (A3.out _ _ hp2).mono ?_; rintro e3 w3' ⟨rfl, hp3⟩))
          go_wp2_with fail
          go_meet
          exact ⟨rfl, S1, rv2, HBN.out, hp3⟩
      have x0 : ¬ x = 0 := by omega
      have x1 : ¬ x = 1 := by omega
      have x2 : ¬ x = 2 := by omega
      have x3 : ¬ x = 3 := by omega
      clear hx hx2
      by_cases he : tickE S y z = 0
      · have HMT := vl (OC.out.mtick y z he)
        have HHE := vl he
        have HBN := vl (poBd_tick HBD.out y z)
        clear he hnt
        go_wp2_with fail
        refine HMT.out.mono ?_
        rintro _ w6 ⟨v8, ids, rfl, hT1, hI1, rv6, hO6, _⟩
        have HO6 := vl hO6
        have HT1 := vl hT1
        have HI1 := vl hI1
        have u1 : w6.cell? ⟨vb, 1, none⟩ = some (.int .i64 y) := hO6.cell (Or.inr rfl) v1
        have u2 : w6.cell? ⟨vb, 2, none⟩ = some (.int .i64 z) := hO6.cell (Or.inr rfl) v2
        have HD := vl (hO6.dtick y z HHE.out)
        clear hO6 hT1 hI1 HMT v0 v1 v2
        go_wp2_with fail
        refine HD.out.mono ?_
        rintro _ w7 ⟨v9, ids2, rfl, hT2, hI2, hO7, hTn⟩
        obtain rfl : ids = ids2 := tick_same HT1.out hT2
        have HO7 := vl hO7
        have HI2 := vl hI2
        have HI3 := vl (HI1.out.kept hTn.size (fun i hi hl => hTn.block i hi (fun e => by have := OC.out.plt i e; omega)))
        have HE := vl (error_nil 0 w7)
        have HS := vl (sints_any HI2.out HI3.out (tick_few OC.out.iM HT1.out))
        clear hO7 hI2 hT2 hTn HD u1 u2
        go_wp2_with fail
        refine HE.out.mono ?_
        rintro _ _ ⟨rfl, rfl⟩
        clear HE
        go_wp2_with fail
        refine HS.out.mono ?_
        rintro _ w8 ⟨rfl, hb8⟩
        have HO8 := vl (HO7.out.below hb8)
        clear hb8 HS HO7 HO6
        go_wp2_with fail
        go_meet
        exact ⟨rfl, _, rv6, HBN.out, HO8.out⟩
      · have HMT := vl (OC.out.mtick_no y z he)
        have HD := vl (OC.out.dtick_no y z he)
        have HE := vl (error_hit (tickE S y z) (tickE S y z) wc (HG.out wc OC.out.old))
        have HBN := vl (poBd_same HBD.out)
        clear he hnt
        go_wp2_with fail
        refine HMT.out.mono ?_
        rintro _ _ ⟨rfl, rfl⟩
        clear HMT
        go_wp2_with fail
        refine HD.out.mono ?_
        rintro _ _ ⟨rfl, rfl⟩
        clear HD
        go_wp2_with fail
        refine HE.out.mono ?_
        rintro _ w7 ⟨rfl, hb7⟩
        have HO7 := vl (OC.out.below hb7)
        have HS := vl (sints_any (iro_nil 0 w7) (iro_nil 0 w7) (by simp))
        clear hb7 HE
        go_wp2_with fail
        refine HS.out.mono ?_
        rintro _ w8 ⟨rfl, hb8⟩
        have HO8 := vl (HO7.out.below hb8)
        clear hb8 HS HO7
        go_wp2_with fail
        go_meet
        exact ⟨by simp, S, rv, HBN.out, HO8.out⟩
    case rest =>
    obtain ⟨rfl, S', rv', HBN, HO⟩ := hcut
    have hom := HO.out.om
    obtain ⟨a', c', rfl, _, _, hcell⟩ := oown_shape rfl hom.row
    have HCL := vl hcell
    have d4 := hom.cells.2.2.2.2
    have f4 := hom.fr 4
    have hL8 : S'.L.length ≤ 8 := by have := HO.out.iM.len; have := HO.out.iM.many; omega
    have HBU := vl HO.out.busy
    have HID := vl (HO.out.idle tt)
    clear hom hcell OC v0 v1 v2 HBD hnt
    go_wp2_with fail
    go_loopw [26, 27, 28] (fun bv dv kv wq => ∃ j : Nat, kv = .int .i64 j ∧ j ≤ S'.L.length ∧ bv = .int .i64 (nB (S'.L.take j) : Nat) ∧ dv = .int .i64 (idleTo (S'.L.take j) tt : Nat) ∧ wq = wc) (fun _ _ kv _ => S'.L.length - (intOf kv).toNat)
    case atStart => exact ⟨0, rfl, Nat.zero_le _, rfl, rfl, rfl⟩
    case round =>
      obtain ⟨j, rfl, hj, rfl, rfl, rfl⟩ := hrel
      have hnb : nB (S'.L.take j) ≤ 8 := by have : nB (S'.L.take j) ≤ (S'.L.take j).length := List.length_filter_le _ _; rw [List.length_take] at this; omega
      have hnd : idleTo (S'.L.take j) tt ≤ 8 := by have : idleTo (S'.L.take j) tt ≤ (S'.L.take j).length := List.length_filter_le _ _; rw [List.length_take] at this; omega
      by_cases hj1 : j < S'.L.length
      · have e1 : (j : Int) < (S'.L.length : Int) := by omega
        obtain ⟨gg, rfl, _, _, ⟨_, y1, y2, _, _⟩, _⟩ := HCL.out j hj1
        have HB1 := vl (nB_take hj1)
        have HI1 := vl (idle_take hj1 tt)
        have HIS : Vl (isTo tt (lnth S'.L j) = (!(lnth S'.L j).busy && decide ((lnth S'.L j).to = tt))) := vl rfl
        cases hbs : (lnth S'.L j).busy with
        | true =>
          rw [hbs] at y2 HB1 HIS
          rw [HIS.out] at HI1
          clear HIS hbs
          go_wp2
          go_roundw
          case rel => exact ⟨j + 1, by go_num, hj1, by rw [HB1.out]; simp, by rw [HI1.out]; simp, trivial⟩
          case measure => simp [intOf]; omega
        | false =>
          rw [hbs] at y2 HB1 HIS
          by_cases hto : (lnth S'.L j).to = tt
          · have HI2 : Vl (idleTo (S'.L.take (j + 1)) tt = idleTo (S'.L.take j) tt + 1) := vl (by rw [HI1.out, if_pos (by rw [HIS.out]; simpa using hto)])
            have hq : ((lnth S'.L j).to.toList == tt.toList) = true := by rw [beq_iff_eq, hto]
            clear HIS HI1 hbs hto
            go_wp2
            go_roundw
            case rel => exact ⟨j + 1, by go_num, hj1, by rw [HB1.out]; simp, by rw [HI2.out]; simp, trivial⟩
            case measure => simp [intOf]; omega
          · have HI2 : Vl (idleTo (S'.L.take (j + 1)) tt = idleTo (S'.L.take j) tt) := vl (by rw [HI1.out, if_neg (by rw [HIS.out]; simpa using hto)]; rfl)
            have hq : ((lnth S'.L j).to.toList == tt.toList) = false := by rw [beq_eq_false_iff_ne]; exact fun e => hto (toL_eq.1 e)
            clear HIS HI1 hbs hto
            go_wp2
            go_roundw
            case rel => exact ⟨j + 1, by go_num, hj1, by rw [HB1.out]; simp, by rw [HI2.out], trivial⟩
            case measure => simp [intOf]; omega
      · have e1 : ¬ ((j : Int) < (S'.L.length : Int)) := by omega
        obtain rfl : j = S'.L.length := by omega
        have HNC2 := vl HNC.out
        rw [List.take_length]
        clear hj1 hj hnb hnd
        go_wp2_with fail
        refine HBU.out.mono ?_
        rintro _ _ ⟨rfl, rfl⟩
        clear HBU
        go_wp2_with fail
        refine HID.out.mono ?_
        rintro _ w9 ⟨rfl, hb9⟩
        have HO9 := vl (HO.out.below hb9)
        clear hb9 HID
        go_wp2_with fail
        go_roundw
        case rel => exact ⟨k + 1, S', _, by go_num, rfl, by omega, HBN, vl (HO9.out.wider (Below.refl _ _) (fun i hi => Or.inl (Or.inl hi)) (fun i hi => (HO9.out.fx i (Or.inl hi)).trans (by rw [hi]; exact HNC2.out)))⟩
        case measure => simp [intOf]; omega
end Go.Proofs.YtibjbdcmhjbndaaDoor
