/-
  WHO IS TAKEN IS TAKEN BY ONE ALONE: the law PoolOnce, walked. No claim by itself.
-/
import Derived.Test.YtibjbdcmhjbndaaDoorLo16
import Derived.Test.YtibjbdcmhjbndaaDoorTold
import Derived.Test.YtibjbdcmhjbndaaDoorNopen2
import Derived.Deep.DeepCutAuto
import Derived.Deep.CutBlock
import Derived.BigRegion
namespace Go.Proofs.YtibjbdcmhjbndaaDoor
open Go Go.RowKit Go.Maps
set_option maxRecDepth 100000
def xB : ByteArray := ⟨#[120]⟩
def u1 : Po := ⟨1, 1, 0, 0, [⟨1, xB, true, 0, 0⟩]⟩
theorem ot1 : takeT (po0 1) xB = (1, true, 0, u1) := by rfl
theorem ot2 : takeT u1 xB = (0, false, 4, u1) := by rfl
section
variable {w0 W : World} {pb bb ib : Nat}
theorem o1 (h : OB w0 W pb bb ib (po0 1)) : Calls Tryd.prog 8 #[.pointer (some ⟨pb, 0, none⟩), .string ⟨#[120]⟩] W fun e w' => e = .returned (.tuple #[.int .i64 1, .bool true, .nilIface]) ∧ OB w0 w' pb bb ib u1 := h.take xB (by decide) (by decide) (by decide)
theorem o2 (h : OB w0 W pb bb ib u1) : Calls Tryd.prog 8 #[.pointer (some ⟨pb, 0, none⟩), .string ⟨#[120]⟩] W fun e w' => e = .returned (.tuple #[.int .i64 0, .bool false, .iface 53 (.int .i64 4)]) ∧ OB w0 w' pb bb ib u1 := h.take xB (by decide) (by decide) (by decide)
end
set_option maxHeartbeats 8000000 in
theorem once_ok (many : Int) (a : Option Addr) (len cap : Nat) (RA : Nat → Option Addr) (RL RC : Nat → Nat) (RZ : Nat → List Int) (w : World) (hI : JArg w a len cap RA RL RC RZ) (hg : Laid w) :
    Calls Tryd.prog 4 #[.int .i64 many, .slice a len cap] w fun e w' => e = .returned (.bool true) ∧ Below w.heap.size w w' := by
  have HI : Vl (∀ wx, Below w.heap.size w wx → JArg wx a len cap RA RL RC RZ) := vl (fun wx hb => hI.below hb)
  have HG : Vl (∀ wx, Below w.heap.size w wx → Laid wx) := vl (fun wx hb => hg.below hb)
  have H0 := vl (ob_new w w (Below.refl _ _) 1 (by decide))
  clear hI hg
  go_enter Tryd.func4, Tryd.ntmps4
  go_wp2_with fail
  refine H0.out.mono ?_
  rintro _ w1 ⟨qb, qm, qi, rfl, hB, _⟩
  have HA := vl hB
  clear hB H0
  go_wp2_with fail
  refine (o1 HA.out).mono ?_
  rintro _ w2 ⟨rfl, hB⟩
  have HB := vl hB
  clear hB HA
  go_wp2_with fail
  refine (o2 HB.out).mono ?_
  rintro _ w3 ⟨rfl, hB⟩
  have HA := vl hB
  have HE := vl (error_hit 4 4 w3 (HG.out w3 hB.old))
  clear hB HB
  go_wp2_with fail
  refine HE.out.mono ?_
  rintro _ w4 ⟨rfl, hb⟩
  have HB4 : Vl (Below w.heap.size w w4) := vl (HA.out.old.trans (hb.mono HA.out.old.size))
  clear hb HE HA
  by_cases hm : 1 ≤ many ∧ many ≤ 8
  case neg =>
    have HN := vl (onew_no w4 many hm)
    go_wp2_with fail
    refine HN.out.mono ?_
    rintro _ w5 ⟨rfl, hb⟩
    have HB5 := vl (HB4.out.trans (hb.mono HB4.out.size))
    clear hb HN
    go_wp2_with fail
    go_ret
    exact ⟨rfl, HB5.out⟩
  have HN := vl (ob_new w w4 HB4.out many hm)
  go_wp2_with fail
  refine HN.out.mono ?_
  rintro _ w5 ⟨pb, bb, ib, rfl, hB, hfar⟩
  have HO : Vl (OA w w5 pb bb ib (po0 many) (.slice none 0 0) [] [] 0) := vl ⟨hB, Or.inl ⟨rfl, rfl⟩, away_nil many, Int.le_refl _, Int.le_refl _⟩
  have HM := vl hm
  clear hB hfar hm HN HB4 HG
  go_wp2_with fail
  go_loopw [16, 17, 18] (fun bv lv iv wr => ∃ (k : Nat) (S : Po) (B : List Int), iv = .int .i64 k ∧ lv = .int .i64 S.last ∧ k ≤ 80 ∧ Vl (S.many = many) ∧ Vl (OA w wr pb bb ib S bv B B (2 * k))) (fun _ _ iv _ => 80 - (intOf iv).toNat)
  case atStart => exact ⟨0, po0 many, [], rfl, rfl, by omega, vl rfl, HO.out⟩
  case round =>
    obtain ⟨k, S, B, rfl, rfl, hk, HMY, HOA⟩ := hrel
    clear HO
    by_cases h1 : k < len
    case neg =>
      have p1 : ¬ ((k : Int) < (len : Int)) := by omega
      clear h1
      go_wp2
      go_ret
      exact ⟨rfl, HOA.out.old⟩
    have p1 : (k : Int) < (len : Int) := by omega
    by_cases h2 : k < 80
    case neg =>
      have p2 : ¬ ((k : Int) < 80) := by omega
      clear h1 h2
      go_wp2
      go_ret
      exact ⟨rfl, HOA.out.old⟩
    have p2 : (k : Int) < 80 := by omega
    rcases HI.out wr HOA.out.old with hx | ⟨g, off, rfl, hr⟩
    · omega
    obtain ⟨r1, r2, r3⟩ := hr.hrow k h1
    have HRC := vl (hr.hcell k h1)
    have hcap2 := hr.hcap
    have hmax2 := hr.hmax
    unfold maxLen at hmax2 r3
    clear hr
    generalize RA k = ra at *
    generalize RL k = rl at *
    generalize RC k = rc at *
    generalize RZ k = rz at *
    have hg1 : g < wr.heap.size := blk_of_cell r1
    go_upto_block 2 with fail
    go_cut [20] from 79 to 100 (fun _ wx => ∃ x y : Int, I64 x ∧ I64 y ∧ wx = wr.alloc (.cells #[.int .i64 x, .int .i64 y] 52))
    case first =>
      as_aux_lemma =>
        go_wp2_with fail
        go_loopw [20] (fun i wq => ∃ (j : Nat) (x y : Int), i = .int .i64 j ∧ j ≤ 2 ∧ Vl (I64 x ∧ I64 y) ∧ wq = wr.alloc (.cells #[.int .i64 x, .int .i64 y] 52)) (fun i _ => 2 - (intOf i).toNat)
        case atStart => exact ⟨0, 0, 0, rfl, by omega, by unfold I64; exact ⟨by decide, by decide⟩, rfl⟩
        case round =>
          obtain ⟨j, x, y, rfl, hj, HXY, rfl⟩ := hrel
          by_cases hjl : j < rl ∧ j < 2
          · obtain ⟨hj1, hj2⟩ := hjl
            obtain ⟨g', off', rfl, rz1, rzw⟩ := HRC.out j hj1
            have hg2 : g' < wr.heap.size := blk_of_cell rz1
            have e1 : (j : Int) < (rl : Int) := by omega
            have e2 : (j : Int) < 2 := by omega
            generalize rz.getD j 0 = q at *
            have HQ : Vl (I64 q) := by
              simp [Lit.wf, IntKind.min, IntKind.max, IntKind.bits, IntKind.signed] at rzw
              exact ⟨by omega, by omega⟩
            clear rzw
            obtain rfl | rfl : j = 0 ∨ j = 1 := by omega
            · rw [Nat.add_zero] at rz1
              go_wp2
              go_roundw
              case rel => exact ⟨1, q, y, rfl, by omega, ⟨HQ.out, HXY.out.2⟩, rfl⟩
              case measure => simp [intOf]
            · go_wp2
              go_roundw
              case rel => exact ⟨2, x, q, rfl, by omega, ⟨HXY.out.1, HQ.out⟩, rfl⟩
              case measure => simp [intOf]
          · have hcase : (rl : Int) ≤ (j : Int) ∨ ((j : Int) < (rl : Int) ∧ 2 ≤ (j : Int)) := by omega
            clear hjl
            rcases hcase with e1 | ⟨e1, e2⟩
            all_goals
              go_wp2_with fail
              go_meet
              exact ⟨x, y, HXY.out.1, HXY.out.2, rfl⟩
    case rest =>
    obtain ⟨x, y, ix, iy, hwc⟩ := hcut
    have hbc : Below wr.heap.size wr wc := by rw [hwc]; exact (Below.refl _ _).alloc (Nat.le_refl _) _
    have hxv : wc.heap[wr.heap.size]? = some (.cells #[.int .i64 x, .int .i64 y] 52 (0, 0)) := by rw [hwc]; exact heap_alloc_new _ _
    have v0 : wc.cell? ⟨wr.heap.size, 0, none⟩ = some (.int .i64 x) := by simp only [World.cell?, hxv]; rfl
    have v1 : wc.cell? ⟨wr.heap.size, 1, none⟩ = some (.int .i64 y) := by simp only [World.cell?, hxv]; rfl
    have OC0 := HOA.out.below hbc
    obtain ⟨ba, bcap, hbv⟩ := OC0.row.form
    subst hbv
    have OC := vl OC0
    clear OC0
    have HY := vl iy
    have hwl : Vl (w.heap.size ≤ wr.heap.size) := vl HOA.out.old.size
    have HFR : Vl (∀ i, Po3 pb bb ib i → i < wr.heap.size) := vl HOA.out.lt
    clear hwc hbc hxv HRC r1 r2 r3 hcap2 hmax2 hg1 HOA ix iy
    generalize wr.heap.size = vb at *
    go_upto_if 103 with fail
    go_cut [16, 17, 21, 22, 23, 24, 25, 26, 27] from 103 to 196 (fun bw lw _ _ _ _ _ _ _ wx => ∃ (S' : Po) (B' : List Int), lw = .int .i64 S'.last ∧ Vl (S'.many = many) ∧ Vl (OA w wx pb bb ib S' bw B' B' (2 * (k + 1))))
    case first =>
      by_cases hx2 : x < 2
      · go_upto_if 107 with fail
        go_cut [21] from 107 to 107 (fun tv wx => ∃ tt : ByteArray, tv = .string tt ∧ Vl (tokL (unums tt) = true ∧ tt.size ≤ 140737488351232) ∧ wx = wc)
        case first =>
          by_cases hc : y.tmod 2 = 0
          · have hc1 : (y.tmod 2 == 0) = true := by simp [hc]
            go_wp2
            go_meet
            exact ⟨_, rfl, ⟨tokB, by decide⟩, rfl⟩
          · have hc1 : (y.tmod 2 == 0) = false := by simp [hc]
            go_wp2
            go_meet
            exact ⟨_, rfl, ⟨tokA, by decide⟩, rfl⟩
        case rest =>
        obtain ⟨tt, rfl, HTO, rfl⟩ := hcut
        have HT := vl (OC.out.take tt HTO.out.1 HTO.out.2 (by omega))
        go_wp2_with fail
        refine HT.out.mono ?_
        rintro _ w6 (⟨hf, rfl, hO⟩ | ⟨id, fresh, S', rfl, hT, hO⟩)
        · have hO6 := vl hO
          rw [HMY.out] at hf
          clear hO HT OC v0 v1
          go_wp2
          go_roundw
          case rel => exact ⟨k + 1, S, B, by go_num, rfl, by omega, HMY, vl ⟨hO6.out.ob, hO6.out.row, hO6.out.away, by have := hO6.out.turn; omega, by have := hO6.out.last; omega⟩⟩
          case measure => simp [intOf]; omega
        · have HO6 := vl hO
          have HTS := vl hT
          have HRW : Vl (∀ j, j < B.length → ∃ g' o', ba = some ⟨g', o', none⟩ ∧ w6.cell? ⟨g', o' + j, none⟩ = some (.int .i64 (B.getD j 0)) ∧ B.length ≤ bcap ∧ bcap ≤ maxLen ∧ g' < w6.heap.size) := vl (hO.row.reads)
          have HRB : Vl (∀ t, BR w.heap.size (Po3 pb bb ib) (w6.alloc (.cells #[.int .i64 id] t)) (.slice ba B.length bcap) B) := vl (fun t => hO.row.below ((Below.refl _ _).alloc (Nat.le_refl _) _))
          have HBE : Vl (∀ t, Below w6.heap.size w6 (w6.alloc (.cells #[.int .i64 id] t))) := vl (fun t => (Below.refl _ _).alloc (Nat.le_refl _) _)
          have HCN : Vl (∀ t, (w6.alloc (.cells #[.int .i64 id] t)).cell? ⟨w6.heap.size, 0, none⟩ = some (.int .i64 id)) := vl (fun t => by have e := heap_alloc_new w6 (.cells #[.int .i64 id] t); simp only [World.cell?, e]; rfl)
          have HNE : Vl (∀ j, j < B.length → B.getD j 0 ≠ id) := vl (fun j hj e => hT.new (by rw [← e, List.getD, List.getElem?_eq_getElem hj]; exact List.getElem_mem hj))
          have hBL : B.length ≤ 8 := OC.out.few
          have hl0 : 0 ≤ S.last := OC.out.ob.inv.last
          have hl1 : S.last ≤ 1000 := by have := OC.out.last; omega
          clear hO hT HT v0 v1
          go_wp2_with fail
          go_loopw [25] (fun kv wq => ∃ j : Nat, kv = .int .i64 j ∧ j ≤ B.length ∧ wq = w6) (fun kv _ => B.length - (intOf kv).toNat)
          case atStart => exact ⟨0, rfl, Nat.zero_le _, rfl⟩
          case round =>
            obtain ⟨j, rfl, hj, rfl⟩ := hrel
            by_cases hj1 : j < B.length
            · have e1 : (j : Int) < (B.length : Int) := by omega
              obtain ⟨g', o', rfl, c1, c2, c3, c4⟩ := HRW.out j hj1
              have hne := HNE.out j hj1
              unfold maxLen at c3
              generalize B.getD j 0 = z at c1 hne
              go_wp2
              go_roundw
              case rel => exact ⟨j + 1, by go_num, by omega, trivial⟩
              case measure => simp [intOf]; omega
            · have e1 : ¬ ((j : Int) < (B.length : Int)) := by omega
              clear hj1
              cases fresh with
              | true =>
                obtain ⟨rfl, hl⟩ := HTS.out.yes rfl
                go_wp2_with (at_builtin; refine wpList_brow _ rfl _ _ rfl rfl (HRB.out _) wr.heap.size _ rfl (HCN.out _) ?c2 ?c3 ?c4 ?_)
                case c2 => omega
                case c3 => have := HO6.out.old.size; simp; omega
                case c4 => intro i hi; have := HO6.out.lt i hi; simp; omega
                intro v' w7 hr7 ht7
                have HO7 := vl ((HO6.out.below (HBE.out _)).app hr7 ht7)
                clear hr7 ht7 HRB HCN HBE
                go_wp2_with fail
                go_meet
                exact ⟨S', _, by rw [hl], by rw [HTS.out.many]; exact HMY.out, vl ⟨HO7.out.ob, HO7.out.row, HO7.out.away, by have := HO7.out.turn; omega, by have := HO7.out.last; omega⟩⟩
              | false =>
                obtain ⟨hid, hl⟩ := HTS.out.no rfl
                have hid2 : ¬ (S.last < id) := by omega
                go_wp2_with (at_builtin; refine wpList_brow _ rfl _ _ rfl rfl (HRB.out _) wr.heap.size _ rfl (HCN.out _) ?c2 ?c3 ?c4 ?_)
                case c2 => omega
                case c3 => have := HO6.out.old.size; simp; omega
                case c4 => intro i hi; have := HO6.out.lt i hi; simp; omega
                intro v' w7 hr7 ht7
                have HO7 := vl ((HO6.out.below (HBE.out _)).app hr7 ht7)
                clear hr7 ht7 HRB HCN HBE
                go_wp2_with fail
                go_meet
                exact ⟨S', _, by rw [hl], by rw [HTS.out.many]; exact HMY.out, vl ⟨HO7.out.ob, HO7.out.row, HO7.out.away, by have := HO7.out.turn; omega, by have := HO7.out.last; omega⟩⟩
      · cases B with
        | nil =>
          have HO8 : Vl (OA w wc pb bb ib S (.slice ba (0 : Nat) bcap) [] [] (2 * (k + 1))) := vl ⟨OC.out.ob, OC.out.row, OC.out.away, by have := OC.out.turn; omega, by have := OC.out.last; omega⟩
          rw [List.length_nil]
          go_wp2
          go_meet
          exact ⟨S, [], rfl, HMY, HO8.out⟩
        | cons id B =>
          obtain ⟨g', o', cap', hv, h1, h2, h3, hgF, c0, hrest⟩ := OC.out.row.rest
          rw [List.length_cons] at hv
          simp only [Value.slice.injEq] at hv
          obtain ⟨rfl, _, rfl⟩ := hv
          obtain ⟨gd, hgd⟩ : ∃ gd : Bool, (y.tmod 3 != 0) = gd := ⟨_, rfl⟩
          have HBD : Vl (Below wc.heap.size wc wc.drew) := vl (Below.refl _ _).drew
          have HBK := vl ((OC.out.below HBD.out).back gd (by omega))
          have hBL : B.length ≤ 8 := by have := OC.out.few; rw [List.length_cons] at this; omega
          have hvF : ¬ Po3 pb bb ib vb := fun e => Nat.lt_irrefl _ (HFR.out vb e)
          have hB0 : 0 < (B.length : Int) + 1 := by omega
          have HID : Vl (Ix64 id) := vl OC.out.id64
          unfold maxLen at h2
          clear hrest
          rw [List.length_cons]
          go_wp2_with fail
          go_region_held3 (fun w' => w'.cell? ⟨g', o', none⟩ = some (.int .i64 id) ∧ w'.cell? ⟨vb, 1, none⟩ = some (.int .i64 y))
            (first | go_keep | (with_reducible exact ⟨t0, t1⟩))
            ((go_at_call 9; refine HBK.out.mono ?_; rintro _ w6 ⟨S', rfl, hm6, hl6, hb6, hT6, hO⟩; have HO6 := vl hO; have t0 := hT6.cell c0 hgF; have t1 := hT6.cell v1 hvF))
          have HB2 := vl (HO6.out.back_no HID.out hb6 (by omega))
          clear c0 v0 v1 t1 hT6 hO HBK HBD HFR
          go_wp2_with fail
          refine HB2.out.mono ?_
          rintro _ w7 ⟨rfl, hO⟩
          have HO7 := vl hO
          have HRC := vl HO7.out.row.cut
          have hS6 : S'.last = S.last := hl6
          have HM6 : Vl (S'.many = many) := vl (hm6.trans HMY.out)
          clear hO HO6 HB2 t0
          go_wp2_with fail
          · go_meet
            exact ⟨S', B, by rw [hS6], HM6, vl ⟨HO7.out.ob, HRC.out.2 (by omega), HO7.out.away, by have := HO7.out.turn; omega, by have := HO7.out.last; omega⟩⟩
          · go_meet
            exact ⟨S', B, by rw [hS6], HM6, vl ⟨HO7.out.ob, HRC.out.1, HO7.out.away, by have := HO7.out.turn; omega, by have := HO7.out.last; omega⟩⟩
    case rest =>
    obtain ⟨S', B', rfl, HMN, HOC⟩ := hcut
    obtain ⟨ba', bcap', hbv⟩ := HOC.out.row.form
    subst hbv
    have HBU := vl HOC.out.busy
    have HIA := vl (HOC.out.idle ⟨#[97]⟩)
    have hsum := sum_many HOC.out.away HOC.out.ob.inv (a := ⟨#[97]⟩) (b := ⟨#[98]⟩) (by decide)
    rw [HMN.out] at hsum
    have hmm := HM.out.2
    clear HMY OC HY hwl HFR v0 v1
    go_wp2_with fail
    refine HBU.out.mono ?_
    rintro _ _ ⟨rfl, rfl⟩
    go_wp2_with fail
    refine HIA.out.mono ?_
    rintro _ w8 ⟨rfl, hb8⟩
    have HO8 := vl (HOC.out.below hb8)
    have HIB := vl (HO8.out.idle ⟨#[98]⟩)
    clear hb8 HIA HBU HOC
    go_wp2_with fail
    refine HIB.out.mono ?_
    rintro _ w9 ⟨rfl, hb9⟩
    have HO9 := vl (HO8.out.below hb9)
    clear hb9 HIB HO8
    go_wp2_with fail
    go_roundw
    case rel => exact ⟨k + 1, S', B', by go_num, rfl, by omega, HMN, HO9⟩
    case measure => simp [intOf]; omega
end Go.Proofs.YtibjbdcmhjbndaaDoor
