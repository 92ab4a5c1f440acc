/-
  WHAT IS TOLD WAS ANSWERED: StoreTells, walked. No claim by itself.
-/
import Derived.Deep.DeepCutAuto
import Derived.Test.YtibipnipeaeonaaDoorZst3X
namespace Go.Proofs.YtibipnipeaeonaaDoor
open Go Go.RowKit
set_option maxRecDepth 100000
def PA0 (ks : List KpM) (q : RqM) : Prop := ∀ k ∈ ks, k.path = q.p
set_option maxHeartbeats 8000000 in
theorem ztells_ok (q : RqM) (a : RpM) (now later : Int) (pa : Option Addr) (pn pc : Nat) (T : List ByteArray) (w : World) (hq : RqIn w q) (ha : RpIn w a) (hqs : RqS q) (has : RpS a) (hp : TsArg w pa pn pc T) (htz : ∀ i, (T.getD i .empty).size ≤ 140737488351232) (hm : QOk w) (hgl : 8 ≤ w.heap.size) :
    Calls Tryd.prog 3 #[q.val, a.val, .int .i64 now, .int .i64 later, .slice pa pn pc] w fun e w' => e = .returned (.bool true) ∧ Below w.heap.size w w' := by
  obtain ⟨W1, hW1⟩ : ∃ x, (w.alloc (.cells #[.string q.m, .string q.p, .string q.h, .slice q.fa q.fn q.fc, .slice q.ba q.bn q.bc] 25)).alloc (.cells #[.int .i64 a.code, .slice a.fa a.fn a.fc, .slice a.ba a.bn a.bc] 27) = x := ⟨_, rfl⟩
  have hB1 : Below w.heap.size w W1 := by rw [← hW1]; exact ((Below.refl _ w).alloc (Nat.le_refl _) _).alloc (by simp) _
  have hs1 : W1.heap.size = w.heap.size + 2 := by rw [← hW1]; simp
  have hQB : QBx W1 w.heap.size q := QBx.of (t := 25) (by rw [← hW1]; exact (Below.heap_alloc _ _ _ (by simp)).trans (heap_alloc_new w _))
  have hPB : PBx W1 (w.heap.size + 1) a := PBx.of (t := 27) (by
    rw [← hW1]
    have := heap_alloc_new (w.alloc (.cells #[.string q.m, .string q.p, .string q.h, .slice q.fa q.fn q.fc, .slice q.ba q.bn q.bc] 25)) (.cells #[.int .i64 a.code, .slice a.fa a.fn a.fc, .slice a.ba a.bn a.bc] 27 (0, 0))
    rwa [World.size_alloc] at this)
  obtain ⟨W2, hW2⟩ : ∃ x, W1.alloc (.cells #[.string ⟨#[99, 97, 99, 104, 101]⟩, .string ⟨#[109, 97, 120, 45, 51, 48]⟩] 31) = x := ⟨_, rfl⟩
  have hb12 : Below W1.heap.size W1 W2 := by rw [← hW2]; exact (Below.refl _ W1).alloc (Nat.le_refl _) _
  have hB2 : Below w.heap.size w W2 := hB1.trans (hb12.mono hB1.size)
  have HLI := vl (zlife_any 200 (some ⟨W1.heap.size, 0, none⟩) 1 1 none 0 0 c30FL W2 (i_one (by rw [← hW2]; exact heap_alloc_new W1 _)) (by omega) (fun t => by
    match t with
    | 0 => exact ⟨Nat.le_of_ble_eq_true rfl, Nat.le_of_ble_eq_true rfl⟩
    | t + 1 => exact ⟨by simp [c30FL, fnone], by simp [c30FL, fnone]⟩) (hm.below hB2).ld)
  rw [c30_life] at HLI
  have HQB := vl (hQB.below hb12)
  have HPB := vl (hPB.below hb12)
  have HB2 := vl hB2
  have HQ := vl hq
  have HA := vl ha
  have HTP := vl hp
  have HTZ := vl htz
  have HM := vl hm
  show Calls Tryd.prog 3 #[.agg #[.string q.m, .string q.p, .string q.h, .slice q.fa q.fn q.fc, .slice q.ba q.bn q.bc], .agg #[.int .i64 a.code, .slice a.fa a.fn a.fc, .slice a.ba a.bn a.bc], .int .i64 now, .int .i64 later, .slice pa pn pc] w _
  clear hq ha hp htz hm hQB hPB hb12 hB1 hB2 hs1
  go_enter Tryd.func3, Tryd.ntmps3
  go_wp2_with fail
  refine HLI.out.mono ?_
  rintro _ w3 ⟨rfl, hb3⟩
  have HB3 := vl (HB2.out.trans (hb3.mono HB2.out.size))
  have HQ3 := vl (HQB.out.below hb3)
  have HP3 := vl (HPB.out.below hb3)
  clear hb3 HLI HB2 HQB HPB
  by_cases r1 : now < 0
  · go_wp2_with fail
    go_ret
    exact ⟨rfl, HB3.out⟩
  by_cases r2 : 100000 < now
  · go_wp2_with fail
    go_ret
    exact ⟨rfl, HB3.out⟩
  by_cases r3 : later < 0
  · go_wp2_with fail
    go_ret
    exact ⟨rfl, HB3.out⟩
  by_cases r4 : 100000 < later
  · go_wp2_with fail
    go_ret
    exact ⟨rfl, HB3.out⟩
  go_wp2_with fail
  refine (znew_any _).mono ?_
  rintro _ w4 ⟨rfl, hS4, hw4⟩
  have hb4 : Below w3.heap.size w3 w4 := by rw [hw4]; exact (Below.refl _ w3).alloc (Nat.le_refl _) _
  have hB4 : Below w.heap.size w w4 := HB3.out.trans (hb4.mono HB3.out.size)
  obtain ⟨sb, hsb⟩ : ∃ sb, w3.heap.size = sb := ⟨_, rfl⟩
  rw [hsb] at hS4 ⊢
  have hsw : w.heap.size ≤ sb := by rw [← hsb]; exact HB3.out.size
  have hs2 : Vl (w.heap.size + 2 ≤ sb) := vl (by rw [← hsb]; have := blk_of_cell HP3.out.c0; omega)
  have hST0 : ∀ k, StS sb (.slice none 0 0) k → k = sb := fun k hk => by
    rcases hk with e | e
    · exact e
    · simp [Value.ownBlock] at e
  have HQB4 := vl (HQ3.out.below hb4)
  have HPB4 := vl (HP3.out.below hb4)
  have HPU := vl (zput_any sb (.slice none 0 0) [] q a now w4 hS4 (by simp) (HQ.out.below hB4) (HA.out.below hB4) hqs has (HM.out.below hB4) ⟨by omega, by omega⟩ (fun k hk => by have := hST0 k hk; omega) (fun b hb e => by have := hST0 b e; have := HQ.out.lt hb; omega) (fun b hb e => by have := hST0 b e; have := HA.out.lt hb; omega))
  have HB4 := vl hB4
  have HS4 := vl hS4
  have HST0 := vl hST0
  obtain ⟨c0, c1, c2, c3, c4⟩ := HQB4.out
  obtain ⟨d0, d1, d2⟩ := HPB4.out
  unfold RqM.val RpM.val at HPU
  clear hb4 hB4 hsb hS4 hw4 hST0 HQ3 HP3 HB3
  go_wp2_with fail
  refine HPU.out.mono ?_
  rintro _ w5 ⟨ok, v5, ks5, rfl, hS5, hl5, hT5, hN5, hA5⟩
  have HS5 := vl hS5
  have HT5 := vl hT5
  have HB5 : Vl (Below w.heap.size w w5) := vl ⟨hT5.os.trans HB4.out.os, hT5.tape.trans HB4.out.tape, hT5.output.trans HB4.out.output, Nat.le_trans HB4.out.size hT5.size, fun k hk => (hT5.block k (Nat.lt_of_lt_of_le hk HB4.out.size) (fun e => by have := HST0.out k e; omega)).trans (HB4.out.block k hk)⟩
  have hs4 : w.heap.size + 2 ≤ w4.heap.size := by
    have h := blk_of_cell HPB4.out.c0
    omega
  have hsb2 : w.heap.size + 2 ≤ sb := hs2.out
  have HOF : Vl (∀ b, StS sb v5 b → w.heap.size + 2 ≤ b) := vl (fun b hb => by
    rcases hN5 b hb with e | e
    · have := HST0.out b e; omega
    · omega)
  have HQB5 := vl (HQB4.out.tn hT5 (fun e => by have := HST0.out _ e; omega))
  have HPB5 := vl (HPB4.out.tn hT5 (fun e => by have := HST0.out _ e; omega))
  have HL5 := vl hl5
  have HN5 := vl hN5
  clear hS5 hT5 hl5 hN5 c0 c1 c2 c3 c4 d0 d1 d2 HPU
  have HLE := vl (zlen_any sb v5 ks5 w5 HS5.out)
  have HQ5 := vl (HQ.out.below HB5.out)
  have HA5 := vl (HA.out.below HB5.out)
  have HM5 := vl (HM.out.below HB5.out)
  have HLF := vl (fun W (h : Below w.heap.size w W) => zlife_any a.code a.fa a.fn a.fc a.ba a.bn a.bc a.FL W (HA.out.below h).fields (by have := has.fn; omega) (HA.out.below h).each (HM.out.below h).ld)
  obtain ⟨d0, d1, d2⟩ := HPB5.out
  rcases hA5 with ⟨rfl, hno, rfl⟩ | ⟨rfl, hyes, k, hK, hks⟩
  · rw [List.length_nil] at HLE
    go_wp2_with fail
    refine HLE.out.mono ?_
    rintro _ _ ⟨rfl, rfl⟩
    obtain ⟨d0, d1, d2⟩ := HPB5.out
    have HLF5 := vl (HLF.out _ HB5.out)
    generalize ((lifeR (fdsOf a.FL) : Nat) : Int) = lf at HLF5
    clear HLE
    go_wp2_with fail
    refine HLF5.out.mono ?_
    rintro _ w6 ⟨rfl, hb6⟩
    have HT6 : Vl (TsI w w6 sb v5 [] q a) := vl (TsI.below ⟨HB5.out, HS5.out, by simp, HOF.out, HQB5.out, HPB5.out⟩ hb6)
    have HGN := vl (HT6.out.get_no HQ.out hqs HM.out hgl (now := now + later) ⟨by omega, by omega⟩ HQ.out.texts.2.1 (fun s hs => by simp at hs))
    obtain ⟨c0, c1, c2, c3, c4⟩ := HT6.out.qb
    clear hb6 HLF5 d0 d1 d2
    go_wp2_with fail
    refine HGN.out.mono ?_
    rintro _ w7 ⟨rfl, hT7, _⟩
    have HTS : Vl (TsI w (w7.alloc (.cells #[.int .i64 0, .slice none 0 0, .slice none 0 0] 27)) sb v5 [] q a) := vl (hT7.below ((Below.refl _ w7).alloc (Nat.le_refl _) _))
    have HPA : Vl (PA0 [] q) := vl (fun k hk => by cases hk)
    clear hT7 HGN c0 c1 c2 c3 c4 HT6 HLF HS5 HT5 HN5 HL5 HQB5 HPB5 HQB4 HPB4 HB4 HS4 HST0 HB5 HQ5 HA5 HM5 HOF
    as_aux_lemma =>
      go_wp2_with fail
      go_loopw [20, 21, 22, 23, 24] (fun s20 _ _ _ _ wr => ∃ (i : Nat) (vi : Value) (ksi : List KpM), s20 = .int .i64 i ∧ i ≤ 40 ∧ Vl (TsI w wr sb vi ksi q a) ∧ Vl (i = 0 → PA0 ksi q)) (fun s20 _ _ _ _ _ => 40 - (intOf s20).toNat)
      case atStart => exact ⟨0, _, _, rfl, by omega, HTS, vl (fun _ => HPA.out)⟩
      case round =>
        obtain ⟨i, vi, ksi, rfl, hi40, HT, HP⟩ := hrel
        by_cases h1 : i < pn
        · have h1' : (i : Int) < (pn : Int) := by omega
          by_cases h2 : i < 40
          · have h2' : (i : Int) < 40 := by omega
            obtain ⟨c0, c1, c2, c3, c4⟩ := HT.out.qb
            obtain ⟨g, off, rfl, r1, r2, r3⟩ : ∃ g off, pa = some ⟨g, off, none⟩ ∧ pn ≤ pc ∧ pc ≤ maxLen ∧ ∀ t, t < pn → wr.cell? ⟨g, off + t, none⟩ = some (.string (T.getD t .empty)) := by
              rcases HTP.out.below HT.out.bel with h | h
              · omega
              · exact h
            have cp := r3 i h1
            unfold maxLen at r2
            obtain ⟨p, hp⟩ : ∃ p, T.getD i .empty = p := ⟨_, rfl⟩
            have HPS : Vl (p.size ≤ 140737488351232) := vl (by rw [← hp]; exact HTZ.out i)
            rw [hp] at cp
            have HCP := vl (blk_of_cell cp)
            have HCC := vl cp
            have HZ : Vl (RB (wr.alloc (.cells #[.string ⟨#[]⟩, .string ⟨#[]⟩, .string ⟨#[]⟩, .slice none 0 0, .slice none 0 0] 25)) wr.heap.size ⟨#[]⟩ ⟨#[]⟩ ⟨#[]⟩ (.slice none 0 0) (.slice none 0 0)) := vl (heap_alloc_new wr _)
            clear r3 hp cp
            go_upto_region 24 with (refine wpList_rqstore _ rfl _ _ rfl wr.heap.size _ _ _ q.m q.p q.h _ _ _ _ rfl rfl HZ.out rfl rfl ?_; intro w4 hR4 hg4)
            have hb4 : Below wr.heap.size wr w4 := zbelow_grown ((Below.refl _ wr).alloc (Nat.le_refl _) _) hg4 (by simp) (fun k hk => by cases hk; exact Nat.le_refl _)
            have cp4 : w4.cell? ⟨g, off + i, none⟩ = some (.string p) := (hb4.cell (p := ⟨g, off + i, none⟩) HCP.out).trans HCC.out
            obtain ⟨x0, x1, x2, x3, x4⟩ := hR4.cells
            have xf := hR4.frozen 1
            have HB4' := vl hb4
            have HR4 := vl hR4
            clear hR4 hg4 HZ c0 c1 c2 c3 c4 hb4
            go_upto_region 25 with fail
            obtain ⟨w5, hw5⟩ : ∃ w5, w4.setCell ⟨wr.heap.size, 1, none⟩ (.string p) = w5 := ⟨_, rfl⟩
            have HR5 : Vl (RB w5 wr.heap.size q.m p q.h (.slice q.fa q.fn q.fc) (.slice q.ba q.bn q.bc)) := vl (by
              rw [← hw5]
              exact heap_setCell_same w4 wr.heap.size 1 _ 25 _ HR4.out)
            have HB5 : Vl (Below wr.heap.size wr w5) := vl (by rw [← hw5]; exact HB4'.out.setCell (Nat.le_refl _) _)
            have HT5 := vl (HT.out.below HB5.out)
            rw [hw5]
            clear hw5 x0 x1 x2 x3 x4 xf cp4 HR4 HB4'
            have cp5 : w5.cell? ⟨g, off + i, none⟩ = some (.string p) := (HB5.out.cell (p := ⟨g, off + i, none⟩) HCP.out).trans HCC.out
            obtain ⟨d0, d1, d2, d3, d4⟩ := HT5.out.qb
            obtain ⟨y0, y1, y2, y3, y4⟩ := HR5.out.cells
            obtain ⟨z0, z1, z2⟩ := HT5.out.pb
            have HTN : Vl (∀ n, TsI w (w5.drewN n) sb vi ksi q a) := vl (fun n => HT5.out.below (zdrewN_below (Below.refl _ _) n))
            have HPU := vl (fun n => (HTN.out n).put HQ.out HA.out hqs has HM.out hgl (now := now) ⟨by omega, by omega⟩ HPS.out)
            by_cases he : p = q.p
            · have he2 : (p.toList == q.p.toList) = true := by rw [he]; simp
              have he3 : p.toList = q.p.toList := by rw [he]
              clear he
              go_quiet (fail)
              go_wp2_with fail
              refine (HPU.out _).mono ?_
              rintro _ w7 ⟨ok7, v7, ks7, rfl, hT7⟩
              have HT7 := vl hT7
              have HLE7 := vl hT7.length
              have hl7 : ¬ (20 : Int) < (ks7.length : Int) := by have := hT7.len; omega
              generalize ks7.length = l7 at HLE7 hl7
              clear hT7
              go_wp2_with fail
              refine HLE7.out.mono ?_
              rintro _ _ ⟨rfl, rfl⟩
              clear HLE7
              go_wp2_with fail
              go_roundw
              case rel => exact ⟨i + 1, _, _, by go_num, by omega, HT7, vl (fun e => by omega)⟩
              case measure => simp [intOf]; omega
            · have he3 : ¬ p.toList = q.p.toList := fun e => he (toL_eq.1 e)
              have he2 : (p.toList == q.p.toList) = false := by simpa using he3
              have hne : unums p ≠ unums q.p := fun e => he (unums_inj e)
              by_cases h0 : i = 0
              · subst h0
                have h1z : (0 : Int) < (pn : Int) := by omega
                have h1n : 0 < pn := by omega
                have cp5z : w5.cell? ⟨g, off, none⟩ = some (.string p) := cp5
                have HGN := vl (fun n => (HTN.out n).get_no HQ.out hqs HM.out hgl (now := now) ⟨by omega, by omega⟩ HPS.out (other_path (HP.out rfl) hne))
                clear he hne
                go_quiet (fail)
                go_wp2_with fail
                refine (HGN.out _).mono ?_
                rintro _ w6 ⟨rfl, hT6, hb6⟩
                have HT6 := vl (hT6.below ((Below.refl _ w6).alloc (Nat.le_refl _) (.cells #[.int .i64 0, .slice none 0 0, .slice none 0 0] 27)))
                have HR6 : Vl (RB (w6.alloc (.cells #[.int .i64 0, .slice none 0 0, .slice none 0 0] 27)) wr.heap.size q.m p q.h (.slice q.fa q.fn q.fc) (.slice q.ba q.bn q.bc)) := vl (RB.on (w := w6) ((hb6.block _ HR5.out.lt).trans HR5.out) ((Below.refl _ w6).alloc (Nat.le_refl _) _))
                have HPU6 := vl (HT6.out.put HQ.out HA.out hqs has HM.out hgl (now := now) ⟨by omega, by omega⟩ HPS.out)
                clear hT6 hb6 HGN HPU HTN y0 y1 y2 y3 y4 z0 z1 z2 d0 d1 d2 d3 d4 cp5 HT5 HR5 HB5
                obtain ⟨y0, y1, y2, y3, y4⟩ := HR6.out.cells
                obtain ⟨z0, z1, z2⟩ := HT6.out.pb
                go_wp2_with fail
                refine HPU6.out.mono ?_
                rintro _ w7 ⟨ok7, v7, ks7, rfl, hT7⟩
                have HT7 := vl hT7
                have HLE7 := vl hT7.length
                have hl7 : ¬ (20 : Int) < (ks7.length : Int) := by have := hT7.len; omega
                generalize ks7.length = l7 at HLE7 hl7
                clear hT7
                go_wp2_with fail
                refine HLE7.out.mono ?_
                rintro _ _ ⟨rfl, rfl⟩
                clear HLE7
                go_wp2_with fail
                go_roundw
                case rel => exact ⟨0 + 1, _, _, by go_num, by omega, HT7, vl (fun e => by omega)⟩
                case measure => simp [intOf]
              · have h0' : ¬ (i : Int) = 0 := by omega
                have h0'' : ((i : Int) == 0) = false := by simpa using h0'
                clear he hne
                go_quiet (fail)
                go_wp2_with fail
                refine (HPU.out _).mono ?_
                rintro _ w7 ⟨ok7, v7, ks7, rfl, hT7⟩
                have HT7 := vl hT7
                have HLE7 := vl hT7.length
                have hl7 : ¬ (20 : Int) < (ks7.length : Int) := by have := hT7.len; omega
                generalize ks7.length = l7 at HLE7 hl7
                clear hT7
                go_wp2_with fail
                refine HLE7.out.mono ?_
                rintro _ _ ⟨rfl, rfl⟩
                clear HLE7
                go_wp2_with fail
                go_roundw
                case rel => exact ⟨i + 1, _, _, by go_num, by omega, HT7, vl (fun e => by omega)⟩
                case measure => simp [intOf]; omega
          · have h2' : ¬ (i : Int) < 40 := by omega
            go_wp2_with fail
            go_ret
            exact ⟨rfl, HT.out.bel⟩
        · have h1' : ¬ (i : Int) < (pn : Int) := by omega
          go_wp2_with fail
          go_ret
          exact ⟨rfl, HT.out.bel⟩
  · obtain ⟨y1, y2, y3⟩ := hyes
    have hks1 : ks5 = [k] := hks (by simp [kf])
    subst hks1
    have HKE := vl hK
    have hlf : ¬ (((lifeR (fdsOf a.FL) : Nat) : Int) < 1) := by omega
    have hm2 : q.m.toList = [71, 69, 84] := un_lit.2 y1
    have hm3 : (q.m.toList == [71, 69, 84]) = true := by simpa using hm2
    have HY1 := vl y1
    have y2b : (a.code != 200) = false := by simp [y2]
    have y2e : (a.code == 200) = true := by simp [y2]
    clear y2
    have HLW := vl (fun (lf : Int) (h : ((lifeR (fdsOf a.FL) : Nat) : Int) = lf) => own_hit (later := later) hK (by omega))
    have hle : ([k] : List KpM).length = 1 := rfl
    rw [hle] at HLE
    clear hks hK hle y1 y3
    go_wp2_with fail
    refine HLE.out.mono ?_
    rintro _ _ ⟨rfl, rfl⟩
    obtain ⟨d0, d1, d2⟩ := HPB5.out
    have HLF5 := vl (HLF.out _ HB5.out)
    obtain ⟨lf, hlfe⟩ : ∃ lf : Int, ((lifeR (fdsOf a.FL) : Nat) : Int) = lf := ⟨_, rfl⟩
    have HHIT := vl (HLW.out lf hlfe)
    rw [hlfe] at HLF5 hlf HHIT
    clear HLE HLW hlfe
    go_wp2_with fail
    refine HLF5.out.mono ?_
    rintro _ w6 ⟨rfl, hb6⟩
    have HT6 : Vl (TsI w w6 sb v5 [k] q a) := vl (TsI.below ⟨HB5.out, HS5.out, by simp, HOF.out, HQB5.out, HPB5.out⟩ hb6)
    have HB6 := vl HT6.out.bel
    have HGN := vl (zget_any sb v5 [k] q (now + later) w6 HT6.out.st (HQ.out.below HB6.out) hqs (HM.out.below HB6.out) ⟨by omega, by omega⟩ HY1.out (Nat.le_trans hgl HB6.out.size))
    unfold RqM.val at HGN
    obtain ⟨d0, d1, d2⟩ := HT6.out.pb
    obtain ⟨c0, c1, c2, c3, c4⟩ := HT6.out.qb
    have HPA : Vl (PA0 [k] q) := vl (fun x hx => by rw [List.mem_singleton.1 hx]; exact HKE.out.path)
    clear hb6 HLF5 HLF HS5 HT5 HN5 HL5 HQB5 HPB5 HQB4 HPB4 HB4 HS4 HST0 HB5 HQ5 HA5 HM5 HOF
    go_wp2_with fail
    refine HGN.out.mono ?_
    rintro _ w7 ⟨hG, hb7⟩
    have HT7 := vl (HT6.out.below hb7)
    clear HGN HT6
    rcases hG with ⟨t, p, ht, hh, _, rfl, hp, hsm⟩ | ⟨hno, rfl⟩
    · have ht0 : t = 0 := by simp at ht; omega
      subst ht0
      have hll : later < lf := HHIT.out.1 hh
      have hat : now + later - k.at_ = later := by rw [HKE.out.at_]; omega
      have hrp : p.rp = a.rp := like_rp HKE.out hsm
      have HT8 := vl (HT7.out.below ((Below.refl _ w7).alloc (Nat.le_refl _) (.cells #[.int .i64 p.code, .slice p.fa p.fn p.fc, .slice p.ba p.bn p.bc] 27)))
      have HSR := vl (zsrep_like p a (w7.alloc (.cells #[.int .i64 p.code, .slice p.fa p.fn p.fc, .slice p.ba p.bn p.bc] 27)) (hp.below ((Below.refl _ w7).alloc (Nat.le_refl _) _)) (HA.out.below HT8.out.bel) hrp)
      have hat2 : now + later - (([k] : List KpM).getD 0 kz).at_ = later := hat
      rw [hat2]
      unfold RpM.val at HSR ⊢
      obtain ⟨e0, e1, e2⟩ := HT8.out.pb
      clear hh hp hsm hat hat2 hrp HT7 hb7 c0 c1 c2 c3 c4 d0 d1 d2
      go_wp2_with fail
      refine HSR.out.mono ?_
      rintro _ w9 ⟨rfl, hb9⟩
      have HTS := vl (HT8.out.below hb9)
      clear hb9 HSR HT8 e0 e1 e2 HHIT
      as_aux_lemma =>
        go_wp2_with fail
        go_loopw [20, 21, 22, 23, 24] (fun s20 _ _ _ _ wr => ∃ (i : Nat) (vi : Value) (ksi : List KpM), s20 = .int .i64 i ∧ i ≤ 40 ∧ Vl (TsI w wr sb vi ksi q a) ∧ Vl (i = 0 → PA0 ksi q)) (fun s20 _ _ _ _ _ => 40 - (intOf s20).toNat)
        case atStart => exact ⟨0, _, _, rfl, by omega, HTS, vl (fun _ => HPA.out)⟩
        case round =>
          obtain ⟨i, vi, ksi, rfl, hi40, HT, HP⟩ := hrel
          by_cases h1 : i < pn
          · have h1' : (i : Int) < (pn : Int) := by omega
            by_cases h2 : i < 40
            · have h2' : (i : Int) < 40 := by omega
              obtain ⟨c0, c1, c2, c3, c4⟩ := HT.out.qb
              obtain ⟨g, off, rfl, r1, r2, r3⟩ : ∃ g off, pa = some ⟨g, off, none⟩ ∧ pn ≤ pc ∧ pc ≤ maxLen ∧ ∀ t, t < pn → wr.cell? ⟨g, off + t, none⟩ = some (.string (T.getD t .empty)) := by
                rcases HTP.out.below HT.out.bel with h | h
                · omega
                · exact h
              have cp := r3 i h1
              unfold maxLen at r2
              obtain ⟨p, hp⟩ : ∃ p, T.getD i .empty = p := ⟨_, rfl⟩
              have HPS : Vl (p.size ≤ 140737488351232) := vl (by rw [← hp]; exact HTZ.out i)
              rw [hp] at cp
              have HCP := vl (blk_of_cell cp)
              have HCC := vl cp
              have HZ : Vl (RB (wr.alloc (.cells #[.string ⟨#[]⟩, .string ⟨#[]⟩, .string ⟨#[]⟩, .slice none 0 0, .slice none 0 0] 25)) wr.heap.size ⟨#[]⟩ ⟨#[]⟩ ⟨#[]⟩ (.slice none 0 0) (.slice none 0 0)) := vl (heap_alloc_new wr _)
              clear r3 hp cp
              go_upto_region 24 with (refine wpList_rqstore _ rfl _ _ rfl wr.heap.size _ _ _ q.m q.p q.h _ _ _ _ rfl rfl HZ.out rfl rfl ?_; intro w4 hR4 hg4)
              have hb4 : Below wr.heap.size wr w4 := zbelow_grown ((Below.refl _ wr).alloc (Nat.le_refl _) _) hg4 (by simp) (fun k hk => by cases hk; exact Nat.le_refl _)
              have cp4 : w4.cell? ⟨g, off + i, none⟩ = some (.string p) := (hb4.cell (p := ⟨g, off + i, none⟩) HCP.out).trans HCC.out
              obtain ⟨x0, x1, x2, x3, x4⟩ := hR4.cells
              have xf := hR4.frozen 1
              have HB4' := vl hb4
              have HR4 := vl hR4
              clear hR4 hg4 HZ c0 c1 c2 c3 c4 hb4
              go_upto_region 25 with fail
              obtain ⟨w5, hw5⟩ : ∃ w5, w4.setCell ⟨wr.heap.size, 1, none⟩ (.string p) = w5 := ⟨_, rfl⟩
              have HR5 : Vl (RB w5 wr.heap.size q.m p q.h (.slice q.fa q.fn q.fc) (.slice q.ba q.bn q.bc)) := vl (by
                rw [← hw5]
                exact heap_setCell_same w4 wr.heap.size 1 _ 25 _ HR4.out)
              have HB5 : Vl (Below wr.heap.size wr w5) := vl (by rw [← hw5]; exact HB4'.out.setCell (Nat.le_refl _) _)
              have HT5 := vl (HT.out.below HB5.out)
              rw [hw5]
              clear hw5 x0 x1 x2 x3 x4 xf cp4 HR4 HB4'
              have cp5 : w5.cell? ⟨g, off + i, none⟩ = some (.string p) := (HB5.out.cell (p := ⟨g, off + i, none⟩) HCP.out).trans HCC.out
              obtain ⟨d0, d1, d2, d3, d4⟩ := HT5.out.qb
              obtain ⟨y0, y1, y2, y3, y4⟩ := HR5.out.cells
              obtain ⟨z0, z1, z2⟩ := HT5.out.pb
              have HTN : Vl (∀ n, TsI w (w5.drewN n) sb vi ksi q a) := vl (fun n => HT5.out.below (zdrewN_below (Below.refl _ _) n))
              have HPU := vl (fun n => (HTN.out n).put HQ.out HA.out hqs has HM.out hgl (now := now) ⟨by omega, by omega⟩ HPS.out)
              by_cases he : p = q.p
              · have he2 : (p.toList == q.p.toList) = true := by rw [he]; simp
                have he3 : p.toList = q.p.toList := by rw [he]
                clear he
                go_quiet (fail)
                go_wp2_with fail
                refine (HPU.out _).mono ?_
                rintro _ w7 ⟨ok7, v7, ks7, rfl, hT7⟩
                have HT7 := vl hT7
                have HLE7 := vl hT7.length
                have hl7 : ¬ (20 : Int) < (ks7.length : Int) := by have := hT7.len; omega
                generalize ks7.length = l7 at HLE7 hl7
                clear hT7
                go_wp2_with fail
                refine HLE7.out.mono ?_
                rintro _ _ ⟨rfl, rfl⟩
                clear HLE7
                go_wp2_with fail
                go_roundw
                case rel => exact ⟨i + 1, _, _, by go_num, by omega, HT7, vl (fun e => by omega)⟩
                case measure => simp [intOf]; omega
              · have he3 : ¬ p.toList = q.p.toList := fun e => he (toL_eq.1 e)
                have he2 : (p.toList == q.p.toList) = false := by simpa using he3
                have hne : unums p ≠ unums q.p := fun e => he (unums_inj e)
                by_cases h0 : i = 0
                · subst h0
                  have h1z : (0 : Int) < (pn : Int) := by omega
                  have h1n : 0 < pn := by omega
                  have cp5z : w5.cell? ⟨g, off, none⟩ = some (.string p) := cp5
                  have HGN := vl (fun n => (HTN.out n).get_no HQ.out hqs HM.out hgl (now := now) ⟨by omega, by omega⟩ HPS.out (other_path (HP.out rfl) hne))
                  clear he hne
                  go_quiet (fail)
                  go_wp2_with fail
                  refine (HGN.out _).mono ?_
                  rintro _ w6 ⟨rfl, hT6, hb6⟩
                  have HT6 := vl (hT6.below ((Below.refl _ w6).alloc (Nat.le_refl _) (.cells #[.int .i64 0, .slice none 0 0, .slice none 0 0] 27)))
                  have HR6 : Vl (RB (w6.alloc (.cells #[.int .i64 0, .slice none 0 0, .slice none 0 0] 27)) wr.heap.size q.m p q.h (.slice q.fa q.fn q.fc) (.slice q.ba q.bn q.bc)) := vl (RB.on (w := w6) ((hb6.block _ HR5.out.lt).trans HR5.out) ((Below.refl _ w6).alloc (Nat.le_refl _) _))
                  have HPU6 := vl (HT6.out.put HQ.out HA.out hqs has HM.out hgl (now := now) ⟨by omega, by omega⟩ HPS.out)
                  clear hT6 hb6 HGN HPU HTN y0 y1 y2 y3 y4 z0 z1 z2 d0 d1 d2 d3 d4 cp5 HT5 HR5 HB5
                  obtain ⟨y0, y1, y2, y3, y4⟩ := HR6.out.cells
                  obtain ⟨z0, z1, z2⟩ := HT6.out.pb
                  go_wp2_with fail
                  refine HPU6.out.mono ?_
                  rintro _ w7 ⟨ok7, v7, ks7, rfl, hT7⟩
                  have HT7 := vl hT7
                  have HLE7 := vl hT7.length
                  have hl7 : ¬ (20 : Int) < (ks7.length : Int) := by have := hT7.len; omega
                  generalize ks7.length = l7 at HLE7 hl7
                  clear hT7
                  go_wp2_with fail
                  refine HLE7.out.mono ?_
                  rintro _ _ ⟨rfl, rfl⟩
                  clear HLE7
                  go_wp2_with fail
                  go_roundw
                  case rel => exact ⟨0 + 1, _, _, by go_num, by omega, HT7, vl (fun e => by omega)⟩
                  case measure => simp [intOf]
                · have h0' : ¬ (i : Int) = 0 := by omega
                  have h0'' : ((i : Int) == 0) = false := by simpa using h0'
                  clear he hne
                  go_quiet (fail)
                  go_wp2_with fail
                  refine (HPU.out _).mono ?_
                  rintro _ w7 ⟨ok7, v7, ks7, rfl, hT7⟩
                  have HT7 := vl hT7
                  have HLE7 := vl hT7.length
                  have hl7 : ¬ (20 : Int) < (ks7.length : Int) := by have := hT7.len; omega
                  generalize ks7.length = l7 at HLE7 hl7
                  clear hT7
                  go_wp2_with fail
                  refine HLE7.out.mono ?_
                  rintro _ _ ⟨rfl, rfl⟩
                  clear HLE7
                  go_wp2_with fail
                  go_roundw
                  case rel => exact ⟨i + 1, _, _, by go_num, by omega, HT7, vl (fun e => by omega)⟩
                  case measure => simp [intOf]; omega
            · have h2' : ¬ (i : Int) < 40 := by omega
              go_wp2_with fail
              go_ret
              exact ⟨rfl, HT.out.bel⟩
          · have h1' : ¬ (i : Int) < (pn : Int) := by omega
            go_wp2_with fail
            go_ret
            exact ⟨rfl, HT.out.bel⟩
    · have hll : ¬ later < lf := fun e => hno 0 (by simp) (HHIT.out.2 e)
      have HTS : Vl (TsI w (w7.alloc (.cells #[.int .i64 0, .slice none 0 0, .slice none 0 0] 27)) sb v5 [k] q a) := vl (HT7.out.below ((Below.refl _ w7).alloc (Nat.le_refl _) _))
      clear hno HT7 hb7 c0 c1 c2 c3 c4 d0 d1 d2 HHIT
      as_aux_lemma =>
        go_wp2_with fail
        go_loopw [20, 21, 22, 23, 24] (fun s20 _ _ _ _ wr => ∃ (i : Nat) (vi : Value) (ksi : List KpM), s20 = .int .i64 i ∧ i ≤ 40 ∧ Vl (TsI w wr sb vi ksi q a) ∧ Vl (i = 0 → PA0 ksi q)) (fun s20 _ _ _ _ _ => 40 - (intOf s20).toNat)
        case atStart => exact ⟨0, _, _, rfl, by omega, HTS, vl (fun _ => HPA.out)⟩
        case round =>
          obtain ⟨i, vi, ksi, rfl, hi40, HT, HP⟩ := hrel
          by_cases h1 : i < pn
          · have h1' : (i : Int) < (pn : Int) := by omega
            by_cases h2 : i < 40
            · have h2' : (i : Int) < 40 := by omega
              obtain ⟨c0, c1, c2, c3, c4⟩ := HT.out.qb
              obtain ⟨g, off, rfl, r1, r2, r3⟩ : ∃ g off, pa = some ⟨g, off, none⟩ ∧ pn ≤ pc ∧ pc ≤ maxLen ∧ ∀ t, t < pn → wr.cell? ⟨g, off + t, none⟩ = some (.string (T.getD t .empty)) := by
                rcases HTP.out.below HT.out.bel with h | h
                · omega
                · exact h
              have cp := r3 i h1
              unfold maxLen at r2
              obtain ⟨p, hp⟩ : ∃ p, T.getD i .empty = p := ⟨_, rfl⟩
              have HPS : Vl (p.size ≤ 140737488351232) := vl (by rw [← hp]; exact HTZ.out i)
              rw [hp] at cp
              have HCP := vl (blk_of_cell cp)
              have HCC := vl cp
              have HZ : Vl (RB (wr.alloc (.cells #[.string ⟨#[]⟩, .string ⟨#[]⟩, .string ⟨#[]⟩, .slice none 0 0, .slice none 0 0] 25)) wr.heap.size ⟨#[]⟩ ⟨#[]⟩ ⟨#[]⟩ (.slice none 0 0) (.slice none 0 0)) := vl (heap_alloc_new wr _)
              clear r3 hp cp
              go_upto_region 24 with (refine wpList_rqstore _ rfl _ _ rfl wr.heap.size _ _ _ q.m q.p q.h _ _ _ _ rfl rfl HZ.out rfl rfl ?_; intro w4 hR4 hg4)
              have hb4 : Below wr.heap.size wr w4 := zbelow_grown ((Below.refl _ wr).alloc (Nat.le_refl _) _) hg4 (by simp) (fun k hk => by cases hk; exact Nat.le_refl _)
              have cp4 : w4.cell? ⟨g, off + i, none⟩ = some (.string p) := (hb4.cell (p := ⟨g, off + i, none⟩) HCP.out).trans HCC.out
              obtain ⟨x0, x1, x2, x3, x4⟩ := hR4.cells
              have xf := hR4.frozen 1
              have HB4' := vl hb4
              have HR4 := vl hR4
              clear hR4 hg4 HZ c0 c1 c2 c3 c4 hb4
              go_upto_region 25 with fail
              obtain ⟨w5, hw5⟩ : ∃ w5, w4.setCell ⟨wr.heap.size, 1, none⟩ (.string p) = w5 := ⟨_, rfl⟩
              have HR5 : Vl (RB w5 wr.heap.size q.m p q.h (.slice q.fa q.fn q.fc) (.slice q.ba q.bn q.bc)) := vl (by
                rw [← hw5]
                exact heap_setCell_same w4 wr.heap.size 1 _ 25 _ HR4.out)
              have HB5 : Vl (Below wr.heap.size wr w5) := vl (by rw [← hw5]; exact HB4'.out.setCell (Nat.le_refl _) _)
              have HT5 := vl (HT.out.below HB5.out)
              rw [hw5]
              clear hw5 x0 x1 x2 x3 x4 xf cp4 HR4 HB4'
              have cp5 : w5.cell? ⟨g, off + i, none⟩ = some (.string p) := (HB5.out.cell (p := ⟨g, off + i, none⟩) HCP.out).trans HCC.out
              obtain ⟨d0, d1, d2, d3, d4⟩ := HT5.out.qb
              obtain ⟨y0, y1, y2, y3, y4⟩ := HR5.out.cells
              obtain ⟨z0, z1, z2⟩ := HT5.out.pb
              have HTN : Vl (∀ n, TsI w (w5.drewN n) sb vi ksi q a) := vl (fun n => HT5.out.below (zdrewN_below (Below.refl _ _) n))
              have HPU := vl (fun n => (HTN.out n).put HQ.out HA.out hqs has HM.out hgl (now := now) ⟨by omega, by omega⟩ HPS.out)
              by_cases he : p = q.p
              · have he2 : (p.toList == q.p.toList) = true := by rw [he]; simp
                have he3 : p.toList = q.p.toList := by rw [he]
                clear he
                go_quiet (fail)
                go_wp2_with fail
                refine (HPU.out _).mono ?_
                rintro _ w7 ⟨ok7, v7, ks7, rfl, hT7⟩
                have HT7 := vl hT7
                have HLE7 := vl hT7.length
                have hl7 : ¬ (20 : Int) < (ks7.length : Int) := by have := hT7.len; omega
                generalize ks7.length = l7 at HLE7 hl7
                clear hT7
                go_wp2_with fail
                refine HLE7.out.mono ?_
                rintro _ _ ⟨rfl, rfl⟩
                clear HLE7
                go_wp2_with fail
                go_roundw
                case rel => exact ⟨i + 1, _, _, by go_num, by omega, HT7, vl (fun e => by omega)⟩
                case measure => simp [intOf]; omega
              · have he3 : ¬ p.toList = q.p.toList := fun e => he (toL_eq.1 e)
                have he2 : (p.toList == q.p.toList) = false := by simpa using he3
                have hne : unums p ≠ unums q.p := fun e => he (unums_inj e)
                by_cases h0 : i = 0
                · subst h0
                  have h1z : (0 : Int) < (pn : Int) := by omega
                  have h1n : 0 < pn := by omega
                  have cp5z : w5.cell? ⟨g, off, none⟩ = some (.string p) := cp5
                  have HGN := vl (fun n => (HTN.out n).get_no HQ.out hqs HM.out hgl (now := now) ⟨by omega, by omega⟩ HPS.out (other_path (HP.out rfl) hne))
                  clear he hne
                  go_quiet (fail)
                  go_wp2_with fail
                  refine (HGN.out _).mono ?_
                  rintro _ w6 ⟨rfl, hT6, hb6⟩
                  have HT6 := vl (hT6.below ((Below.refl _ w6).alloc (Nat.le_refl _) (.cells #[.int .i64 0, .slice none 0 0, .slice none 0 0] 27)))
                  have HR6 : Vl (RB (w6.alloc (.cells #[.int .i64 0, .slice none 0 0, .slice none 0 0] 27)) wr.heap.size q.m p q.h (.slice q.fa q.fn q.fc) (.slice q.ba q.bn q.bc)) := vl (RB.on (w := w6) ((hb6.block _ HR5.out.lt).trans HR5.out) ((Below.refl _ w6).alloc (Nat.le_refl _) _))
                  have HPU6 := vl (HT6.out.put HQ.out HA.out hqs has HM.out hgl (now := now) ⟨by omega, by omega⟩ HPS.out)
                  clear hT6 hb6 HGN HPU HTN y0 y1 y2 y3 y4 z0 z1 z2 d0 d1 d2 d3 d4 cp5 HT5 HR5 HB5
                  obtain ⟨y0, y1, y2, y3, y4⟩ := HR6.out.cells
                  obtain ⟨z0, z1, z2⟩ := HT6.out.pb
                  go_wp2_with fail
                  refine HPU6.out.mono ?_
                  rintro _ w7 ⟨ok7, v7, ks7, rfl, hT7⟩
                  have HT7 := vl hT7
                  have HLE7 := vl hT7.length
                  have hl7 : ¬ (20 : Int) < (ks7.length : Int) := by have := hT7.len; omega
                  generalize ks7.length = l7 at HLE7 hl7
                  clear hT7
                  go_wp2_with fail
                  refine HLE7.out.mono ?_
                  rintro _ _ ⟨rfl, rfl⟩
                  clear HLE7
                  go_wp2_with fail
                  go_roundw
                  case rel => exact ⟨0 + 1, _, _, by go_num, by omega, HT7, vl (fun e => by omega)⟩
                  case measure => simp [intOf]
                · have h0' : ¬ (i : Int) = 0 := by omega
                  have h0'' : ((i : Int) == 0) = false := by simpa using h0'
                  clear he hne
                  go_quiet (fail)
                  go_wp2_with fail
                  refine (HPU.out _).mono ?_
                  rintro _ w7 ⟨ok7, v7, ks7, rfl, hT7⟩
                  have HT7 := vl hT7
                  have HLE7 := vl hT7.length
                  have hl7 : ¬ (20 : Int) < (ks7.length : Int) := by have := hT7.len; omega
                  generalize ks7.length = l7 at HLE7 hl7
                  clear hT7
                  go_wp2_with fail
                  refine HLE7.out.mono ?_
                  rintro _ _ ⟨rfl, rfl⟩
                  clear HLE7
                  go_wp2_with fail
                  go_roundw
                  case rel => exact ⟨i + 1, _, _, by go_num, by omega, HT7, vl (fun e => by omega)⟩
                  case measure => simp [intOf]; omega
            · have h2' : ¬ (i : Int) < 40 := by omega
              go_wp2_with fail
              go_ret
              exact ⟨rfl, HT.out.bel⟩
          · have h1' : ¬ (i : Int) < (pn : Int) := by omega
            go_wp2_with fail
            go_ret
            exact ⟨rfl, HT.out.bel⟩
end Go.Proofs.YtibipnipeaeonaaDoor
