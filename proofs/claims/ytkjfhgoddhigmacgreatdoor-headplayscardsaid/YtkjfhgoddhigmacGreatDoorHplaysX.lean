/-
  THE WALK of the Go function tolllaw1.HeadPlays. No claim by itself.
-/
import Derived.Test.YtkjfhgoddhigmacGreatDoorBothX
namespace Go.Proofs.YtkjfhgoddhigmacGreatDoor
open Go.RowKit
set_option maxRecDepth 100000
theorem dc_len (most : Int) : ∀ (k : Nat) (mx : Int) (A acc : List (ByteArray × ByteArray)) (Z : List Int), acc.length ≤ 40 → (dcF most k mx A acc Z).1.length ≤ 40
  | 0, _, _, _, _, h => h
  | k + 1, mx, A, acc, Z, h => by
    unfold dcF
    split
    · exact h
    · split
      · split
        · simp
        · split
          · simp
          · split
            · simp
            · exact dc_len most k _ _ _ _ h
      · split
        · simp
        · split
          · simp
          · rename_i h2
            exact dc_len most k _ _ _ _ (by omega)
set_option maxHeartbeats 40000000 in
theorem hplays_ok (max : Int) (la : Option Addr) (ll lc : Nat) (A : Nat → Option Addr) (N C : Nat → Nat) (L : Nat → List (ByteArray × ByteArray)) (sa : Option Addr) (sl sc : Nat) (Z : List Int) (ba : Option Addr) (bl bc : Nat) (BA : Nat → Option Addr) (BN BC : Nat → Nat) (BZ : Nat → List Int) (w : World) (hal : Alw w) (hg : Laid w)
    (hL : LArg w la ll lc A N C L) (hS : NArg w sa sl sc Z) (hBL : BArg w ba bl bc BA BN BC BZ) :
    Calls Tryz.prog 3 #[.int .i64 max, .slice la ll lc, .slice sa sl sc, .slice ba bl bc] w fun e w' => e = .returned (.bool true) ∧ Below w.heap.size w w' := by
  have HL : Hid (∀ wx, Below w.heap.size w wx → LArg wx la ll lc A N C L) := fun wx hb => hL.below hb
  have HS : Hid (∀ wx, Below w.heap.size w wx → NArg wx sa sl sc Z) := fun wx hb => hS.below hb
  have HBL : Hid (∀ wx, Below w.heap.size w wx → BArg wx ba bl bc BA BN BC BZ) := fun wx hb => hBL.below hb
  have HG : Hid (∀ wx, Below w.heap.size w wx → Laid wx) := fun wx hb => hg.below hb
  have hn1 := hnew_any max w hal
  have HAL := hide hal
  clear hL hS hBL hal hg
  go_enter Tryz.func3, Tryz.ntmps3
  go_wp2_with fail
  refine hn1.mono ?_
  rintro e w1 ⟨⟨m0, m1, cd, SD, rfl, hC1, hS1⟩ | ⟨hno, rfl⟩, hb1⟩
  · have d1 : decide (max < 0) = false := decide_eq_false (by omega)
    have d2 : decide (4096 < max) = false := decide_eq_false (by omega)
    have her := error_nil 0 w1
    simp only [beq_self_eq_true] at her
    have HC1 := hide hC1
    have HS1 := hide hS1
    clear hn1 hC1 hS1
    go_wp2_with fail
    refine her.mono ?_
    rintro e w2 ⟨rfl, rfl⟩
    clear her
    have hrn := rcnew_any max w1
    go_wp2_with fail
    refine hrn.mono ?_
    rintro e w2 ⟨cr, SR, rfl, hC2, hS2, hb2⟩
    have P0 : Hid (PA max w w2 cd cr 0) := by
      have s1 := hb1.size
      refine ⟨max, [], [], SD, SR, ⟨HC1.out.below hb2, hC2, fun k h1 h2 => ?_, HS1.out, fun k hk => ?_, hb1.trans (hb2.mono s1), HAL.out.pos⟩, HFit.new m0 m1, Nat.le_refl _⟩
      · have h3 := HC1.out.hlt k h1; have h4 := hS2 k h2; omega
      · have := hS2 k hk; omega
    clear hrn hC2 hS2 hb2 HC1 HS1 hb1
    go_wp2_with fail
    go_loopw [14] (fun i wr => ∃ j : Nat, i = .int .i64 j ∧ j ≤ 12 ∧ PA max w wr cd cr j) (fun i _ => 12 - (intOf i).toNat)
    case atStart => exact ⟨0, rfl, by decide, P0.out⟩
    case round =>
      obtain ⟨j, rfl, hj12, hP⟩ := hrel
      have PJ := hide hP
      clear hP P0
      by_cases hjl : j < ll
      · have dj1 : (j : Int) < (ll : Int) := by omega
        by_cases hj : j < 12
        · have dj2 : (j : Int) < 12 := by omega
          by_cases hjs : j < sl
          · have ds1 : (j : Int) < (sl : Int) := by omega
            by_cases hodd : j % 2 = 1
            · have dr1 : ((j : Int).tmod 2 == 1) = true := by rw [Int.tmod_eq_emod_of_nonneg (by omega)]; simp; omega
              have dr2 : ((j : Int) % 2 == 1) = true := by simp; omega
              obtain ⟨mo, AO, sz, SD, SR, BO, F1, hsz⟩ := PJ.out
              rcases HS.out _ BO.hbel with h0 | ⟨gs, os, rfl, hc1, hc2, hcs⟩
              · omega
              have cq := hcs j hjs
              unfold maxLen at hc2
              clear hcs
              generalize Z.getD j 0 = s at *
              by_cases hs : 0 ≤ s ∧ s ≤ 4096
              · have e1 : decide (0 ≤ s) = true := decide_eq_true hs.1
                have e2 : decide (s ≤ 4096) = true := decide_eq_true hs.2
                have hrr := rcresize_any cr ⟨mo, max, max, AO, [], sz, false⟩ SR s _ BO.hR (F1.doc (by simp only; omega))
                have hBO := hide BO
                have hF1 := hide F1
                have hgsl := lt_of_cell cq
                have hgsw : gs < w.heap.size := by
                  rcases HS.out w (Below.refl _ _) with h0 | ⟨gs', os', e, _, _, h⟩
                  · omega
                  · cases e; exact lt_of_cell (h j hjs)
                clear BO F1 PJ
                go_wp2_with fail
                refine hrr.mono ?_
                rintro e w1 ⟨rfl, ho1, SR1, hC1, hS1⟩
                have B1 := hide (hBO.out.doc ho1 hC1 hS1)
                have cq1 : w1.cell? ⟨gs, os + j, none⟩ = some (.int .i64 s) := by
                  rcases HS.out w1 B1.out.hbel with h0 | ⟨gs', os', e, _, _, h⟩
                  · omega
                  · cases e
                    exact (off_cell ho1 hgsl (fun hx => by have := hBO.out.hbR _ hx; omega)).trans cq
                have hdd := hresize_any cd ⟨mo, max, max, AO, [], sz, false⟩ SD s w1 B1.out.hD hF1.out
                clear hrr ho1 hC1 hS1
                go_wp2_with fail
                refine hdd.mono ?_
                rintro e w2 ⟨ho2, SD2, hS2, ⟨_, _, rfl, hC2⟩ | ⟨hno, _⟩⟩
                · have B2 := B1.out.dev ho2 hC2 hS2
                  have PJ2 : Hid (PA max w w2 cd cr (j + 1)) := ⟨s, _, sz ++ [s], SD2, SR1, B2, ⟨Fit.shrink hs.1 hs.2, hF1.out.inn, hF1.out.hmost, fun x hx => by
                    rcases List.mem_append.1 hx with h | h
                    · exact hF1.out.hsz x h
                    · simp at h; omega, fun _ => by simp⟩, by rw [List.length_append, List.length_singleton]; omega⟩
                  have her := error_nil 0 w2
                  simp only [beq_self_eq_true] at her
                  clear hdd ho2 hC2 hS2 B2 B1 hBO hF1 hsz
                  go_wp2_with fail
                  refine her.mono ?_
                  rintro e w3 ⟨rfl, rfl⟩
                  clear her
                  have PJ := PJ2
                  clear PJ2 e1 e2 hs cq cq1 hgsl hgsw dr1 dr2 ds1 hc1 hc2
                  obtain ⟨mo, AO, sz, SD, SR, BO, F1, hsz⟩ := PJ.out
                  have hBO := hide BO
                  have hF1 := hide F1
                  have hB := hide BO.hbel
                  clear BO F1 PJ
                  rcases HL.out _ hB.out with h0 | ⟨gl, ol, rfl, hrw⟩
                  · omega
                  have hcl := hrw.hcap
                  have hml := hrw.hmax
                  unfold maxLen at hml
                  obtain ⟨cj, fj, nj, zj⟩ := hrw.hrow j hjl
                  have HLJ : Hid (∀ wz, Below w.heap.size w wz → wz.cell? ⟨gl, ol + j, none⟩ = some (.slice (A j) (N j) (C j)) ∧ FArg wz (A j) (N j) (C j) (L j)) := fun wz hz => by
                    rcases HL.out wz hz with h0 | ⟨gl', ol', e, hrw'⟩
                    · omega
                    · cases e
                      exact ⟨(hrw'.hrow j hjl).1, (hrw'.hrow j hjl).2.1⟩
                  have hZJ := getD_le zj
                  have hNJ := fj.len
                  clear hrw
                  generalize L j = Lj at *
                  generalize A j = aj at *
                  generalize N j = nn at *
                  generalize C j = cc at *
                  by_cases hm : tooMuch Lj
                  · have hr1 := rcenc_no cr aj nn cc Lj _ fj hNJ nj hZJ hm
                    have HNJ := hide hNJ
                    have ZJ := hide zj
                    clear hNJ zj fj
                    go_wp2_with fail
                    refine hr1.mono ?_
                    rintro e w1 ⟨rfl, hb1⟩
                    have B1 := hide (hBO.out.below hb1)
                    obtain ⟨cj1, fj1⟩ := HLJ.out w1 B1.out.hbel
                    have hd1 := hencode_no cd aj nn cc Lj w1 fj1 nj hZJ hm
                    clear hr1 hb1 hm hZJ fj1 cj
                    go_wp2_with fail
                    refine hd1.mono ?_
                    rintro e w2 ⟨rfl, hb2⟩
                    have B2 := hide (B1.out.below hb2)
                    have her := error_hit 4 4 w2 (HG.out w2 B2.out.hbel)
                    simp only [beq_self_eq_true] at her
                    clear hd1 hb2 cj1
                    go_wp2_with fail
                    refine her.mono ?_
                    rintro e w3 ⟨rfl, hb3⟩
                    have B3 := hide (B2.out.below hb3)
                    have BQ := hide B3.out.hbel
                    obtain ⟨X, hX⟩ : ∃ X : List Int, X = [] := ⟨_, rfl⟩
                    have M1 : Hid (Made w3 0 (.slice none 0 0) 0 X) := by rw [hX]; exact ⟨rfl, Or.inl ⟨rfl, rfl⟩⟩
                    have M2 : Hid (Made w3 0 (.slice none 0 0) 0 X) := M1
                    have zj := ZJ.out
                    clear her hb3 hX ZJ
                    have cl := (HLJ.out w3 BQ.out).1
                    have hgl := lt_of_cell cl
                    have hcv1 := string_made M1.out
                    have hcv2 := string_made M2.out
                    have HSb : Hid (∀ wx, Below (w3).heap.size (w3) wx → wx.cell? ⟨gl, ol + j, none⟩ = some (.slice aj nn cc) ∧ (convert 35 9 (.slice none 0 0)).run Tryz.prog wx = .ok (.string (strOfNums X)) wx ∧ (convert 35 9 (.slice none 0 0)).run Tryz.prog wx = .ok (.string (strOfNums X)) wx) := fun wx hb =>
                      ⟨(hb.cell (p := ⟨gl, ol + j, none⟩) hgl).trans cl, string_made (M2.out.below hb), string_made (M1.out.below hb)⟩
                    have hW1 : ∀ wx, Below (w3).heap.size (w3) wx → Calls Tryz.prog 11 #[.slice aj nn cc] wx fun e w' => e = .returned (.int .i64 (wrap64 (weight Lj : Int))) ∧ Below wx.heap.size wx w' := fun wx hb => hweight_wrap aj nn cc Lj wx (HLJ.out wx (BQ.out.trans (hb.mono BQ.out.size))).2 zj
                    have hW2 : ∀ wx, Below (w3).heap.size (w3) wx → Calls Tryz.prog 12 #[.slice aj nn cc] wx fun e w' => e = .returned (.int .i64 (wrap64 (weight Lj : Int))) ∧ Below wx.heap.size wx w' := fun wx hb => rweight_wrap aj nn cc Lj wx (HLJ.out wx (BQ.out.trans (hb.mono BQ.out.size))).2 zj
                    have HW1 := hide hW1
                    have HW2 := hide hW2
                    clear hW1 hW2
                    generalize wrap64 (weight Lj : Int) = wl at *
                    generalize strOfNums X = XS at *
                    go_wp2_with fail
                    go_region_held3 (fun w' => w'.cell? ⟨gl, ol + j, none⟩ = some (.slice aj nn cc) ∧ (convert 35 9 (.slice none 0 0)).run Tryz.prog w' = .ok (.string XS) w' ∧ (convert 35 9 (.slice none 0 0)).run Tryz.prog w' = .ok (.string XS) w')
                      (first | exact HSb.out _ (Below.refl _ _) | exact HSb.out _ ((Below.refl _ _).drew) | exact HSb.out _ hbx | exact HSb.out _ hby)
                      (first | (go_at_call 11; first | (refine (HW1.out (w3).drew ((Below.refl _ _).drew)).mono ?_; rintro e wx ⟨rfl, hbx0⟩; have hbx : Below (w3).heap.size (w3) wx := (Below.refl _ _).drew.trans hbx0) | (refine (HW1.out wx hbx).mono ?_; rintro e wy ⟨rfl, hby0⟩; have hby : Below (w3).heap.size (w3) wy := hbx.trans (hby0.mono hbx.size))) | (go_at_call 12; first | (refine (HW2.out (w3).drew ((Below.refl _ _).drew)).mono ?_; rintro e wx ⟨rfl, hbx0⟩; have hbx : Below (w3).heap.size (w3) wx := (Below.refl _ _).drew.trans hbx0) | (refine (HW2.out wx hbx).mono ?_; rintro e wy ⟨rfl, hby0⟩; have hby : Below (w3).heap.size (w3) wy := hbx.trans (hby0.mono hbx.size))))
                    all_goals
                      have PN : Hid (PA max w wy cd cr (j + 1)) := ⟨mo, AO, sz, SD, SR, B3.out.below hby, hF1.out, by omega⟩
                      clear hbx0 hby0
                      go_wp2
                      go_roundw
                      case rel => exact ⟨j + 1, by go_num, by omega, PN.out⟩
                      case measure => simp [intOf]; omega
                  · obtain ⟨m1', m2', m3'⟩ := not_much hm
                    have hr1 := rcenc_yes cr ⟨mo, max, max, AO, [], sz, false⟩ SR aj nn cc Lj w.heap.size _ hBO.out.hR (hF1.out.doc (by simp only; omega)) hBO.out.hbel.size hBO.out.hbR (fun wx hb => (HLJ.out wx (hB.out.trans hb)).2) hNJ (by omega) m2' m3'
                    have hFE := hF1.out.enc Lj
                    have bx := enc_bytes hF1.out Lj
                    have hd0 := fun wy hC hA => hencode_yes cd ⟨mo, max, max, AO, [], sz, false⟩ SD aj nn cc Lj wy hC hF1.out hA hm
                    simp only at hr1 hFE bx hd0
                    generalize hAO : (encL mo AO Lj).2 = AO' at *
                    generalize hXX : szL sz ++ (encL mo AO Lj).1 = X at *
                    have HD0 := hide hd0
                    have HFE := hide hFE
                    have HBX := hide bx
                    have HNJ := hide hNJ
                    have ZJ := hide zj
                    clear hNJ zj fj hm hZJ hFE bx hd0 m1' m2' m3' hAO hXX
                    go_wp2_with fail
                    refine hr1.mono ?_
                    rintro e w1 ⟨v1, T1, rfl, heb⟩
                    have B1 := hide (hBO.out.doc heb.off heb.cod heb.sub)
                    have HEB := hide heb
                    have s1 := heb.off.size
                    obtain ⟨cj1, fj1⟩ := HLJ.out w1 B1.out.hbel
                    have hd1 := HD0.out w1 B1.out.hD (fun wx ho => (HLJ.out wx (Below.off B1.out.hbel ho B1.out.hbel.size B1.out.hbD)).2)
                    clear hr1 heb fj1 cj
                    go_wp2_with fail
                    refine hd1.mono ?_
                    rintro e w2 ⟨v2, rfl, hown2, hoff2, SD2, hS2, hN2, hC2⟩
                    have B2 := hide (B1.out.dev hoff2 hC2 hS2)
                    have M2 : Hid (Made w2 w1.heap.size v2 X.length X) := made_own rfl hown2 HBX.out
                    have M1 : Hid (Made w2 _ v1 X.length X) := made_own rfl (own_off HEB.out.own hoff2 (fun k hk hsd => by
                      have h1 := (HEB.out.own.lt k hk).1
                      have h2 := hBO.out.hD.hlt k hsd
                      omega)) HBX.out
                    have BQ := hide B2.out.hbel
                    have her := error_nil 0 w2
                    simp only [beq_self_eq_true] at her
                    have zj := ZJ.out
                    clear hd1 hown2 hoff2 hS2 hN2 hC2 HEB cj1 ZJ HD0
                    go_wp2_with fail
                    refine her.mono ?_
                    rintro e w3 ⟨rfl, rfl⟩
                    clear her
                    have cl := (HLJ.out w2 BQ.out).1
                    have hgl := lt_of_cell cl
                    have hcv1 := string_made M1.out
                    have hcv2 := string_made M2.out
                    have HSb : Hid (∀ wx, Below (w2).heap.size (w2) wx → wx.cell? ⟨gl, ol + j, none⟩ = some (.slice aj nn cc) ∧ (convert 35 9 v2).run Tryz.prog wx = .ok (.string (strOfNums X)) wx ∧ (convert 35 9 v1).run Tryz.prog wx = .ok (.string (strOfNums X)) wx) := fun wx hb =>
                      ⟨(hb.cell (p := ⟨gl, ol + j, none⟩) hgl).trans cl, string_made (M2.out.below hb), string_made (M1.out.below hb)⟩
                    have hW1 : ∀ wx, Below (w2).heap.size (w2) wx → Calls Tryz.prog 11 #[.slice aj nn cc] wx fun e w' => e = .returned (.int .i64 (wrap64 (weight Lj : Int))) ∧ Below wx.heap.size wx w' := fun wx hb => hweight_wrap aj nn cc Lj wx (HLJ.out wx (BQ.out.trans (hb.mono BQ.out.size))).2 zj
                    have hW2 : ∀ wx, Below (w2).heap.size (w2) wx → Calls Tryz.prog 12 #[.slice aj nn cc] wx fun e w' => e = .returned (.int .i64 (wrap64 (weight Lj : Int))) ∧ Below wx.heap.size wx w' := fun wx hb => rweight_wrap aj nn cc Lj wx (HLJ.out wx (BQ.out.trans (hb.mono BQ.out.size))).2 zj
                    have HW1 := hide hW1
                    have HW2 := hide hW2
                    clear hW1 hW2
                    generalize wrap64 (weight Lj : Int) = wl at *
                    generalize strOfNums X = XS at *
                    go_wp2_with fail
                    go_region_held3 (fun w' => w'.cell? ⟨gl, ol + j, none⟩ = some (.slice aj nn cc) ∧ (convert 35 9 v2).run Tryz.prog w' = .ok (.string XS) w' ∧ (convert 35 9 v1).run Tryz.prog w' = .ok (.string XS) w')
                      (first | exact HSb.out _ (Below.refl _ _) | exact HSb.out _ ((Below.refl _ _).drew) | exact HSb.out _ hbx | exact HSb.out _ hby)
                      (first | (go_at_call 11; first | (refine (HW1.out (w2).drew ((Below.refl _ _).drew)).mono ?_; rintro e wx ⟨rfl, hbx0⟩; have hbx : Below (w2).heap.size (w2) wx := (Below.refl _ _).drew.trans hbx0) | (refine (HW1.out wx hbx).mono ?_; rintro e wy ⟨rfl, hby0⟩; have hby : Below (w2).heap.size (w2) wy := hbx.trans (hby0.mono hbx.size))) | (go_at_call 12; first | (refine (HW2.out (w2).drew ((Below.refl _ _).drew)).mono ?_; rintro e wx ⟨rfl, hbx0⟩; have hbx : Below (w2).heap.size (w2) wx := (Below.refl _ _).drew.trans hbx0) | (refine (HW2.out wx hbx).mono ?_; rintro e wy ⟨rfl, hby0⟩; have hby : Below (w2).heap.size (w2) wy := hbx.trans (hby0.mono hbx.size))))
                    all_goals
                      have PN : Hid (PA max w wy cd cr (j + 1)) := ⟨mo, AO', [], SD2, T1, B2.out.below hby, HFE.out, Nat.zero_le _⟩
                      clear hbx0 hby0
                      go_wp2
                      go_roundw
                      case rel => exact ⟨j + 1, by go_num, by omega, PN.out⟩
                      case measure => simp [intOf]; omega
                · exact absurd hs hno
              · have hdd := hresize_any cd ⟨mo, max, max, AO, [], sz, false⟩ SD s _ BO.hD F1
                have hBO := hide BO
                have hF1 := hide F1
                clear BO F1 PJ
                by_cases hs0 : 0 ≤ s
                · have e1 : decide (0 ≤ s) = true := decide_eq_true hs0
                  have e2 : decide (s ≤ 4096) = false := decide_eq_false (by omega)
                  go_wp2_with fail
                  refine hdd.mono ?_
                  rintro e w2 ⟨ho2, SD2, hS2, ⟨h1, h2, _, _⟩ | ⟨_, rfl, hC2⟩⟩
                  · exact absurd ⟨h1, h2⟩ hs
                  · have B2 := hide (hBO.out.dev ho2 hC2 hS2)
                    have PJ2 : Hid (∀ wx, Below w2.heap.size w2 wx → PA max w wx cd cr (j + 1)) := fun wx hb => ⟨mo, AO, sz, SD2, SR, B2.out.below hb, hF1.out, by omega⟩
                    have her := error_hit 1 1 w2 (HG.out w2 B2.out.hbel)
                    simp only [beq_self_eq_true] at her
                    clear hdd ho2 hC2 hS2 B2 hBO hF1 hsz
                    go_wp2_with fail
                    refine her.mono ?_
                    rintro e w3 ⟨rfl, hb3⟩
                    have PJ := hide (PJ2.out w3 hb3)
                    clear her hb3 PJ2 hs cq dr1 dr2 ds1 hc1 hc2 e1
                    obtain ⟨mo, AO, sz, SD, SR, BO, F1, hsz⟩ := PJ.out
                    have hBO := hide BO
                    have hF1 := hide F1
                    have hB := hide BO.hbel
                    clear BO F1 PJ
                    rcases HL.out _ hB.out with h0 | ⟨gl, ol, rfl, hrw⟩
                    · omega
                    have hcl := hrw.hcap
                    have hml := hrw.hmax
                    unfold maxLen at hml
                    obtain ⟨cj, fj, nj, zj⟩ := hrw.hrow j hjl
                    have HLJ : Hid (∀ wz, Below w.heap.size w wz → wz.cell? ⟨gl, ol + j, none⟩ = some (.slice (A j) (N j) (C j)) ∧ FArg wz (A j) (N j) (C j) (L j)) := fun wz hz => by
                      rcases HL.out wz hz with h0 | ⟨gl', ol', e, hrw'⟩
                      · omega
                      · cases e
                        exact ⟨(hrw'.hrow j hjl).1, (hrw'.hrow j hjl).2.1⟩
                    have hZJ := getD_le zj
                    have hNJ := fj.len
                    clear hrw
                    generalize L j = Lj at *
                    generalize A j = aj at *
                    generalize N j = nn at *
                    generalize C j = cc at *
                    by_cases hm : tooMuch Lj
                    · have hr1 := rcenc_no cr aj nn cc Lj _ fj hNJ nj hZJ hm
                      have HNJ := hide hNJ
                      have ZJ := hide zj
                      clear hNJ zj fj
                      go_wp2_with fail
                      refine hr1.mono ?_
                      rintro e w1 ⟨rfl, hb1⟩
                      have B1 := hide (hBO.out.below hb1)
                      obtain ⟨cj1, fj1⟩ := HLJ.out w1 B1.out.hbel
                      have hd1 := hencode_no cd aj nn cc Lj w1 fj1 nj hZJ hm
                      clear hr1 hb1 hm hZJ fj1 cj
                      go_wp2_with fail
                      refine hd1.mono ?_
                      rintro e w2 ⟨rfl, hb2⟩
                      have B2 := hide (B1.out.below hb2)
                      have her := error_hit 4 4 w2 (HG.out w2 B2.out.hbel)
                      simp only [beq_self_eq_true] at her
                      clear hd1 hb2 cj1
                      go_wp2_with fail
                      refine her.mono ?_
                      rintro e w3 ⟨rfl, hb3⟩
                      have B3 := hide (B2.out.below hb3)
                      have BQ := hide B3.out.hbel
                      obtain ⟨X, hX⟩ : ∃ X : List Int, X = [] := ⟨_, rfl⟩
                      have M1 : Hid (Made w3 0 (.slice none 0 0) 0 X) := by rw [hX]; exact ⟨rfl, Or.inl ⟨rfl, rfl⟩⟩
                      have M2 : Hid (Made w3 0 (.slice none 0 0) 0 X) := M1
                      have zj := ZJ.out
                      clear her hb3 hX ZJ
                      have cl := (HLJ.out w3 BQ.out).1
                      have hgl := lt_of_cell cl
                      have hcv1 := string_made M1.out
                      have hcv2 := string_made M2.out
                      have HSb : Hid (∀ wx, Below (w3).heap.size (w3) wx → wx.cell? ⟨gl, ol + j, none⟩ = some (.slice aj nn cc) ∧ (convert 35 9 (.slice none 0 0)).run Tryz.prog wx = .ok (.string (strOfNums X)) wx ∧ (convert 35 9 (.slice none 0 0)).run Tryz.prog wx = .ok (.string (strOfNums X)) wx) := fun wx hb =>
                        ⟨(hb.cell (p := ⟨gl, ol + j, none⟩) hgl).trans cl, string_made (M2.out.below hb), string_made (M1.out.below hb)⟩
                      have hW1 : ∀ wx, Below (w3).heap.size (w3) wx → Calls Tryz.prog 11 #[.slice aj nn cc] wx fun e w' => e = .returned (.int .i64 (wrap64 (weight Lj : Int))) ∧ Below wx.heap.size wx w' := fun wx hb => hweight_wrap aj nn cc Lj wx (HLJ.out wx (BQ.out.trans (hb.mono BQ.out.size))).2 zj
                      have hW2 : ∀ wx, Below (w3).heap.size (w3) wx → Calls Tryz.prog 12 #[.slice aj nn cc] wx fun e w' => e = .returned (.int .i64 (wrap64 (weight Lj : Int))) ∧ Below wx.heap.size wx w' := fun wx hb => rweight_wrap aj nn cc Lj wx (HLJ.out wx (BQ.out.trans (hb.mono BQ.out.size))).2 zj
                      have HW1 := hide hW1
                      have HW2 := hide hW2
                      clear hW1 hW2
                      generalize wrap64 (weight Lj : Int) = wl at *
                      generalize strOfNums X = XS at *
                      go_wp2_with fail
                      go_region_held3 (fun w' => w'.cell? ⟨gl, ol + j, none⟩ = some (.slice aj nn cc) ∧ (convert 35 9 (.slice none 0 0)).run Tryz.prog w' = .ok (.string XS) w' ∧ (convert 35 9 (.slice none 0 0)).run Tryz.prog w' = .ok (.string XS) w')
                        (first | exact HSb.out _ (Below.refl _ _) | exact HSb.out _ ((Below.refl _ _).drew) | exact HSb.out _ hbx | exact HSb.out _ hby)
                        (first | (go_at_call 11; first | (refine (HW1.out (w3).drew ((Below.refl _ _).drew)).mono ?_; rintro e wx ⟨rfl, hbx0⟩; have hbx : Below (w3).heap.size (w3) wx := (Below.refl _ _).drew.trans hbx0) | (refine (HW1.out wx hbx).mono ?_; rintro e wy ⟨rfl, hby0⟩; have hby : Below (w3).heap.size (w3) wy := hbx.trans (hby0.mono hbx.size))) | (go_at_call 12; first | (refine (HW2.out (w3).drew ((Below.refl _ _).drew)).mono ?_; rintro e wx ⟨rfl, hbx0⟩; have hbx : Below (w3).heap.size (w3) wx := (Below.refl _ _).drew.trans hbx0) | (refine (HW2.out wx hbx).mono ?_; rintro e wy ⟨rfl, hby0⟩; have hby : Below (w3).heap.size (w3) wy := hbx.trans (hby0.mono hbx.size))))
                      all_goals
                        have PN : Hid (PA max w wy cd cr (j + 1)) := ⟨mo, AO, sz, SD, SR, B3.out.below hby, hF1.out, by omega⟩
                        clear hbx0 hby0
                        go_wp2
                        go_roundw
                        case rel => exact ⟨j + 1, by go_num, by omega, PN.out⟩
                        case measure => simp [intOf]; omega
                    · obtain ⟨m1', m2', m3'⟩ := not_much hm
                      have hr1 := rcenc_yes cr ⟨mo, max, max, AO, [], sz, false⟩ SR aj nn cc Lj w.heap.size _ hBO.out.hR (hF1.out.doc (by simp only; omega)) hBO.out.hbel.size hBO.out.hbR (fun wx hb => (HLJ.out wx (hB.out.trans hb)).2) hNJ (by omega) m2' m3'
                      have hFE := hF1.out.enc Lj
                      have bx := enc_bytes hF1.out Lj
                      have hd0 := fun wy hC hA => hencode_yes cd ⟨mo, max, max, AO, [], sz, false⟩ SD aj nn cc Lj wy hC hF1.out hA hm
                      simp only at hr1 hFE bx hd0
                      generalize hAO : (encL mo AO Lj).2 = AO' at *
                      generalize hXX : szL sz ++ (encL mo AO Lj).1 = X at *
                      have HD0 := hide hd0
                      have HFE := hide hFE
                      have HBX := hide bx
                      have HNJ := hide hNJ
                      have ZJ := hide zj
                      clear hNJ zj fj hm hZJ hFE bx hd0 m1' m2' m3' hAO hXX
                      go_wp2_with fail
                      refine hr1.mono ?_
                      rintro e w1 ⟨v1, T1, rfl, heb⟩
                      have B1 := hide (hBO.out.doc heb.off heb.cod heb.sub)
                      have HEB := hide heb
                      have s1 := heb.off.size
                      obtain ⟨cj1, fj1⟩ := HLJ.out w1 B1.out.hbel
                      have hd1 := HD0.out w1 B1.out.hD (fun wx ho => (HLJ.out wx (Below.off B1.out.hbel ho B1.out.hbel.size B1.out.hbD)).2)
                      clear hr1 heb fj1 cj
                      go_wp2_with fail
                      refine hd1.mono ?_
                      rintro e w2 ⟨v2, rfl, hown2, hoff2, SD2, hS2, hN2, hC2⟩
                      have B2 := hide (B1.out.dev hoff2 hC2 hS2)
                      have M2 : Hid (Made w2 w1.heap.size v2 X.length X) := made_own rfl hown2 HBX.out
                      have M1 : Hid (Made w2 _ v1 X.length X) := made_own rfl (own_off HEB.out.own hoff2 (fun k hk hsd => by
                        have h1 := (HEB.out.own.lt k hk).1
                        have h2 := hBO.out.hD.hlt k hsd
                        omega)) HBX.out
                      have BQ := hide B2.out.hbel
                      have her := error_nil 0 w2
                      simp only [beq_self_eq_true] at her
                      have zj := ZJ.out
                      clear hd1 hown2 hoff2 hS2 hN2 hC2 HEB cj1 ZJ HD0
                      go_wp2_with fail
                      refine her.mono ?_
                      rintro e w3 ⟨rfl, rfl⟩
                      clear her
                      have cl := (HLJ.out w2 BQ.out).1
                      have hgl := lt_of_cell cl
                      have hcv1 := string_made M1.out
                      have hcv2 := string_made M2.out
                      have HSb : Hid (∀ wx, Below (w2).heap.size (w2) wx → wx.cell? ⟨gl, ol + j, none⟩ = some (.slice aj nn cc) ∧ (convert 35 9 v2).run Tryz.prog wx = .ok (.string (strOfNums X)) wx ∧ (convert 35 9 v1).run Tryz.prog wx = .ok (.string (strOfNums X)) wx) := fun wx hb =>
                        ⟨(hb.cell (p := ⟨gl, ol + j, none⟩) hgl).trans cl, string_made (M2.out.below hb), string_made (M1.out.below hb)⟩
                      have hW1 : ∀ wx, Below (w2).heap.size (w2) wx → Calls Tryz.prog 11 #[.slice aj nn cc] wx fun e w' => e = .returned (.int .i64 (wrap64 (weight Lj : Int))) ∧ Below wx.heap.size wx w' := fun wx hb => hweight_wrap aj nn cc Lj wx (HLJ.out wx (BQ.out.trans (hb.mono BQ.out.size))).2 zj
                      have hW2 : ∀ wx, Below (w2).heap.size (w2) wx → Calls Tryz.prog 12 #[.slice aj nn cc] wx fun e w' => e = .returned (.int .i64 (wrap64 (weight Lj : Int))) ∧ Below wx.heap.size wx w' := fun wx hb => rweight_wrap aj nn cc Lj wx (HLJ.out wx (BQ.out.trans (hb.mono BQ.out.size))).2 zj
                      have HW1 := hide hW1
                      have HW2 := hide hW2
                      clear hW1 hW2
                      generalize wrap64 (weight Lj : Int) = wl at *
                      generalize strOfNums X = XS at *
                      go_wp2_with fail
                      go_region_held3 (fun w' => w'.cell? ⟨gl, ol + j, none⟩ = some (.slice aj nn cc) ∧ (convert 35 9 v2).run Tryz.prog w' = .ok (.string XS) w' ∧ (convert 35 9 v1).run Tryz.prog w' = .ok (.string XS) w')
                        (first | exact HSb.out _ (Below.refl _ _) | exact HSb.out _ ((Below.refl _ _).drew) | exact HSb.out _ hbx | exact HSb.out _ hby)
                        (first | (go_at_call 11; first | (refine (HW1.out (w2).drew ((Below.refl _ _).drew)).mono ?_; rintro e wx ⟨rfl, hbx0⟩; have hbx : Below (w2).heap.size (w2) wx := (Below.refl _ _).drew.trans hbx0) | (refine (HW1.out wx hbx).mono ?_; rintro e wy ⟨rfl, hby0⟩; have hby : Below (w2).heap.size (w2) wy := hbx.trans (hby0.mono hbx.size))) | (go_at_call 12; first | (refine (HW2.out (w2).drew ((Below.refl _ _).drew)).mono ?_; rintro e wx ⟨rfl, hbx0⟩; have hbx : Below (w2).heap.size (w2) wx := (Below.refl _ _).drew.trans hbx0) | (refine (HW2.out wx hbx).mono ?_; rintro e wy ⟨rfl, hby0⟩; have hby : Below (w2).heap.size (w2) wy := hbx.trans (hby0.mono hbx.size))))
                      all_goals
                        have PN : Hid (PA max w wy cd cr (j + 1)) := ⟨mo, AO', [], SD2, T1, B2.out.below hby, HFE.out, Nat.zero_le _⟩
                        clear hbx0 hby0
                        go_wp2
                        go_roundw
                        case rel => exact ⟨j + 1, by go_num, by omega, PN.out⟩
                        case measure => simp [intOf]; omega
                · have e1 : decide (0 ≤ s) = false := decide_eq_false hs0
                  go_wp2_with fail
                  refine hdd.mono ?_
                  rintro e w2 ⟨ho2, SD2, hS2, ⟨h1, h2, _, _⟩ | ⟨_, rfl, hC2⟩⟩
                  · exact absurd ⟨h1, h2⟩ hs
                  · have B2 := hide (hBO.out.dev ho2 hC2 hS2)
                    have PJ2 : Hid (∀ wx, Below w2.heap.size w2 wx → PA max w wx cd cr (j + 1)) := fun wx hb => ⟨mo, AO, sz, SD2, SR, B2.out.below hb, hF1.out, by omega⟩
                    have her := error_hit 1 1 w2 (HG.out w2 B2.out.hbel)
                    simp only [beq_self_eq_true] at her
                    clear hdd ho2 hC2 hS2 B2 hBO hF1 hsz
                    go_wp2_with fail
                    refine her.mono ?_
                    rintro e w3 ⟨rfl, hb3⟩
                    have PJ := hide (PJ2.out w3 hb3)
                    clear her hb3 PJ2 hs cq dr1 dr2 ds1 hc1 hc2 e1
                    obtain ⟨mo, AO, sz, SD, SR, BO, F1, hsz⟩ := PJ.out
                    have hBO := hide BO
                    have hF1 := hide F1
                    have hB := hide BO.hbel
                    clear BO F1 PJ
                    rcases HL.out _ hB.out with h0 | ⟨gl, ol, rfl, hrw⟩
                    · omega
                    have hcl := hrw.hcap
                    have hml := hrw.hmax
                    unfold maxLen at hml
                    obtain ⟨cj, fj, nj, zj⟩ := hrw.hrow j hjl
                    have HLJ : Hid (∀ wz, Below w.heap.size w wz → wz.cell? ⟨gl, ol + j, none⟩ = some (.slice (A j) (N j) (C j)) ∧ FArg wz (A j) (N j) (C j) (L j)) := fun wz hz => by
                      rcases HL.out wz hz with h0 | ⟨gl', ol', e, hrw'⟩
                      · omega
                      · cases e
                        exact ⟨(hrw'.hrow j hjl).1, (hrw'.hrow j hjl).2.1⟩
                    have hZJ := getD_le zj
                    have hNJ := fj.len
                    clear hrw
                    generalize L j = Lj at *
                    generalize A j = aj at *
                    generalize N j = nn at *
                    generalize C j = cc at *
                    by_cases hm : tooMuch Lj
                    · have hr1 := rcenc_no cr aj nn cc Lj _ fj hNJ nj hZJ hm
                      have HNJ := hide hNJ
                      have ZJ := hide zj
                      clear hNJ zj fj
                      go_wp2_with fail
                      refine hr1.mono ?_
                      rintro e w1 ⟨rfl, hb1⟩
                      have B1 := hide (hBO.out.below hb1)
                      obtain ⟨cj1, fj1⟩ := HLJ.out w1 B1.out.hbel
                      have hd1 := hencode_no cd aj nn cc Lj w1 fj1 nj hZJ hm
                      clear hr1 hb1 hm hZJ fj1 cj
                      go_wp2_with fail
                      refine hd1.mono ?_
                      rintro e w2 ⟨rfl, hb2⟩
                      have B2 := hide (B1.out.below hb2)
                      have her := error_hit 4 4 w2 (HG.out w2 B2.out.hbel)
                      simp only [beq_self_eq_true] at her
                      clear hd1 hb2 cj1
                      go_wp2_with fail
                      refine her.mono ?_
                      rintro e w3 ⟨rfl, hb3⟩
                      have B3 := hide (B2.out.below hb3)
                      have BQ := hide B3.out.hbel
                      obtain ⟨X, hX⟩ : ∃ X : List Int, X = [] := ⟨_, rfl⟩
                      have M1 : Hid (Made w3 0 (.slice none 0 0) 0 X) := by rw [hX]; exact ⟨rfl, Or.inl ⟨rfl, rfl⟩⟩
                      have M2 : Hid (Made w3 0 (.slice none 0 0) 0 X) := M1
                      have zj := ZJ.out
                      clear her hb3 hX ZJ
                      have cl := (HLJ.out w3 BQ.out).1
                      have hgl := lt_of_cell cl
                      have hcv1 := string_made M1.out
                      have hcv2 := string_made M2.out
                      have HSb : Hid (∀ wx, Below (w3).heap.size (w3) wx → wx.cell? ⟨gl, ol + j, none⟩ = some (.slice aj nn cc) ∧ (convert 35 9 (.slice none 0 0)).run Tryz.prog wx = .ok (.string (strOfNums X)) wx ∧ (convert 35 9 (.slice none 0 0)).run Tryz.prog wx = .ok (.string (strOfNums X)) wx) := fun wx hb =>
                        ⟨(hb.cell (p := ⟨gl, ol + j, none⟩) hgl).trans cl, string_made (M2.out.below hb), string_made (M1.out.below hb)⟩
                      have hW1 : ∀ wx, Below (w3).heap.size (w3) wx → Calls Tryz.prog 11 #[.slice aj nn cc] wx fun e w' => e = .returned (.int .i64 (wrap64 (weight Lj : Int))) ∧ Below wx.heap.size wx w' := fun wx hb => hweight_wrap aj nn cc Lj wx (HLJ.out wx (BQ.out.trans (hb.mono BQ.out.size))).2 zj
                      have hW2 : ∀ wx, Below (w3).heap.size (w3) wx → Calls Tryz.prog 12 #[.slice aj nn cc] wx fun e w' => e = .returned (.int .i64 (wrap64 (weight Lj : Int))) ∧ Below wx.heap.size wx w' := fun wx hb => rweight_wrap aj nn cc Lj wx (HLJ.out wx (BQ.out.trans (hb.mono BQ.out.size))).2 zj
                      have HW1 := hide hW1
                      have HW2 := hide hW2
                      clear hW1 hW2
                      generalize wrap64 (weight Lj : Int) = wl at *
                      generalize strOfNums X = XS at *
                      go_wp2_with fail
                      go_region_held3 (fun w' => w'.cell? ⟨gl, ol + j, none⟩ = some (.slice aj nn cc) ∧ (convert 35 9 (.slice none 0 0)).run Tryz.prog w' = .ok (.string XS) w' ∧ (convert 35 9 (.slice none 0 0)).run Tryz.prog w' = .ok (.string XS) w')
                        (first | exact HSb.out _ (Below.refl _ _) | exact HSb.out _ ((Below.refl _ _).drew) | exact HSb.out _ hbx | exact HSb.out _ hby)
                        (first | (go_at_call 11; first | (refine (HW1.out (w3).drew ((Below.refl _ _).drew)).mono ?_; rintro e wx ⟨rfl, hbx0⟩; have hbx : Below (w3).heap.size (w3) wx := (Below.refl _ _).drew.trans hbx0) | (refine (HW1.out wx hbx).mono ?_; rintro e wy ⟨rfl, hby0⟩; have hby : Below (w3).heap.size (w3) wy := hbx.trans (hby0.mono hbx.size))) | (go_at_call 12; first | (refine (HW2.out (w3).drew ((Below.refl _ _).drew)).mono ?_; rintro e wx ⟨rfl, hbx0⟩; have hbx : Below (w3).heap.size (w3) wx := (Below.refl _ _).drew.trans hbx0) | (refine (HW2.out wx hbx).mono ?_; rintro e wy ⟨rfl, hby0⟩; have hby : Below (w3).heap.size (w3) wy := hbx.trans (hby0.mono hbx.size))))
                      all_goals
                        have PN : Hid (PA max w wy cd cr (j + 1)) := ⟨mo, AO, sz, SD, SR, B3.out.below hby, hF1.out, by omega⟩
                        clear hbx0 hby0
                        go_wp2
                        go_roundw
                        case rel => exact ⟨j + 1, by go_num, by omega, PN.out⟩
                        case measure => simp [intOf]; omega
                    · obtain ⟨m1', m2', m3'⟩ := not_much hm
                      have hr1 := rcenc_yes cr ⟨mo, max, max, AO, [], sz, false⟩ SR aj nn cc Lj w.heap.size _ hBO.out.hR (hF1.out.doc (by simp only; omega)) hBO.out.hbel.size hBO.out.hbR (fun wx hb => (HLJ.out wx (hB.out.trans hb)).2) hNJ (by omega) m2' m3'
                      have hFE := hF1.out.enc Lj
                      have bx := enc_bytes hF1.out Lj
                      have hd0 := fun wy hC hA => hencode_yes cd ⟨mo, max, max, AO, [], sz, false⟩ SD aj nn cc Lj wy hC hF1.out hA hm
                      simp only at hr1 hFE bx hd0
                      generalize hAO : (encL mo AO Lj).2 = AO' at *
                      generalize hXX : szL sz ++ (encL mo AO Lj).1 = X at *
                      have HD0 := hide hd0
                      have HFE := hide hFE
                      have HBX := hide bx
                      have HNJ := hide hNJ
                      have ZJ := hide zj
                      clear hNJ zj fj hm hZJ hFE bx hd0 m1' m2' m3' hAO hXX
                      go_wp2_with fail
                      refine hr1.mono ?_
                      rintro e w1 ⟨v1, T1, rfl, heb⟩
                      have B1 := hide (hBO.out.doc heb.off heb.cod heb.sub)
                      have HEB := hide heb
                      have s1 := heb.off.size
                      obtain ⟨cj1, fj1⟩ := HLJ.out w1 B1.out.hbel
                      have hd1 := HD0.out w1 B1.out.hD (fun wx ho => (HLJ.out wx (Below.off B1.out.hbel ho B1.out.hbel.size B1.out.hbD)).2)
                      clear hr1 heb fj1 cj
                      go_wp2_with fail
                      refine hd1.mono ?_
                      rintro e w2 ⟨v2, rfl, hown2, hoff2, SD2, hS2, hN2, hC2⟩
                      have B2 := hide (B1.out.dev hoff2 hC2 hS2)
                      have M2 : Hid (Made w2 w1.heap.size v2 X.length X) := made_own rfl hown2 HBX.out
                      have M1 : Hid (Made w2 _ v1 X.length X) := made_own rfl (own_off HEB.out.own hoff2 (fun k hk hsd => by
                        have h1 := (HEB.out.own.lt k hk).1
                        have h2 := hBO.out.hD.hlt k hsd
                        omega)) HBX.out
                      have BQ := hide B2.out.hbel
                      have her := error_nil 0 w2
                      simp only [beq_self_eq_true] at her
                      have zj := ZJ.out
                      clear hd1 hown2 hoff2 hS2 hN2 hC2 HEB cj1 ZJ HD0
                      go_wp2_with fail
                      refine her.mono ?_
                      rintro e w3 ⟨rfl, rfl⟩
                      clear her
                      have cl := (HLJ.out w2 BQ.out).1
                      have hgl := lt_of_cell cl
                      have hcv1 := string_made M1.out
                      have hcv2 := string_made M2.out
                      have HSb : Hid (∀ wx, Below (w2).heap.size (w2) wx → wx.cell? ⟨gl, ol + j, none⟩ = some (.slice aj nn cc) ∧ (convert 35 9 v2).run Tryz.prog wx = .ok (.string (strOfNums X)) wx ∧ (convert 35 9 v1).run Tryz.prog wx = .ok (.string (strOfNums X)) wx) := fun wx hb =>
                        ⟨(hb.cell (p := ⟨gl, ol + j, none⟩) hgl).trans cl, string_made (M2.out.below hb), string_made (M1.out.below hb)⟩
                      have hW1 : ∀ wx, Below (w2).heap.size (w2) wx → Calls Tryz.prog 11 #[.slice aj nn cc] wx fun e w' => e = .returned (.int .i64 (wrap64 (weight Lj : Int))) ∧ Below wx.heap.size wx w' := fun wx hb => hweight_wrap aj nn cc Lj wx (HLJ.out wx (BQ.out.trans (hb.mono BQ.out.size))).2 zj
                      have hW2 : ∀ wx, Below (w2).heap.size (w2) wx → Calls Tryz.prog 12 #[.slice aj nn cc] wx fun e w' => e = .returned (.int .i64 (wrap64 (weight Lj : Int))) ∧ Below wx.heap.size wx w' := fun wx hb => rweight_wrap aj nn cc Lj wx (HLJ.out wx (BQ.out.trans (hb.mono BQ.out.size))).2 zj
                      have HW1 := hide hW1
                      have HW2 := hide hW2
                      clear hW1 hW2
                      generalize wrap64 (weight Lj : Int) = wl at *
                      generalize strOfNums X = XS at *
                      go_wp2_with fail
                      go_region_held3 (fun w' => w'.cell? ⟨gl, ol + j, none⟩ = some (.slice aj nn cc) ∧ (convert 35 9 v2).run Tryz.prog w' = .ok (.string XS) w' ∧ (convert 35 9 v1).run Tryz.prog w' = .ok (.string XS) w')
                        (first | exact HSb.out _ (Below.refl _ _) | exact HSb.out _ ((Below.refl _ _).drew) | exact HSb.out _ hbx | exact HSb.out _ hby)
                        (first | (go_at_call 11; first | (refine (HW1.out (w2).drew ((Below.refl _ _).drew)).mono ?_; rintro e wx ⟨rfl, hbx0⟩; have hbx : Below (w2).heap.size (w2) wx := (Below.refl _ _).drew.trans hbx0) | (refine (HW1.out wx hbx).mono ?_; rintro e wy ⟨rfl, hby0⟩; have hby : Below (w2).heap.size (w2) wy := hbx.trans (hby0.mono hbx.size))) | (go_at_call 12; first | (refine (HW2.out (w2).drew ((Below.refl _ _).drew)).mono ?_; rintro e wx ⟨rfl, hbx0⟩; have hbx : Below (w2).heap.size (w2) wx := (Below.refl _ _).drew.trans hbx0) | (refine (HW2.out wx hbx).mono ?_; rintro e wy ⟨rfl, hby0⟩; have hby : Below (w2).heap.size (w2) wy := hbx.trans (hby0.mono hbx.size))))
                      all_goals
                        have PN : Hid (PA max w wy cd cr (j + 1)) := ⟨mo, AO', [], SD2, T1, B2.out.below hby, HFE.out, Nat.zero_le _⟩
                        clear hbx0 hby0
                        go_wp2
                        go_roundw
                        case rel => exact ⟨j + 1, by go_num, by omega, PN.out⟩
                        case measure => simp [intOf]; omega
            · have dr1 : ((j : Int).tmod 2 == 1) = false := by rw [Int.tmod_eq_emod_of_nonneg (by omega)]; simp; omega
              have dr2 : ((j : Int) % 2 == 1) = false := by simp; omega
              have PJ1 : Hid (PA max w wr cd cr (j + 1)) := by
                obtain ⟨mo, AO, sz, SD, SR, BO, F1, hsz⟩ := PJ.out
                exact ⟨mo, AO, sz, SD, SR, BO, F1, by omega⟩
              clear PJ
              have PJ := PJ1
              clear PJ1
              obtain ⟨mo, AO, sz, SD, SR, BO, F1, hsz⟩ := PJ.out
              have hBO := hide BO
              have hF1 := hide F1
              have hB := hide BO.hbel
              clear BO F1 PJ
              rcases HL.out _ hB.out with h0 | ⟨gl, ol, rfl, hrw⟩
              · omega
              have hcl := hrw.hcap
              have hml := hrw.hmax
              unfold maxLen at hml
              obtain ⟨cj, fj, nj, zj⟩ := hrw.hrow j hjl
              have HLJ : Hid (∀ wz, Below w.heap.size w wz → wz.cell? ⟨gl, ol + j, none⟩ = some (.slice (A j) (N j) (C j)) ∧ FArg wz (A j) (N j) (C j) (L j)) := fun wz hz => by
                rcases HL.out wz hz with h0 | ⟨gl', ol', e, hrw'⟩
                · omega
                · cases e
                  exact ⟨(hrw'.hrow j hjl).1, (hrw'.hrow j hjl).2.1⟩
              have hZJ := getD_le zj
              have hNJ := fj.len
              clear hrw
              generalize L j = Lj at *
              generalize A j = aj at *
              generalize N j = nn at *
              generalize C j = cc at *
              by_cases hm : tooMuch Lj
              · have hr1 := rcenc_no cr aj nn cc Lj _ fj hNJ nj hZJ hm
                have HNJ := hide hNJ
                have ZJ := hide zj
                clear hNJ zj fj
                go_wp2_with fail
                refine hr1.mono ?_
                rintro e w1 ⟨rfl, hb1⟩
                have B1 := hide (hBO.out.below hb1)
                obtain ⟨cj1, fj1⟩ := HLJ.out w1 B1.out.hbel
                have hd1 := hencode_no cd aj nn cc Lj w1 fj1 nj hZJ hm
                clear hr1 hb1 hm hZJ fj1 cj
                go_wp2_with fail
                refine hd1.mono ?_
                rintro e w2 ⟨rfl, hb2⟩
                have B2 := hide (B1.out.below hb2)
                have her := error_hit 4 4 w2 (HG.out w2 B2.out.hbel)
                simp only [beq_self_eq_true] at her
                clear hd1 hb2 cj1
                go_wp2_with fail
                refine her.mono ?_
                rintro e w3 ⟨rfl, hb3⟩
                have B3 := hide (B2.out.below hb3)
                have BQ := hide B3.out.hbel
                obtain ⟨X, hX⟩ : ∃ X : List Int, X = [] := ⟨_, rfl⟩
                have M1 : Hid (Made w3 0 (.slice none 0 0) 0 X) := by rw [hX]; exact ⟨rfl, Or.inl ⟨rfl, rfl⟩⟩
                have M2 : Hid (Made w3 0 (.slice none 0 0) 0 X) := M1
                have zj := ZJ.out
                clear her hb3 hX ZJ
                have cl := (HLJ.out w3 BQ.out).1
                have hgl := lt_of_cell cl
                have hcv1 := string_made M1.out
                have hcv2 := string_made M2.out
                have HSb : Hid (∀ wx, Below (w3).heap.size (w3) wx → wx.cell? ⟨gl, ol + j, none⟩ = some (.slice aj nn cc) ∧ (convert 35 9 (.slice none 0 0)).run Tryz.prog wx = .ok (.string (strOfNums X)) wx ∧ (convert 35 9 (.slice none 0 0)).run Tryz.prog wx = .ok (.string (strOfNums X)) wx) := fun wx hb =>
                  ⟨(hb.cell (p := ⟨gl, ol + j, none⟩) hgl).trans cl, string_made (M2.out.below hb), string_made (M1.out.below hb)⟩
                have hW1 : ∀ wx, Below (w3).heap.size (w3) wx → Calls Tryz.prog 11 #[.slice aj nn cc] wx fun e w' => e = .returned (.int .i64 (wrap64 (weight Lj : Int))) ∧ Below wx.heap.size wx w' := fun wx hb => hweight_wrap aj nn cc Lj wx (HLJ.out wx (BQ.out.trans (hb.mono BQ.out.size))).2 zj
                have hW2 : ∀ wx, Below (w3).heap.size (w3) wx → Calls Tryz.prog 12 #[.slice aj nn cc] wx fun e w' => e = .returned (.int .i64 (wrap64 (weight Lj : Int))) ∧ Below wx.heap.size wx w' := fun wx hb => rweight_wrap aj nn cc Lj wx (HLJ.out wx (BQ.out.trans (hb.mono BQ.out.size))).2 zj
                have HW1 := hide hW1
                have HW2 := hide hW2
                clear hW1 hW2
                generalize wrap64 (weight Lj : Int) = wl at *
                generalize strOfNums X = XS at *
                go_wp2_with fail
                go_region_held3 (fun w' => w'.cell? ⟨gl, ol + j, none⟩ = some (.slice aj nn cc) ∧ (convert 35 9 (.slice none 0 0)).run Tryz.prog w' = .ok (.string XS) w' ∧ (convert 35 9 (.slice none 0 0)).run Tryz.prog w' = .ok (.string XS) w')
                  (first | exact HSb.out _ (Below.refl _ _) | exact HSb.out _ ((Below.refl _ _).drew) | exact HSb.out _ hbx | exact HSb.out _ hby)
                  (first | (go_at_call 11; first | (refine (HW1.out (w3).drew ((Below.refl _ _).drew)).mono ?_; rintro e wx ⟨rfl, hbx0⟩; have hbx : Below (w3).heap.size (w3) wx := (Below.refl _ _).drew.trans hbx0) | (refine (HW1.out wx hbx).mono ?_; rintro e wy ⟨rfl, hby0⟩; have hby : Below (w3).heap.size (w3) wy := hbx.trans (hby0.mono hbx.size))) | (go_at_call 12; first | (refine (HW2.out (w3).drew ((Below.refl _ _).drew)).mono ?_; rintro e wx ⟨rfl, hbx0⟩; have hbx : Below (w3).heap.size (w3) wx := (Below.refl _ _).drew.trans hbx0) | (refine (HW2.out wx hbx).mono ?_; rintro e wy ⟨rfl, hby0⟩; have hby : Below (w3).heap.size (w3) wy := hbx.trans (hby0.mono hbx.size))))
                all_goals
                  have PN : Hid (PA max w wy cd cr (j + 1)) := ⟨mo, AO, sz, SD, SR, B3.out.below hby, hF1.out, by omega⟩
                  clear hbx0 hby0
                  go_wp2
                  go_roundw
                  case rel => exact ⟨j + 1, by go_num, by omega, PN.out⟩
                  case measure => simp [intOf]; omega
              · obtain ⟨m1', m2', m3'⟩ := not_much hm
                have hr1 := rcenc_yes cr ⟨mo, max, max, AO, [], sz, false⟩ SR aj nn cc Lj w.heap.size _ hBO.out.hR (hF1.out.doc (by simp only; omega)) hBO.out.hbel.size hBO.out.hbR (fun wx hb => (HLJ.out wx (hB.out.trans hb)).2) hNJ (by omega) m2' m3'
                have hFE := hF1.out.enc Lj
                have bx := enc_bytes hF1.out Lj
                have hd0 := fun wy hC hA => hencode_yes cd ⟨mo, max, max, AO, [], sz, false⟩ SD aj nn cc Lj wy hC hF1.out hA hm
                simp only at hr1 hFE bx hd0
                generalize hAO : (encL mo AO Lj).2 = AO' at *
                generalize hXX : szL sz ++ (encL mo AO Lj).1 = X at *
                have HD0 := hide hd0
                have HFE := hide hFE
                have HBX := hide bx
                have HNJ := hide hNJ
                have ZJ := hide zj
                clear hNJ zj fj hm hZJ hFE bx hd0 m1' m2' m3' hAO hXX
                go_wp2_with fail
                refine hr1.mono ?_
                rintro e w1 ⟨v1, T1, rfl, heb⟩
                have B1 := hide (hBO.out.doc heb.off heb.cod heb.sub)
                have HEB := hide heb
                have s1 := heb.off.size
                obtain ⟨cj1, fj1⟩ := HLJ.out w1 B1.out.hbel
                have hd1 := HD0.out w1 B1.out.hD (fun wx ho => (HLJ.out wx (Below.off B1.out.hbel ho B1.out.hbel.size B1.out.hbD)).2)
                clear hr1 heb fj1 cj
                go_wp2_with fail
                refine hd1.mono ?_
                rintro e w2 ⟨v2, rfl, hown2, hoff2, SD2, hS2, hN2, hC2⟩
                have B2 := hide (B1.out.dev hoff2 hC2 hS2)
                have M2 : Hid (Made w2 w1.heap.size v2 X.length X) := made_own rfl hown2 HBX.out
                have M1 : Hid (Made w2 _ v1 X.length X) := made_own rfl (own_off HEB.out.own hoff2 (fun k hk hsd => by
                  have h1 := (HEB.out.own.lt k hk).1
                  have h2 := hBO.out.hD.hlt k hsd
                  omega)) HBX.out
                have BQ := hide B2.out.hbel
                have her := error_nil 0 w2
                simp only [beq_self_eq_true] at her
                have zj := ZJ.out
                clear hd1 hown2 hoff2 hS2 hN2 hC2 HEB cj1 ZJ HD0
                go_wp2_with fail
                refine her.mono ?_
                rintro e w3 ⟨rfl, rfl⟩
                clear her
                have cl := (HLJ.out w2 BQ.out).1
                have hgl := lt_of_cell cl
                have hcv1 := string_made M1.out
                have hcv2 := string_made M2.out
                have HSb : Hid (∀ wx, Below (w2).heap.size (w2) wx → wx.cell? ⟨gl, ol + j, none⟩ = some (.slice aj nn cc) ∧ (convert 35 9 v2).run Tryz.prog wx = .ok (.string (strOfNums X)) wx ∧ (convert 35 9 v1).run Tryz.prog wx = .ok (.string (strOfNums X)) wx) := fun wx hb =>
                  ⟨(hb.cell (p := ⟨gl, ol + j, none⟩) hgl).trans cl, string_made (M2.out.below hb), string_made (M1.out.below hb)⟩
                have hW1 : ∀ wx, Below (w2).heap.size (w2) wx → Calls Tryz.prog 11 #[.slice aj nn cc] wx fun e w' => e = .returned (.int .i64 (wrap64 (weight Lj : Int))) ∧ Below wx.heap.size wx w' := fun wx hb => hweight_wrap aj nn cc Lj wx (HLJ.out wx (BQ.out.trans (hb.mono BQ.out.size))).2 zj
                have hW2 : ∀ wx, Below (w2).heap.size (w2) wx → Calls Tryz.prog 12 #[.slice aj nn cc] wx fun e w' => e = .returned (.int .i64 (wrap64 (weight Lj : Int))) ∧ Below wx.heap.size wx w' := fun wx hb => rweight_wrap aj nn cc Lj wx (HLJ.out wx (BQ.out.trans (hb.mono BQ.out.size))).2 zj
                have HW1 := hide hW1
                have HW2 := hide hW2
                clear hW1 hW2
                generalize wrap64 (weight Lj : Int) = wl at *
                generalize strOfNums X = XS at *
                go_wp2_with fail
                go_region_held3 (fun w' => w'.cell? ⟨gl, ol + j, none⟩ = some (.slice aj nn cc) ∧ (convert 35 9 v2).run Tryz.prog w' = .ok (.string XS) w' ∧ (convert 35 9 v1).run Tryz.prog w' = .ok (.string XS) w')
                  (first | exact HSb.out _ (Below.refl _ _) | exact HSb.out _ ((Below.refl _ _).drew) | exact HSb.out _ hbx | exact HSb.out _ hby)
                  (first | (go_at_call 11; first | (refine (HW1.out (w2).drew ((Below.refl _ _).drew)).mono ?_; rintro e wx ⟨rfl, hbx0⟩; have hbx : Below (w2).heap.size (w2) wx := (Below.refl _ _).drew.trans hbx0) | (refine (HW1.out wx hbx).mono ?_; rintro e wy ⟨rfl, hby0⟩; have hby : Below (w2).heap.size (w2) wy := hbx.trans (hby0.mono hbx.size))) | (go_at_call 12; first | (refine (HW2.out (w2).drew ((Below.refl _ _).drew)).mono ?_; rintro e wx ⟨rfl, hbx0⟩; have hbx : Below (w2).heap.size (w2) wx := (Below.refl _ _).drew.trans hbx0) | (refine (HW2.out wx hbx).mono ?_; rintro e wy ⟨rfl, hby0⟩; have hby : Below (w2).heap.size (w2) wy := hbx.trans (hby0.mono hbx.size))))
                all_goals
                  have PN : Hid (PA max w wy cd cr (j + 1)) := ⟨mo, AO', [], SD2, T1, B2.out.below hby, HFE.out, Nat.zero_le _⟩
                  clear hbx0 hby0
                  go_wp2
                  go_roundw
                  case rel => exact ⟨j + 1, by go_num, by omega, PN.out⟩
                  case measure => simp [intOf]; omega
          · have ds1 : ¬ (j : Int) < (sl : Int) := by omega
            have PJ1 : Hid (PA max w wr cd cr (j + 1)) := by
              obtain ⟨mo, AO, sz, SD, SR, BO, F1, hsz⟩ := PJ.out
              exact ⟨mo, AO, sz, SD, SR, BO, F1, by omega⟩
            clear PJ
            have PJ := PJ1
            clear PJ1
            obtain ⟨mo, AO, sz, SD, SR, BO, F1, hsz⟩ := PJ.out
            have hBO := hide BO
            have hF1 := hide F1
            have hB := hide BO.hbel
            clear BO F1 PJ
            rcases HL.out _ hB.out with h0 | ⟨gl, ol, rfl, hrw⟩
            · omega
            have hcl := hrw.hcap
            have hml := hrw.hmax
            unfold maxLen at hml
            obtain ⟨cj, fj, nj, zj⟩ := hrw.hrow j hjl
            have HLJ : Hid (∀ wz, Below w.heap.size w wz → wz.cell? ⟨gl, ol + j, none⟩ = some (.slice (A j) (N j) (C j)) ∧ FArg wz (A j) (N j) (C j) (L j)) := fun wz hz => by
              rcases HL.out wz hz with h0 | ⟨gl', ol', e, hrw'⟩
              · omega
              · cases e
                exact ⟨(hrw'.hrow j hjl).1, (hrw'.hrow j hjl).2.1⟩
            have hZJ := getD_le zj
            have hNJ := fj.len
            clear hrw
            generalize L j = Lj at *
            generalize A j = aj at *
            generalize N j = nn at *
            generalize C j = cc at *
            by_cases hm : tooMuch Lj
            · have hr1 := rcenc_no cr aj nn cc Lj _ fj hNJ nj hZJ hm
              have HNJ := hide hNJ
              have ZJ := hide zj
              clear hNJ zj fj
              go_wp2_with fail
              refine hr1.mono ?_
              rintro e w1 ⟨rfl, hb1⟩
              have B1 := hide (hBO.out.below hb1)
              obtain ⟨cj1, fj1⟩ := HLJ.out w1 B1.out.hbel
              have hd1 := hencode_no cd aj nn cc Lj w1 fj1 nj hZJ hm
              clear hr1 hb1 hm hZJ fj1 cj
              go_wp2_with fail
              refine hd1.mono ?_
              rintro e w2 ⟨rfl, hb2⟩
              have B2 := hide (B1.out.below hb2)
              have her := error_hit 4 4 w2 (HG.out w2 B2.out.hbel)
              simp only [beq_self_eq_true] at her
              clear hd1 hb2 cj1
              go_wp2_with fail
              refine her.mono ?_
              rintro e w3 ⟨rfl, hb3⟩
              have B3 := hide (B2.out.below hb3)
              have BQ := hide B3.out.hbel
              obtain ⟨X, hX⟩ : ∃ X : List Int, X = [] := ⟨_, rfl⟩
              have M1 : Hid (Made w3 0 (.slice none 0 0) 0 X) := by rw [hX]; exact ⟨rfl, Or.inl ⟨rfl, rfl⟩⟩
              have M2 : Hid (Made w3 0 (.slice none 0 0) 0 X) := M1
              have zj := ZJ.out
              clear her hb3 hX ZJ
              have cl := (HLJ.out w3 BQ.out).1
              have hgl := lt_of_cell cl
              have hcv1 := string_made M1.out
              have hcv2 := string_made M2.out
              have HSb : Hid (∀ wx, Below (w3).heap.size (w3) wx → wx.cell? ⟨gl, ol + j, none⟩ = some (.slice aj nn cc) ∧ (convert 35 9 (.slice none 0 0)).run Tryz.prog wx = .ok (.string (strOfNums X)) wx ∧ (convert 35 9 (.slice none 0 0)).run Tryz.prog wx = .ok (.string (strOfNums X)) wx) := fun wx hb =>
                ⟨(hb.cell (p := ⟨gl, ol + j, none⟩) hgl).trans cl, string_made (M2.out.below hb), string_made (M1.out.below hb)⟩
              have hW1 : ∀ wx, Below (w3).heap.size (w3) wx → Calls Tryz.prog 11 #[.slice aj nn cc] wx fun e w' => e = .returned (.int .i64 (wrap64 (weight Lj : Int))) ∧ Below wx.heap.size wx w' := fun wx hb => hweight_wrap aj nn cc Lj wx (HLJ.out wx (BQ.out.trans (hb.mono BQ.out.size))).2 zj
              have hW2 : ∀ wx, Below (w3).heap.size (w3) wx → Calls Tryz.prog 12 #[.slice aj nn cc] wx fun e w' => e = .returned (.int .i64 (wrap64 (weight Lj : Int))) ∧ Below wx.heap.size wx w' := fun wx hb => rweight_wrap aj nn cc Lj wx (HLJ.out wx (BQ.out.trans (hb.mono BQ.out.size))).2 zj
              have HW1 := hide hW1
              have HW2 := hide hW2
              clear hW1 hW2
              generalize wrap64 (weight Lj : Int) = wl at *
              generalize strOfNums X = XS at *
              go_wp2_with fail
              go_region_held3 (fun w' => w'.cell? ⟨gl, ol + j, none⟩ = some (.slice aj nn cc) ∧ (convert 35 9 (.slice none 0 0)).run Tryz.prog w' = .ok (.string XS) w' ∧ (convert 35 9 (.slice none 0 0)).run Tryz.prog w' = .ok (.string XS) w')
                (first | exact HSb.out _ (Below.refl _ _) | exact HSb.out _ ((Below.refl _ _).drew) | exact HSb.out _ hbx | exact HSb.out _ hby)
                (first | (go_at_call 11; first | (refine (HW1.out (w3).drew ((Below.refl _ _).drew)).mono ?_; rintro e wx ⟨rfl, hbx0⟩; have hbx : Below (w3).heap.size (w3) wx := (Below.refl _ _).drew.trans hbx0) | (refine (HW1.out wx hbx).mono ?_; rintro e wy ⟨rfl, hby0⟩; have hby : Below (w3).heap.size (w3) wy := hbx.trans (hby0.mono hbx.size))) | (go_at_call 12; first | (refine (HW2.out (w3).drew ((Below.refl _ _).drew)).mono ?_; rintro e wx ⟨rfl, hbx0⟩; have hbx : Below (w3).heap.size (w3) wx := (Below.refl _ _).drew.trans hbx0) | (refine (HW2.out wx hbx).mono ?_; rintro e wy ⟨rfl, hby0⟩; have hby : Below (w3).heap.size (w3) wy := hbx.trans (hby0.mono hbx.size))))
              all_goals
                have PN : Hid (PA max w wy cd cr (j + 1)) := ⟨mo, AO, sz, SD, SR, B3.out.below hby, hF1.out, by omega⟩
                clear hbx0 hby0
                go_wp2
                go_roundw
                case rel => exact ⟨j + 1, by go_num, by omega, PN.out⟩
                case measure => simp [intOf]; omega
            · obtain ⟨m1', m2', m3'⟩ := not_much hm
              have hr1 := rcenc_yes cr ⟨mo, max, max, AO, [], sz, false⟩ SR aj nn cc Lj w.heap.size _ hBO.out.hR (hF1.out.doc (by simp only; omega)) hBO.out.hbel.size hBO.out.hbR (fun wx hb => (HLJ.out wx (hB.out.trans hb)).2) hNJ (by omega) m2' m3'
              have hFE := hF1.out.enc Lj
              have bx := enc_bytes hF1.out Lj
              have hd0 := fun wy hC hA => hencode_yes cd ⟨mo, max, max, AO, [], sz, false⟩ SD aj nn cc Lj wy hC hF1.out hA hm
              simp only at hr1 hFE bx hd0
              generalize hAO : (encL mo AO Lj).2 = AO' at *
              generalize hXX : szL sz ++ (encL mo AO Lj).1 = X at *
              have HD0 := hide hd0
              have HFE := hide hFE
              have HBX := hide bx
              have HNJ := hide hNJ
              have ZJ := hide zj
              clear hNJ zj fj hm hZJ hFE bx hd0 m1' m2' m3' hAO hXX
              go_wp2_with fail
              refine hr1.mono ?_
              rintro e w1 ⟨v1, T1, rfl, heb⟩
              have B1 := hide (hBO.out.doc heb.off heb.cod heb.sub)
              have HEB := hide heb
              have s1 := heb.off.size
              obtain ⟨cj1, fj1⟩ := HLJ.out w1 B1.out.hbel
              have hd1 := HD0.out w1 B1.out.hD (fun wx ho => (HLJ.out wx (Below.off B1.out.hbel ho B1.out.hbel.size B1.out.hbD)).2)
              clear hr1 heb fj1 cj
              go_wp2_with fail
              refine hd1.mono ?_
              rintro e w2 ⟨v2, rfl, hown2, hoff2, SD2, hS2, hN2, hC2⟩
              have B2 := hide (B1.out.dev hoff2 hC2 hS2)
              have M2 : Hid (Made w2 w1.heap.size v2 X.length X) := made_own rfl hown2 HBX.out
              have M1 : Hid (Made w2 _ v1 X.length X) := made_own rfl (own_off HEB.out.own hoff2 (fun k hk hsd => by
                have h1 := (HEB.out.own.lt k hk).1
                have h2 := hBO.out.hD.hlt k hsd
                omega)) HBX.out
              have BQ := hide B2.out.hbel
              have her := error_nil 0 w2
              simp only [beq_self_eq_true] at her
              have zj := ZJ.out
              clear hd1 hown2 hoff2 hS2 hN2 hC2 HEB cj1 ZJ HD0
              go_wp2_with fail
              refine her.mono ?_
              rintro e w3 ⟨rfl, rfl⟩
              clear her
              have cl := (HLJ.out w2 BQ.out).1
              have hgl := lt_of_cell cl
              have hcv1 := string_made M1.out
              have hcv2 := string_made M2.out
              have HSb : Hid (∀ wx, Below (w2).heap.size (w2) wx → wx.cell? ⟨gl, ol + j, none⟩ = some (.slice aj nn cc) ∧ (convert 35 9 v2).run Tryz.prog wx = .ok (.string (strOfNums X)) wx ∧ (convert 35 9 v1).run Tryz.prog wx = .ok (.string (strOfNums X)) wx) := fun wx hb =>
                ⟨(hb.cell (p := ⟨gl, ol + j, none⟩) hgl).trans cl, string_made (M2.out.below hb), string_made (M1.out.below hb)⟩
              have hW1 : ∀ wx, Below (w2).heap.size (w2) wx → Calls Tryz.prog 11 #[.slice aj nn cc] wx fun e w' => e = .returned (.int .i64 (wrap64 (weight Lj : Int))) ∧ Below wx.heap.size wx w' := fun wx hb => hweight_wrap aj nn cc Lj wx (HLJ.out wx (BQ.out.trans (hb.mono BQ.out.size))).2 zj
              have hW2 : ∀ wx, Below (w2).heap.size (w2) wx → Calls Tryz.prog 12 #[.slice aj nn cc] wx fun e w' => e = .returned (.int .i64 (wrap64 (weight Lj : Int))) ∧ Below wx.heap.size wx w' := fun wx hb => rweight_wrap aj nn cc Lj wx (HLJ.out wx (BQ.out.trans (hb.mono BQ.out.size))).2 zj
              have HW1 := hide hW1
              have HW2 := hide hW2
              clear hW1 hW2
              generalize wrap64 (weight Lj : Int) = wl at *
              generalize strOfNums X = XS at *
              go_wp2_with fail
              go_region_held3 (fun w' => w'.cell? ⟨gl, ol + j, none⟩ = some (.slice aj nn cc) ∧ (convert 35 9 v2).run Tryz.prog w' = .ok (.string XS) w' ∧ (convert 35 9 v1).run Tryz.prog w' = .ok (.string XS) w')
                (first | exact HSb.out _ (Below.refl _ _) | exact HSb.out _ ((Below.refl _ _).drew) | exact HSb.out _ hbx | exact HSb.out _ hby)
                (first | (go_at_call 11; first | (refine (HW1.out (w2).drew ((Below.refl _ _).drew)).mono ?_; rintro e wx ⟨rfl, hbx0⟩; have hbx : Below (w2).heap.size (w2) wx := (Below.refl _ _).drew.trans hbx0) | (refine (HW1.out wx hbx).mono ?_; rintro e wy ⟨rfl, hby0⟩; have hby : Below (w2).heap.size (w2) wy := hbx.trans (hby0.mono hbx.size))) | (go_at_call 12; first | (refine (HW2.out (w2).drew ((Below.refl _ _).drew)).mono ?_; rintro e wx ⟨rfl, hbx0⟩; have hbx : Below (w2).heap.size (w2) wx := (Below.refl _ _).drew.trans hbx0) | (refine (HW2.out wx hbx).mono ?_; rintro e wy ⟨rfl, hby0⟩; have hby : Below (w2).heap.size (w2) wy := hbx.trans (hby0.mono hbx.size))))
              all_goals
                have PN : Hid (PA max w wy cd cr (j + 1)) := ⟨mo, AO', [], SD2, T1, B2.out.below hby, HFE.out, Nat.zero_le _⟩
                clear hbx0 hby0
                go_wp2
                go_roundw
                case rel => exact ⟨j + 1, by go_num, by omega, PN.out⟩
                case measure => simp [intOf]; omega
        · have dj2 : ¬ (j : Int) < 12 := by omega
          have PB0 : Hid (PB max w wr cd cr) := by
            obtain ⟨mo, AO, sz, SD, SR, BO, F1, hsz⟩ := PJ.out
            exact ⟨mo, AO, sz, max, [], max, [], false, SD, SR, BO, F1, by omega, fun _ => ⟨rfl, rfl⟩⟩
          clear PJ
          go_wp2_with fail
          go_loopw [19] (fun i wr => ∃ j : Nat, i = .int .i64 j ∧ j ≤ 12 ∧ PB max w wr cd cr) (fun i _ => 12 - (intOf i).toNat)
          case atStart => exact ⟨0, rfl, by decide, PB0.out⟩
          case round =>
            obtain ⟨q, rfl, hq12, hP⟩ := hrel
            have PQ := hide hP
            clear hP PB0
            obtain ⟨mo, AO, sz, mi, AI, mi', AI', bad, SD, SR, BO, F1, hszl, hsame⟩ := PQ.out
            have hBO := hide BO
            have hF1 := hide F1
            have hSM := hide hsame
            have hB := hide BO.hbel
            clear BO F1 hsame PQ
            by_cases hql : q < bl
            · have dq1 : (q : Int) < (bl : Int) := by omega
              by_cases hq : q < 12
              · have dq2 : (q : Int) < 12 := by omega
                rcases HBL.out _ hB.out with h0 | ⟨gb, ob, rfl, hrw⟩
                · omega
                have hcb := hrw.hcap
                have hmb := hrw.hmax
                unfold maxLen at hmb
                obtain ⟨cj, _, nj, zl⟩ := hrw.hrow q hql
                have HBJ : Hid (∀ wz, Below w.heap.size w wz → wz.cell? ⟨gb, ob + q, none⟩ = some (.slice (BA q) (BN q) (BC q)) ∧ Arg wz (BA q) (BN q) (BC q) (BZ q)) := fun wz hz => by
                  rcases HBL.out wz hz with h0 | ⟨gb', ob', e, hrw'⟩
                  · omega
                  · cases e
                    exact ⟨(hrw'.hrow q hql).1, (hrw'.hrow q hql).2.1⟩
                have hr1 := rcdecode_any cr ⟨mo, mi', max, AO, AI', sz, bad⟩ SR (BA q) (BN q) (BC q) (BZ q) _ hBO.out.hR (fun hb => by
                  simp only at hb
                  obtain ⟨e1, e2⟩ := hSM.out hb
                  rw [e1, e2]
                  exact HFit.doc ⟨hF1.out.out, hF1.out.inn, hF1.out.hmost, hF1.out.hsz, hF1.out.hlast⟩ (by simp only; omega)) (fun wx ho => (HBJ.out wx (Below.off hB.out ho hB.out.size hBO.out.hbR)).2) zl nj
                have hd0 := fun wy hC hA => hdecode_any cd ⟨mo, mi, max, AO, AI, sz, bad⟩ SD (BA q) (BN q) (BC q) (BZ q) wy hC hF1.out hA zl nj
                simp only at hr1 hd0
                have HEQ : Hid (bad = false → dcF max (BN q + 1) mi' AI' [] (BZ q) = dcF max (BN q + 1) mi AI [] (BZ q)) := fun hb => by
                  obtain ⟨e1, e2⟩ := hSM.out hb
                  rw [e1, e2]
                have HD0 := hide hd0
                have HLN := hide (dc_len max (BN q + 1) mi AI [] (BZ q) (by simp))
                generalize dcF max (BN q + 1) mi' AI' [] (BZ q) = RR at *
                generalize dcF max (BN q + 1) mi AI [] (BZ q) = RD at *
                clear hrw hd0 zl
                generalize BZ q = zq at *
                generalize BA q = aj at *
                generalize BN q = nn at *
                generalize BC q = cc at *
                go_wp2_with fail
                refine hr1.mono ?_
                rintro e w1 ⟨SR1, hT1, ho1, hS1⟩
                have HO1 := hide ho1
                have HS1 := hide hS1
                have HT1 := hide hT1
                have s1 := ho1.size
                have hbel1 := Below.off hB.out ho1 hB.out.size hBO.out.hbR
                obtain ⟨cj1, _⟩ := HBJ.out w1 hbel1
                have hD1 := hBO.out.hD.off ho1 (fun k hd hr => hBO.out.hdis k hd hr) (fun hx => by have h1 := hBO.out.hbR _ hx; have h2 := hBO.out.hal; omega)
                have hd1 := HD0.out w1 hD1 (fun wx ho => (HBJ.out wx (Below.off hbel1 ho hbel1.size hBO.out.hbD)).2)
                have HB1 := hide hbel1
                clear hr1 hT1 ho1 hS1 hD1 hbel1 HD0
                rcases HT1.out with ⟨b0, rfl, r1⟩ | ⟨b0, r0, v1, rfl, r1, r2, r3, r4⟩ | ⟨b0, r0, rfl, m', A', r1⟩
                · simp only at b0
                  subst b0
                  have B1 := hide (hBO.out.doc HO1.out r1 HS1.out)
                  clear HT1 r1
                  go_wp2_with fail
                  refine hd1.mono ?_
                  rintro e w2 ⟨SD2, hT2, ho2, hS2⟩
                  rcases hT2 with ⟨_, rfl, d1⟩ | ⟨h, _⟩ | ⟨h, _⟩
                  · have B2 := hide (B1.out.dev ho2 d1 hS2)
                    clear hd1 ho2 hS2 d1
                    have her := error_hit 6 6 w2 (HG.out w2 B2.out.hbel)
                    simp only [beq_self_eq_true] at her
                    go_wp2_with fail
                    refine her.mono ?_
                    rintro e w3 ⟨rfl, hb3⟩
                    have B3 := hide (B2.out.below hb3)
                    have hsf := sfields_any none none 0 0 0 [] w3 (Or.inl ⟨rfl, rfl⟩) (Or.inl ⟨rfl, rfl⟩) (by decide)
                    clear her hb3
                    go_wp2_with fail
                    refine hsf.mono ?_
                    rintro e w4 ⟨rfl, hb4⟩
                    have PN : Hid (PB max w w4 cd cr) := ⟨mo, AO, sz, mi, AI, mi', AI', true, SD2, SR1, B3.out.below hb4, hF1.out, hszl, fun h => by cases h⟩
                    clear hsf hb4
                    go_wp2
                    go_roundw
                    case rel => exact ⟨q + 1, by go_num, by omega, PN.out⟩
                    case measure => simp [intOf]; omega
                  · cases h
                  · cases h
                · simp only at b0
                  subst b0
                  have hE := HEQ.out rfl
                  have hE := HEQ.out rfl
                  rw [hE] at r0 r1 r3 r4
                  have B1 := hide (hBO.out.doc HO1.out r3 HS1.out)
                  have R0 := hide r0
                  have R1 := hide r1
                  have R2 := hide r2
                  have R4 := hide r4
                  have HRE := hide hE
                  obtain ⟨va, vc, hv⟩ := dslen_own r1
                  subst hv
                  clear HT1 r0 r1 r2 r3 r4 hE
                  go_wp2_with fail
                  refine hd1.mono ?_
                  rintro e w2 ⟨SD2, hT2, ho2, hS2⟩
                  rcases hT2 with ⟨h, _⟩ | ⟨_, _, v2, rfl, d2, d3, d4, d5⟩ | ⟨_, h, _⟩
                  · cases h
                  · have B2 := hide (B1.out.dev ho2 d4 hS2)
                    have hO1 := own_off R1.out ho2 (fun k hk hsd => by
                      have h1 := (R1.out.lt k hk).1
                      have h2 := hBO.out.hD.hlt k hsd
                      omega)
                    obtain ⟨a1, k1, e1, hF1a⟩ := farg_of rfl hO1
                    cases e1
                    obtain ⟨a2, k2, rfl, hF2a⟩ := farg_of rfl d2
                    have her := error_nil 0 w2
                    simp only [beq_self_eq_true] at her
                    have hln : RD.1.length ≤ 4611686018427387904 := by have := HLN.out; omega
                    have hsf := sfields_any a2 _ _ _ _ RD.1 w2 hF2a hF1a hln
                    have HD5 := hide d5
                    clear hd1 ho2 hS2 d2 d3 d4 d5 hO1 hF1a hF2a
                    go_wp2_with fail
                    refine her.mono ?_
                    rintro e w3 ⟨rfl, rfl⟩
                    clear her
                    go_wp2_with fail
                    refine hsf.mono ?_
                    rintro e w4 ⟨rfl, hb4⟩
                    have PN : Hid (PB max w w4 cd cr) := ⟨mo, AO, sz, RD.2.2.1, RD.2.2.2, RD.2.2.1, RD.2.2.2, false, SD2, SR1, B2.out.below hb4, ⟨hF1.out.out, HD5.out, hF1.out.hmost, hF1.out.hsz, hF1.out.hlast⟩, hszl, fun _ => ⟨rfl, rfl⟩⟩
                    clear hsf hb4
                    go_wp2
                    go_roundw
                    case rel => exact ⟨q + 1, by go_num, by omega, PN.out⟩
                    case measure => simp [intOf]; omega
                  · exact absurd R0.out h
                · simp only at b0
                  subst b0
                  have hE := HEQ.out rfl
                  rw [hE] at r0
                  rw [hE]
                  have B1 := hide (hBO.out.doc HO1.out r1 HS1.out)
                  have R0 := hide r0
                  clear HT1 r0 r1 hE
                  go_wp2_with fail
                  refine hd1.mono ?_
                  rintro e w2 ⟨SD2, hT2, ho2, hS2⟩
                  rcases hT2 with ⟨h, _⟩ | ⟨_, h, _⟩ | ⟨_, _, rfl, d1⟩
                  · cases h
                  · exact absurd h R0.out
                  · have B2 := hide (B1.out.dev ho2 d1 hS2)
                    clear hd1 ho2 hS2 d1
                    generalize RD.2.1 = ek at *
                    have her := error_hit ek ek w2 (HG.out w2 B2.out.hbel)
                    simp only [beq_self_eq_true] at her
                    go_wp2_with fail
                    refine her.mono ?_
                    rintro e w3 ⟨rfl, hb3⟩
                    have B3 := hide (B2.out.below hb3)
                    have hsf := sfields_any none none 0 0 0 [] w3 (Or.inl ⟨rfl, rfl⟩) (Or.inl ⟨rfl, rfl⟩) (by decide)
                    clear her hb3
                    go_wp2_with fail
                    refine hsf.mono ?_
                    rintro e w4 ⟨rfl, hb4⟩
                    have PN : Hid (PB max w w4 cd cr) := ⟨mo, AO, sz, mi, AI, m', A', true, SD2, SR1, B3.out.below hb4, ⟨hF1.out.out, hF1.out.inn, hF1.out.hmost, hF1.out.hsz, hF1.out.hlast⟩, hszl, fun h => by cases h⟩
                    clear hsf hb4
                    go_wp2
                    go_roundw
                    case rel => exact ⟨q + 1, by go_num, by omega, PN.out⟩
                    case measure => simp [intOf]; omega
              · have dq2 : ¬ (q : Int) < 12 := by omega
                go_wp2
                go_ret
                exact ⟨rfl, hB.out⟩
            · have dq1 : ¬ (q : Int) < (bl : Int) := by omega
              go_wp2
              go_ret
              exact ⟨rfl, hB.out⟩
      · have dj1 : ¬ (j : Int) < (ll : Int) := by omega
        have PB0 : Hid (PB max w wr cd cr) := by
          obtain ⟨mo, AO, sz, SD, SR, BO, F1, hsz⟩ := PJ.out
          exact ⟨mo, AO, sz, max, [], max, [], false, SD, SR, BO, F1, by omega, fun _ => ⟨rfl, rfl⟩⟩
        clear PJ
        go_wp2_with fail
        go_loopw [19] (fun i wr => ∃ j : Nat, i = .int .i64 j ∧ j ≤ 12 ∧ PB max w wr cd cr) (fun i _ => 12 - (intOf i).toNat)
        case atStart => exact ⟨0, rfl, by decide, PB0.out⟩
        case round =>
          obtain ⟨q, rfl, hq12, hP⟩ := hrel
          have PQ := hide hP
          clear hP PB0
          obtain ⟨mo, AO, sz, mi, AI, mi', AI', bad, SD, SR, BO, F1, hszl, hsame⟩ := PQ.out
          have hBO := hide BO
          have hF1 := hide F1
          have hSM := hide hsame
          have hB := hide BO.hbel
          clear BO F1 hsame PQ
          by_cases hql : q < bl
          · have dq1 : (q : Int) < (bl : Int) := by omega
            by_cases hq : q < 12
            · have dq2 : (q : Int) < 12 := by omega
              rcases HBL.out _ hB.out with h0 | ⟨gb, ob, rfl, hrw⟩
              · omega
              have hcb := hrw.hcap
              have hmb := hrw.hmax
              unfold maxLen at hmb
              obtain ⟨cj, _, nj, zl⟩ := hrw.hrow q hql
              have HBJ : Hid (∀ wz, Below w.heap.size w wz → wz.cell? ⟨gb, ob + q, none⟩ = some (.slice (BA q) (BN q) (BC q)) ∧ Arg wz (BA q) (BN q) (BC q) (BZ q)) := fun wz hz => by
                rcases HBL.out wz hz with h0 | ⟨gb', ob', e, hrw'⟩
                · omega
                · cases e
                  exact ⟨(hrw'.hrow q hql).1, (hrw'.hrow q hql).2.1⟩
              have hr1 := rcdecode_any cr ⟨mo, mi', max, AO, AI', sz, bad⟩ SR (BA q) (BN q) (BC q) (BZ q) _ hBO.out.hR (fun hb => by
                simp only at hb
                obtain ⟨e1, e2⟩ := hSM.out hb
                rw [e1, e2]
                exact HFit.doc ⟨hF1.out.out, hF1.out.inn, hF1.out.hmost, hF1.out.hsz, hF1.out.hlast⟩ (by simp only; omega)) (fun wx ho => (HBJ.out wx (Below.off hB.out ho hB.out.size hBO.out.hbR)).2) zl nj
              have hd0 := fun wy hC hA => hdecode_any cd ⟨mo, mi, max, AO, AI, sz, bad⟩ SD (BA q) (BN q) (BC q) (BZ q) wy hC hF1.out hA zl nj
              simp only at hr1 hd0
              have HEQ : Hid (bad = false → dcF max (BN q + 1) mi' AI' [] (BZ q) = dcF max (BN q + 1) mi AI [] (BZ q)) := fun hb => by
                obtain ⟨e1, e2⟩ := hSM.out hb
                rw [e1, e2]
              have HD0 := hide hd0
              have HLN := hide (dc_len max (BN q + 1) mi AI [] (BZ q) (by simp))
              generalize dcF max (BN q + 1) mi' AI' [] (BZ q) = RR at *
              generalize dcF max (BN q + 1) mi AI [] (BZ q) = RD at *
              clear hrw hd0 zl
              generalize BZ q = zq at *
              generalize BA q = aj at *
              generalize BN q = nn at *
              generalize BC q = cc at *
              go_wp2_with fail
              refine hr1.mono ?_
              rintro e w1 ⟨SR1, hT1, ho1, hS1⟩
              have HO1 := hide ho1
              have HS1 := hide hS1
              have HT1 := hide hT1
              have s1 := ho1.size
              have hbel1 := Below.off hB.out ho1 hB.out.size hBO.out.hbR
              obtain ⟨cj1, _⟩ := HBJ.out w1 hbel1
              have hD1 := hBO.out.hD.off ho1 (fun k hd hr => hBO.out.hdis k hd hr) (fun hx => by have h1 := hBO.out.hbR _ hx; have h2 := hBO.out.hal; omega)
              have hd1 := HD0.out w1 hD1 (fun wx ho => (HBJ.out wx (Below.off hbel1 ho hbel1.size hBO.out.hbD)).2)
              have HB1 := hide hbel1
              clear hr1 hT1 ho1 hS1 hD1 hbel1 HD0
              rcases HT1.out with ⟨b0, rfl, r1⟩ | ⟨b0, r0, v1, rfl, r1, r2, r3, r4⟩ | ⟨b0, r0, rfl, m', A', r1⟩
              · simp only at b0
                subst b0
                have B1 := hide (hBO.out.doc HO1.out r1 HS1.out)
                clear HT1 r1
                go_wp2_with fail
                refine hd1.mono ?_
                rintro e w2 ⟨SD2, hT2, ho2, hS2⟩
                rcases hT2 with ⟨_, rfl, d1⟩ | ⟨h, _⟩ | ⟨h, _⟩
                · have B2 := hide (B1.out.dev ho2 d1 hS2)
                  clear hd1 ho2 hS2 d1
                  have her := error_hit 6 6 w2 (HG.out w2 B2.out.hbel)
                  simp only [beq_self_eq_true] at her
                  go_wp2_with fail
                  refine her.mono ?_
                  rintro e w3 ⟨rfl, hb3⟩
                  have B3 := hide (B2.out.below hb3)
                  have hsf := sfields_any none none 0 0 0 [] w3 (Or.inl ⟨rfl, rfl⟩) (Or.inl ⟨rfl, rfl⟩) (by decide)
                  clear her hb3
                  go_wp2_with fail
                  refine hsf.mono ?_
                  rintro e w4 ⟨rfl, hb4⟩
                  have PN : Hid (PB max w w4 cd cr) := ⟨mo, AO, sz, mi, AI, mi', AI', true, SD2, SR1, B3.out.below hb4, hF1.out, hszl, fun h => by cases h⟩
                  clear hsf hb4
                  go_wp2
                  go_roundw
                  case rel => exact ⟨q + 1, by go_num, by omega, PN.out⟩
                  case measure => simp [intOf]; omega
                · cases h
                · cases h
              · simp only at b0
                subst b0
                have hE := HEQ.out rfl
                have hE := HEQ.out rfl
                rw [hE] at r0 r1 r3 r4
                have B1 := hide (hBO.out.doc HO1.out r3 HS1.out)
                have R0 := hide r0
                have R1 := hide r1
                have R2 := hide r2
                have R4 := hide r4
                have HRE := hide hE
                obtain ⟨va, vc, hv⟩ := dslen_own r1
                subst hv
                clear HT1 r0 r1 r2 r3 r4 hE
                go_wp2_with fail
                refine hd1.mono ?_
                rintro e w2 ⟨SD2, hT2, ho2, hS2⟩
                rcases hT2 with ⟨h, _⟩ | ⟨_, _, v2, rfl, d2, d3, d4, d5⟩ | ⟨_, h, _⟩
                · cases h
                · have B2 := hide (B1.out.dev ho2 d4 hS2)
                  have hO1 := own_off R1.out ho2 (fun k hk hsd => by
                    have h1 := (R1.out.lt k hk).1
                    have h2 := hBO.out.hD.hlt k hsd
                    omega)
                  obtain ⟨a1, k1, e1, hF1a⟩ := farg_of rfl hO1
                  cases e1
                  obtain ⟨a2, k2, rfl, hF2a⟩ := farg_of rfl d2
                  have her := error_nil 0 w2
                  simp only [beq_self_eq_true] at her
                  have hln : RD.1.length ≤ 4611686018427387904 := by have := HLN.out; omega
                  have hsf := sfields_any a2 _ _ _ _ RD.1 w2 hF2a hF1a hln
                  have HD5 := hide d5
                  clear hd1 ho2 hS2 d2 d3 d4 d5 hO1 hF1a hF2a
                  go_wp2_with fail
                  refine her.mono ?_
                  rintro e w3 ⟨rfl, rfl⟩
                  clear her
                  go_wp2_with fail
                  refine hsf.mono ?_
                  rintro e w4 ⟨rfl, hb4⟩
                  have PN : Hid (PB max w w4 cd cr) := ⟨mo, AO, sz, RD.2.2.1, RD.2.2.2, RD.2.2.1, RD.2.2.2, false, SD2, SR1, B2.out.below hb4, ⟨hF1.out.out, HD5.out, hF1.out.hmost, hF1.out.hsz, hF1.out.hlast⟩, hszl, fun _ => ⟨rfl, rfl⟩⟩
                  clear hsf hb4
                  go_wp2
                  go_roundw
                  case rel => exact ⟨q + 1, by go_num, by omega, PN.out⟩
                  case measure => simp [intOf]; omega
                · exact absurd R0.out h
              · simp only at b0
                subst b0
                have hE := HEQ.out rfl
                rw [hE] at r0
                rw [hE]
                have B1 := hide (hBO.out.doc HO1.out r1 HS1.out)
                have R0 := hide r0
                clear HT1 r0 r1 hE
                go_wp2_with fail
                refine hd1.mono ?_
                rintro e w2 ⟨SD2, hT2, ho2, hS2⟩
                rcases hT2 with ⟨h, _⟩ | ⟨_, h, _⟩ | ⟨_, _, rfl, d1⟩
                · cases h
                · exact absurd h R0.out
                · have B2 := hide (B1.out.dev ho2 d1 hS2)
                  clear hd1 ho2 hS2 d1
                  generalize RD.2.1 = ek at *
                  have her := error_hit ek ek w2 (HG.out w2 B2.out.hbel)
                  simp only [beq_self_eq_true] at her
                  go_wp2_with fail
                  refine her.mono ?_
                  rintro e w3 ⟨rfl, hb3⟩
                  have B3 := hide (B2.out.below hb3)
                  have hsf := sfields_any none none 0 0 0 [] w3 (Or.inl ⟨rfl, rfl⟩) (Or.inl ⟨rfl, rfl⟩) (by decide)
                  clear her hb3
                  go_wp2_with fail
                  refine hsf.mono ?_
                  rintro e w4 ⟨rfl, hb4⟩
                  have PN : Hid (PB max w w4 cd cr) := ⟨mo, AO, sz, mi, AI, m', A', true, SD2, SR1, B3.out.below hb4, ⟨hF1.out.out, hF1.out.inn, hF1.out.hmost, hF1.out.hsz, hF1.out.hlast⟩, hszl, fun h => by cases h⟩
                  clear hsf hb4
                  go_wp2
                  go_roundw
                  case rel => exact ⟨q + 1, by go_num, by omega, PN.out⟩
                  case measure => simp [intOf]; omega
            · have dq2 : ¬ (q : Int) < 12 := by omega
              go_wp2
              go_ret
              exact ⟨rfl, hB.out⟩
          · have dq1 : ¬ (q : Int) < (bl : Int) := by omega
            go_wp2
            go_ret
            exact ⟨rfl, hB.out⟩
  · have her := error_hit 1 1 w1 (HG.out w1 hb1)
    simp only [beq_self_eq_true] at her
    have HB1 := hide hb1
    clear hn1 hb1
    by_cases hm0 : max < 0
    · have d1 : decide (max < 0) = true := decide_eq_true hm0
      go_wp2_with fail
      refine her.mono ?_
      rintro e w2 ⟨rfl, hb2⟩
      have HB2 := hide (HB1.out.trans (hb2.mono HB1.out.size))
      clear her hb2
      go_wp2
      go_ret
      exact ⟨rfl, HB2.out⟩
    · have d1 : decide (max < 0) = false := decide_eq_false hm0
      have d2 : decide (4096 < max) = true := decide_eq_true (by omega)
      go_wp2_with fail
      refine her.mono ?_
      rintro e w2 ⟨rfl, hb2⟩
      have HB2 := hide (HB1.out.trans (hb2.mono HB1.out.size))
      clear her hb2
      go_wp2
      go_ret
      exact ⟨rfl, HB2.out⟩
end Go.Proofs.YtkjfhgoddhigmacGreatDoor
