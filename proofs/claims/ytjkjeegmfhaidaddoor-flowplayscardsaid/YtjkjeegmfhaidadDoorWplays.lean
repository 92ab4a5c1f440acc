/-
  THE WALK of the law FlowPlays, over whatever a window's memory looks like. No claim by itself.
-/
import Derived.Test.YtjkjeegmfhaidadDoorWspec
import Derived.Test.YtjkjeegmfhaidadDoorNopen2
import Derived.Test.YtjkjeegmfhaidadDoorTold
import Derived.Deep.DeepCutAuto
import Derived.Deep.CutBlock
namespace Go.Proofs.YtjkjeegmfhaidadDoor
open Go.RowKit
set_option maxRecDepth 100000
theorem errW_ok (w : World) (k : Int) (hg : Laid w) : Calls Tryd.prog 9 #[errW k, .int .i64 k] w fun e w' => e = .returned (.bool true) ∧ Below w.heap.size w w' := by
  unfold errW
  by_cases h : k = 0
  · rw [if_pos h]
    subst h
    refine (error_nil 0 w).mono ?_
    rintro e w' ⟨rfl, rfl⟩
    exact ⟨rfl, Below.refl _ _⟩
  · rw [if_neg h]
    refine (error_hit k k w hg).mono ?_
    rintro e w' ⟨rfl, hb⟩
    exact ⟨by simp, hb⟩
set_option maxHeartbeats 8000000 in
theorem plays_ok {D : WinD} (K : WinKeeps D) (hNew : WNewSaid D) (hTake : WTakeSaid D) (hGive : WGiveSaid D) (hShift : WShiftSaid D) (hLeft : WLeftSaid D)
    (n0 : Int) (a : Option Addr) (len cap : Nat) (RA : Nat → Option Addr) (RL RC : Nat → Nat) (RZ : Nat → List Int) (w : World) (hI : JArg w a len cap RA RL RC RZ) (hg : Laid w) :
    Calls Tryd.prog 4 #[.int .i64 n0, .slice a len cap] w fun e w' => e = .returned (.bool true) ∧ Below w.heap.size w w' := by
  have HI : Vl (∀ wx, Below w.heap.size w wx → JArg wx a len cap RA RL RC RZ) := fun wx hb => hI.below hb
  have HG : Vl (∀ wx, Below w.heap.size w wx → Laid wx) := fun wx hb => hg.below hb
  have HN := vl (hNew n0 w)
  have HT := vl hTake
  have HV := vl hGive
  have HS := vl hShift
  have HL := vl hLeft
  have HK := vl K
  clear hI hg hNew hTake hGive hShift hLeft K
  go_enter Tryd.func4, Tryd.ntmps4
  go_wp2_with fail
  refine HN.out.mono ?_
  rintro e w1 ⟨hb1, ⟨n1, n2, wb, S, rfl, hD, hS⟩ | ⟨hn, v, rfl⟩⟩
  case inr =>
    have HE := vl (errW_ok w1 1 (HG.out w1 hb1))
    have HB := vl hb1
    unfold errW at HE
    simp only [show ¬ ((1 : Int) = 0) by decide, if_false] at HE
    have hc : n0 < 0 ∨ (0 ≤ n0 ∧ 2147483647 < n0) := by omega
    clear hn hb1 HN
    rcases hc with q1 | ⟨q1, q2⟩
    all_goals
      go_wp2_with fail
      refine HE.out.mono ?_
      rintro e w2 ⟨rfl, hb2⟩
      have B2 := vl (HB.out.trans (hb2.mono HB.out.size))
      clear hb2 HE
      go_wp2
      go_ret
      exact ⟨rfl, B2.out⟩
  have q1 : ¬ (n0 < 0) := by omega
  have q2 : ¬ (2147483647 < n0) := by omega
  have HE := vl (errW_ok w1 0 (HG.out w1 hb1))
  unfold errW at HE
  simp only [if_true] at HE
  have HB1 := vl hb1
  have HD1 := vl hD
  have HSS := vl hS
  unfold wptr
  clear hb1 hD hS HN
  go_wp2_with fail
  refine HE.out.mono ?_
  rintro e w2 ⟨rfl, hb2⟩
  have B2 := vl (HB1.out.trans (hb2.mono HB1.out.size))
  have D2 := vl (HK.out.below HD1.out hb2)
  have HM0 := vl (And.intro n1 n2)
  clear hb2 HE HB1 HD1
  go_wp2
  go_loopw [8, 9, 10] (fun tv lv i wr => ∃ (k : Nat) (left : Int), i = .int .i64 k ∧ tv = .bool true ∧ lv = .int .i64 left ∧ k ≤ 80 ∧ -((k : Int) * 2147483648) ≤ left ∧ left ≤ 2147483647 ∧ Vl (D wr wb left S) ∧ Vl (Below w.heap.size w wr)) (fun _ _ i _ => 80 - (intOf i).toNat)
  case atStart => exact ⟨0, n0, rfl, rfl, rfl, by omega, by have := HM0.out; omega, by have := HM0.out; omega, D2.out, B2.out⟩
  case round =>
    obtain ⟨k, left, rfl, rfl, rfl, hk, l1, l2, HD, HB⟩ := hrel
    clear D2 B2 HM0 q1 q2
    by_cases h1 : k < len
    case neg =>
      have p1 : ¬ ((k : Int) < (len : Int)) := by omega
      clear h1
      go_wp2
      go_ret
      exact ⟨rfl, HB.out⟩
    have p1 : (k : Int) < (len : Int) := by omega
    by_cases h2 : k < 80
    case neg =>
      have p2 : ¬ ((k : Int) < 80) := by omega
      clear h1 h2
      go_wp2
      go_ret
      exact ⟨rfl, HB.out⟩
    have p2 : (k : Int) < 80 := by omega
    rcases HI.out wr HB.out with hx | ⟨g, off, rfl, hr⟩
    · omega
    obtain ⟨r1, r2, r3⟩ := hr.hrow k h1
    have HRC := vl (hr.hcell k h1)
    have hcap2 := hr.hcap
    have hmax2 := hr.hmax
    unfold maxLen at hmax2 r3
    clear hr
    generalize RA k = ra at *
    generalize RL k = rl at *
    generalize RC k = rc at *
    generalize RZ k = rz at *
    have hg1 : g < wr.heap.size := blk_of_cell r1
    go_upto_block 2 with fail
    go_cut [12] (fun _ wx => ∃ x y z : Int, wx = wr.alloc (.cells #[.int .i64 x, .int .i64 y, .int .i64 z] 36))
    case first =>
      as_aux_lemma =>
        go_wp2_with fail
        go_loopw [12] (fun i wq => ∃ (j : Nat) (x y z : Int), i = .int .i64 j ∧ j ≤ 3 ∧ wq = wr.alloc (.cells #[.int .i64 x, .int .i64 y, .int .i64 z] 36)) (fun i _ => 3 - (intOf i).toNat)
        case atStart => exact ⟨0, 0, 0, 0, rfl, by omega, rfl⟩
        case round =>
          obtain ⟨j, x, y, z, rfl, hj, rfl⟩ := hrel
          by_cases hjl : j < rl ∧ j < 3
          · obtain ⟨hj1, hj2⟩ := hjl
            obtain ⟨g', off', rfl, rz1, _⟩ := HRC.out j hj1
            have hg2 : g' < wr.heap.size := blk_of_cell rz1
            have e1 : (j : Int) < (rl : Int) := by omega
            have e2 : (j : Int) < 3 := by omega
            generalize rz.getD j 0 = q at *
            obtain rfl | rfl | rfl : j = 0 ∨ j = 1 ∨ j = 2 := by omega
            · rw [Nat.add_zero] at rz1
              go_wp2
              go_roundw
              case rel => exact ⟨1, q, y, z, rfl, by omega, rfl⟩
              case measure => simp [intOf]
            · go_wp2
              go_roundw
              case rel => exact ⟨2, x, q, z, rfl, by omega, rfl⟩
              case measure => simp [intOf]
            · go_wp2
              go_roundw
              case rel => exact ⟨3, x, y, q, rfl, by omega, rfl⟩
              case measure => simp [intOf]
          · have hcase : (rl : Int) ≤ (j : Int) ∨ ((j : Int) < (rl : Int) ∧ 3 ≤ (j : Int)) := by omega
            clear hjl
            rcases hcase with e1 | ⟨e1, e2⟩
            all_goals
              go_wp2_with fail
              go_meet
              exact ⟨x, y, z, rfl⟩
    case rest =>
    obtain ⟨x, y, z, hwc⟩ := hcut
    have hbc : Below wr.heap.size wr wc := by rw [hwc]; exact (Below.refl _ _).alloc (Nat.le_refl _) _
    have hxv : wc.heap[wr.heap.size]? = some (.cells #[.int .i64 x, .int .i64 y, .int .i64 z] 36 (0, 0)) := by rw [hwc]; exact heap_alloc_new _ _
    have v0 : wc.cell? ⟨wr.heap.size, 0, none⟩ = some (.int .i64 x) := by simp only [World.cell?, hxv]; rfl
    have v1 : wc.cell? ⟨wr.heap.size, 1, none⟩ = some (.int .i64 y) := by simp only [World.cell?, hxv]; rfl
    have v2 : wc.cell? ⟨wr.heap.size, 2, none⟩ = some (.int .i64 z) := by simp only [World.cell?, hxv]; rfl
    have BC := vl (HB.out.trans (hbc.mono HB.out.size))
    have DC := vl (HK.out.below HD.out hbc)
    have HML : Vl (Mild left) := ⟨by omega, l2⟩
    clear hwc hbc hxv HRC r1 r2 r3 hcap2 hmax2 hg1 HB HD HI
    generalize wr.heap.size = vb at *
    -- what is left of a round, once its call is known
    have FIN : Vl (∀ (m : Int) (wx : World), D wx wb m S → Tn S wc wx → Below w.heap.size w wx ∧ Laid wx) := fun m wx _ ht => by
      have hb := Tn.below BC.out ht BC.out.size (fun i hi => HSS.out i hi)
      exact ⟨hb, HG.out wx hb⟩
    by_cases x01 : x = 0 ∨ x = 1
    · rcases x01 with rfl | rfl
      · by_cases c1 : y < 0
        · have hF : takeF left y = (1, left) := by unfold takeF; rw [if_pos c1]
          have HC := vl (HT.out wb left S y wc DC.out HML.out)
          rw [hF] at HC
          unfold wptr at HC
          clear hF
          go_wp2_with fail
          refine HC.out.mono ?_
          rintro e' w3 ⟨rfl, hD3, hT3⟩
          have F3 := FIN.out left w3 hD3 hT3
          have HE := vl (errW_ok w3 1 F3.2)
          have B3 := vl F3.1
          have D3 := vl hD3
          clear hD3 hT3 F3 HC v0 v1 v2
          go_wp2_with fail
          refine HE.out.mono ?_
          rintro e' w4 ⟨rfl, hb4⟩
          have B4 := vl (B3.out.trans (hb4.mono B3.out.size))
          have D4 := vl (HK.out.below D3.out hb4)
          have HLf := vl (HL.out wb left S w4 D4.out)
          unfold wptr at HLf
          clear hb4 HE B3 D3
          go_wp2_with fail
          refine HLf.out.mono ?_
          rintro e' w5 ⟨rfl, rfl⟩
          clear HLf
          go_wp2
          go_roundw
          case rel => exact ⟨k + 1, left, by go_num, rfl, rfl, by omega, by omega, by omega, D4.out, B4.out⟩
          case measure => simp [intOf]; omega
        by_cases c2 : left < y
        · have hF : takeF left y = (9, left) := by unfold takeF; rw [if_neg c1, if_pos c2]
          have HC := vl (HT.out wb left S y wc DC.out HML.out)
          rw [hF] at HC
          unfold wptr at HC
          clear hF
          go_wp2_with fail
          refine HC.out.mono ?_
          rintro e' w3 ⟨rfl, hD3, hT3⟩
          have F3 := FIN.out left w3 hD3 hT3
          have HE := vl (errW_ok w3 9 F3.2)
          have B3 := vl F3.1
          have D3 := vl hD3
          clear hD3 hT3 F3 HC v0 v1 v2
          go_wp2_with fail
          refine HE.out.mono ?_
          rintro e' w4 ⟨rfl, hb4⟩
          have B4 := vl (B3.out.trans (hb4.mono B3.out.size))
          have D4 := vl (HK.out.below D3.out hb4)
          have HLf := vl (HL.out wb left S w4 D4.out)
          unfold wptr at HLf
          clear hb4 HE B3 D3
          go_wp2_with fail
          refine HLf.out.mono ?_
          rintro e' w5 ⟨rfl, rfl⟩
          clear HLf
          go_wp2
          go_roundw
          case rel => exact ⟨k + 1, left, by go_num, rfl, rfl, by omega, by omega, by omega, D4.out, B4.out⟩
          case measure => simp [intOf]; omega
        · have hF : takeF left y = (0, (left - y)) := by unfold takeF; rw [if_neg c1, if_neg c2]
          have HC := vl (HT.out wb left S y wc DC.out HML.out)
          rw [hF] at HC
          unfold wptr at HC
          clear hF
          go_wp2_with fail
          refine HC.out.mono ?_
          rintro e' w3 ⟨rfl, hD3, hT3⟩
          have F3 := FIN.out (left - y) w3 hD3 hT3
          have HE := vl (errW_ok w3 0 F3.2)
          have B3 := vl F3.1
          have D3 := vl hD3
          clear hD3 hT3 F3 HC v0 v1 v2
          go_wp2_with fail
          refine HE.out.mono ?_
          rintro e' w4 ⟨rfl, hb4⟩
          have B4 := vl (B3.out.trans (hb4.mono B3.out.size))
          have D4 := vl (HK.out.below D3.out hb4)
          have HLf := vl (HL.out wb (left - y) S w4 D4.out)
          unfold wptr at HLf
          clear hb4 HE B3 D3
          go_wp2_with fail
          refine HLf.out.mono ?_
          rintro e' w5 ⟨rfl, rfl⟩
          clear HLf
          go_wp2
          go_roundw
          case rel => exact ⟨k + 1, (left - y), by go_num, rfl, rfl, by omega, by omega, by omega, D4.out, B4.out⟩
          case measure => simp [intOf]; omega
      · by_cases c1 : y < 0
        · have hF : takeF left y = (1, left) := by unfold takeF; rw [if_pos c1]
          have HC := vl (HT.out wb left S y wc DC.out HML.out)
          rw [hF] at HC
          unfold wptr at HC
          clear hF
          go_wp2_with fail
          refine HC.out.mono ?_
          rintro e' w3 ⟨rfl, hD3, hT3⟩
          have F3 := FIN.out left w3 hD3 hT3
          have HE := vl (errW_ok w3 1 F3.2)
          have B3 := vl F3.1
          have D3 := vl hD3
          clear hD3 hT3 F3 HC v0 v1 v2
          go_wp2_with fail
          refine HE.out.mono ?_
          rintro e' w4 ⟨rfl, hb4⟩
          have B4 := vl (B3.out.trans (hb4.mono B3.out.size))
          have D4 := vl (HK.out.below D3.out hb4)
          have HLf := vl (HL.out wb left S w4 D4.out)
          unfold wptr at HLf
          clear hb4 HE B3 D3
          go_wp2_with fail
          refine HLf.out.mono ?_
          rintro e' w5 ⟨rfl, rfl⟩
          clear HLf
          go_wp2
          go_roundw
          case rel => exact ⟨k + 1, left, by go_num, rfl, rfl, by omega, by omega, by omega, D4.out, B4.out⟩
          case measure => simp [intOf]; omega
        by_cases c2 : left < y
        · have hF : takeF left y = (9, left) := by unfold takeF; rw [if_neg c1, if_pos c2]
          have HC := vl (HT.out wb left S y wc DC.out HML.out)
          rw [hF] at HC
          unfold wptr at HC
          clear hF
          go_wp2_with fail
          refine HC.out.mono ?_
          rintro e' w3 ⟨rfl, hD3, hT3⟩
          have F3 := FIN.out left w3 hD3 hT3
          have HE := vl (errW_ok w3 9 F3.2)
          have B3 := vl F3.1
          have D3 := vl hD3
          clear hD3 hT3 F3 HC v0 v1 v2
          go_wp2_with fail
          refine HE.out.mono ?_
          rintro e' w4 ⟨rfl, hb4⟩
          have B4 := vl (B3.out.trans (hb4.mono B3.out.size))
          have D4 := vl (HK.out.below D3.out hb4)
          have HLf := vl (HL.out wb left S w4 D4.out)
          unfold wptr at HLf
          clear hb4 HE B3 D3
          go_wp2_with fail
          refine HLf.out.mono ?_
          rintro e' w5 ⟨rfl, rfl⟩
          clear HLf
          go_wp2
          go_roundw
          case rel => exact ⟨k + 1, left, by go_num, rfl, rfl, by omega, by omega, by omega, D4.out, B4.out⟩
          case measure => simp [intOf]; omega
        · have hF : takeF left y = (0, (left - y)) := by unfold takeF; rw [if_neg c1, if_neg c2]
          have HC := vl (HT.out wb left S y wc DC.out HML.out)
          rw [hF] at HC
          unfold wptr at HC
          clear hF
          go_wp2_with fail
          refine HC.out.mono ?_
          rintro e' w3 ⟨rfl, hD3, hT3⟩
          have F3 := FIN.out (left - y) w3 hD3 hT3
          have HE := vl (errW_ok w3 0 F3.2)
          have B3 := vl F3.1
          have D3 := vl hD3
          clear hD3 hT3 F3 HC v0 v1 v2
          go_wp2_with fail
          refine HE.out.mono ?_
          rintro e' w4 ⟨rfl, hb4⟩
          have B4 := vl (B3.out.trans (hb4.mono B3.out.size))
          have D4 := vl (HK.out.below D3.out hb4)
          have HLf := vl (HL.out wb (left - y) S w4 D4.out)
          unfold wptr at HLf
          clear hb4 HE B3 D3
          go_wp2_with fail
          refine HLf.out.mono ?_
          rintro e' w5 ⟨rfl, rfl⟩
          clear HLf
          go_wp2
          go_roundw
          case rel => exact ⟨k + 1, (left - y), by go_num, rfl, rfl, by omega, by omega, by omega, D4.out, B4.out⟩
          case measure => simp [intOf]; omega
    by_cases x2 : x = 2
    · subst x2
      by_cases c1 : y < 1
      · have hF : giveF left y = (1, left) := by unfold giveF; rw [if_pos (Or.inl c1)]
        have HC := vl (HV.out wb left S y wc DC.out HML.out)
        rw [hF] at HC
        unfold wptr at HC
        clear hF
        go_wp2_with fail
        refine HC.out.mono ?_
        rintro e' w3 ⟨rfl, hD3, hT3⟩
        have F3 := FIN.out left w3 hD3 hT3
        have HE := vl (errW_ok w3 1 F3.2)
        have B3 := vl F3.1
        have D3 := vl hD3
        clear hD3 hT3 F3 HC v0 v1 v2
        go_wp2_with fail
        refine HE.out.mono ?_
        rintro e' w4 ⟨rfl, hb4⟩
        have B4 := vl (B3.out.trans (hb4.mono B3.out.size))
        have D4 := vl (HK.out.below D3.out hb4)
        have HLf := vl (HL.out wb left S w4 D4.out)
        unfold wptr at HLf
        clear hb4 HE B3 D3
        go_wp2_with fail
        refine HLf.out.mono ?_
        rintro e' w5 ⟨rfl, rfl⟩
        clear HLf
        go_wp2
        go_roundw
        case rel => exact ⟨k + 1, left, by go_num, rfl, rfl, by omega, by omega, by omega, D4.out, B4.out⟩
        case measure => simp [intOf]; omega
      by_cases c2 : 2147483647 < y
      · have hF : giveF left y = (1, left) := by unfold giveF; rw [if_pos (Or.inr c2)]
        have HC := vl (HV.out wb left S y wc DC.out HML.out)
        rw [hF] at HC
        unfold wptr at HC
        clear hF
        go_wp2_with fail
        refine HC.out.mono ?_
        rintro e' w3 ⟨rfl, hD3, hT3⟩
        have F3 := FIN.out left w3 hD3 hT3
        have HE := vl (errW_ok w3 1 F3.2)
        have B3 := vl F3.1
        have D3 := vl hD3
        clear hD3 hT3 F3 HC v0 v1 v2
        go_wp2_with fail
        refine HE.out.mono ?_
        rintro e' w4 ⟨rfl, hb4⟩
        have B4 := vl (B3.out.trans (hb4.mono B3.out.size))
        have D4 := vl (HK.out.below D3.out hb4)
        have HLf := vl (HL.out wb left S w4 D4.out)
        unfold wptr at HLf
        clear hb4 HE B3 D3
        go_wp2_with fail
        refine HLf.out.mono ?_
        rintro e' w5 ⟨rfl, rfl⟩
        clear HLf
        go_wp2
        go_roundw
        case rel => exact ⟨k + 1, left, by go_num, rfl, rfl, by omega, by omega, by omega, D4.out, B4.out⟩
        case measure => simp [intOf]; omega
      by_cases c3 : 2147483647 < left + y
      · have hF : giveF left y = (10, left) := by unfold giveF; rw [if_neg (by omega), if_pos c3]
        have HC := vl (HV.out wb left S y wc DC.out HML.out)
        rw [hF] at HC
        unfold wptr at HC
        clear hF
        go_wp2_with fail
        refine HC.out.mono ?_
        rintro e' w3 ⟨rfl, hD3, hT3⟩
        have F3 := FIN.out left w3 hD3 hT3
        have HE := vl (errW_ok w3 10 F3.2)
        have B3 := vl F3.1
        have D3 := vl hD3
        clear hD3 hT3 F3 HC v0 v1 v2
        go_wp2_with fail
        refine HE.out.mono ?_
        rintro e' w4 ⟨rfl, hb4⟩
        have B4 := vl (B3.out.trans (hb4.mono B3.out.size))
        have D4 := vl (HK.out.below D3.out hb4)
        have HLf := vl (HL.out wb left S w4 D4.out)
        unfold wptr at HLf
        clear hb4 HE B3 D3
        go_wp2_with fail
        refine HLf.out.mono ?_
        rintro e' w5 ⟨rfl, rfl⟩
        clear HLf
        go_wp2
        go_roundw
        case rel => exact ⟨k + 1, left, by go_num, rfl, rfl, by omega, by omega, by omega, D4.out, B4.out⟩
        case measure => simp [intOf]; omega
      · have hF : giveF left y = (0, (left + y)) := by unfold giveF; rw [if_neg (by omega), if_neg c3]
        have HC := vl (HV.out wb left S y wc DC.out HML.out)
        rw [hF] at HC
        unfold wptr at HC
        clear hF
        go_wp2_with fail
        refine HC.out.mono ?_
        rintro e' w3 ⟨rfl, hD3, hT3⟩
        have F3 := FIN.out (left + y) w3 hD3 hT3
        have HE := vl (errW_ok w3 0 F3.2)
        have B3 := vl F3.1
        have D3 := vl hD3
        clear hD3 hT3 F3 HC v0 v1 v2
        go_wp2_with fail
        refine HE.out.mono ?_
        rintro e' w4 ⟨rfl, hb4⟩
        have B4 := vl (B3.out.trans (hb4.mono B3.out.size))
        have D4 := vl (HK.out.below D3.out hb4)
        have HLf := vl (HL.out wb (left + y) S w4 D4.out)
        unfold wptr at HLf
        clear hb4 HE B3 D3
        go_wp2_with fail
        refine HLf.out.mono ?_
        rintro e' w5 ⟨rfl, rfl⟩
        clear HLf
        go_wp2
        go_roundw
        case rel => exact ⟨k + 1, (left + y), by go_num, rfl, rfl, by omega, by omega, by omega, D4.out, B4.out⟩
        case measure => simp [intOf]; omega
    by_cases x3 : x = 3
    · subst x3
      by_cases c1 : y < 0
      · have hF : shiftF left y z = (1, left) := by unfold shiftF; rw [if_pos (by omega)]
        have HC := vl (HS.out wb left S y z wc DC.out HML.out)
        rw [hF] at HC
        unfold wptr at HC
        clear hF
        go_wp2_with fail
        refine HC.out.mono ?_
        rintro e' w3 ⟨rfl, hD3, hT3⟩
        have F3 := FIN.out left w3 hD3 hT3
        have HE := vl (errW_ok w3 1 F3.2)
        have B3 := vl F3.1
        have D3 := vl hD3
        clear hD3 hT3 F3 HC v0 v1 v2
        go_wp2_with fail
        refine HE.out.mono ?_
        rintro e' w4 ⟨rfl, hb4⟩
        have B4 := vl (B3.out.trans (hb4.mono B3.out.size))
        have D4 := vl (HK.out.below D3.out hb4)
        have HLf := vl (HL.out wb left S w4 D4.out)
        unfold wptr at HLf
        clear hb4 HE B3 D3
        go_wp2_with fail
        refine HLf.out.mono ?_
        rintro e' w5 ⟨rfl, rfl⟩
        clear HLf
        go_wp2
        go_roundw
        case rel => exact ⟨k + 1, left, by go_num, rfl, rfl, by omega, by omega, by omega, D4.out, B4.out⟩
        case measure => simp [intOf]; omega
      by_cases c2 : 2147483647 < y
      · have hF : shiftF left y z = (1, left) := by unfold shiftF; rw [if_pos (by omega)]
        have HC := vl (HS.out wb left S y z wc DC.out HML.out)
        rw [hF] at HC
        unfold wptr at HC
        clear hF
        go_wp2_with fail
        refine HC.out.mono ?_
        rintro e' w3 ⟨rfl, hD3, hT3⟩
        have F3 := FIN.out left w3 hD3 hT3
        have HE := vl (errW_ok w3 1 F3.2)
        have B3 := vl F3.1
        have D3 := vl hD3
        clear hD3 hT3 F3 HC v0 v1 v2
        go_wp2_with fail
        refine HE.out.mono ?_
        rintro e' w4 ⟨rfl, hb4⟩
        have B4 := vl (B3.out.trans (hb4.mono B3.out.size))
        have D4 := vl (HK.out.below D3.out hb4)
        have HLf := vl (HL.out wb left S w4 D4.out)
        unfold wptr at HLf
        clear hb4 HE B3 D3
        go_wp2_with fail
        refine HLf.out.mono ?_
        rintro e' w5 ⟨rfl, rfl⟩
        clear HLf
        go_wp2
        go_roundw
        case rel => exact ⟨k + 1, left, by go_num, rfl, rfl, by omega, by omega, by omega, D4.out, B4.out⟩
        case measure => simp [intOf]; omega
      by_cases c3 : z < 0
      · have hF : shiftF left y z = (1, left) := by unfold shiftF; rw [if_pos (by omega)]
        have HC := vl (HS.out wb left S y z wc DC.out HML.out)
        rw [hF] at HC
        unfold wptr at HC
        clear hF
        go_wp2_with fail
        refine HC.out.mono ?_
        rintro e' w3 ⟨rfl, hD3, hT3⟩
        have F3 := FIN.out left w3 hD3 hT3
        have HE := vl (errW_ok w3 1 F3.2)
        have B3 := vl F3.1
        have D3 := vl hD3
        clear hD3 hT3 F3 HC v0 v1 v2
        go_wp2_with fail
        refine HE.out.mono ?_
        rintro e' w4 ⟨rfl, hb4⟩
        have B4 := vl (B3.out.trans (hb4.mono B3.out.size))
        have D4 := vl (HK.out.below D3.out hb4)
        have HLf := vl (HL.out wb left S w4 D4.out)
        unfold wptr at HLf
        clear hb4 HE B3 D3
        go_wp2_with fail
        refine HLf.out.mono ?_
        rintro e' w5 ⟨rfl, rfl⟩
        clear HLf
        go_wp2
        go_roundw
        case rel => exact ⟨k + 1, left, by go_num, rfl, rfl, by omega, by omega, by omega, D4.out, B4.out⟩
        case measure => simp [intOf]; omega
      by_cases c4 : 2147483647 < z
      · have hF : shiftF left y z = (1, left) := by unfold shiftF; rw [if_pos (by omega)]
        have HC := vl (HS.out wb left S y z wc DC.out HML.out)
        rw [hF] at HC
        unfold wptr at HC
        clear hF
        go_wp2_with fail
        refine HC.out.mono ?_
        rintro e' w3 ⟨rfl, hD3, hT3⟩
        have F3 := FIN.out left w3 hD3 hT3
        have HE := vl (errW_ok w3 1 F3.2)
        have B3 := vl F3.1
        have D3 := vl hD3
        clear hD3 hT3 F3 HC v0 v1 v2
        go_wp2_with fail
        refine HE.out.mono ?_
        rintro e' w4 ⟨rfl, hb4⟩
        have B4 := vl (B3.out.trans (hb4.mono B3.out.size))
        have D4 := vl (HK.out.below D3.out hb4)
        have HLf := vl (HL.out wb left S w4 D4.out)
        unfold wptr at HLf
        clear hb4 HE B3 D3
        go_wp2_with fail
        refine HLf.out.mono ?_
        rintro e' w5 ⟨rfl, rfl⟩
        clear HLf
        go_wp2
        go_roundw
        case rel => exact ⟨k + 1, left, by go_num, rfl, rfl, by omega, by omega, by omega, D4.out, B4.out⟩
        case measure => simp [intOf]; omega
      by_cases c5 : 2147483647 < left + z - y
      · have hF : shiftF left y z = (10, left) := by unfold shiftF; rw [if_neg (by omega), if_pos c5]
        have HC := vl (HS.out wb left S y z wc DC.out HML.out)
        rw [hF] at HC
        unfold wptr at HC
        clear hF
        go_wp2_with fail
        refine HC.out.mono ?_
        rintro e' w3 ⟨rfl, hD3, hT3⟩
        have F3 := FIN.out left w3 hD3 hT3
        have HE := vl (errW_ok w3 10 F3.2)
        have B3 := vl F3.1
        have D3 := vl hD3
        clear hD3 hT3 F3 HC v0 v1 v2
        go_wp2_with fail
        refine HE.out.mono ?_
        rintro e' w4 ⟨rfl, hb4⟩
        have B4 := vl (B3.out.trans (hb4.mono B3.out.size))
        have D4 := vl (HK.out.below D3.out hb4)
        have HLf := vl (HL.out wb left S w4 D4.out)
        unfold wptr at HLf
        clear hb4 HE B3 D3
        go_wp2_with fail
        refine HLf.out.mono ?_
        rintro e' w5 ⟨rfl, rfl⟩
        clear HLf
        go_wp2
        go_roundw
        case rel => exact ⟨k + 1, left, by go_num, rfl, rfl, by omega, by omega, by omega, D4.out, B4.out⟩
        case measure => simp [intOf]; omega
      · have hF : shiftF left y z = (0, (left + z - y)) := by unfold shiftF; rw [if_neg (by omega), if_neg c5]
        have HC := vl (HS.out wb left S y z wc DC.out HML.out)
        rw [hF] at HC
        unfold wptr at HC
        clear hF
        go_wp2_with fail
        refine HC.out.mono ?_
        rintro e' w3 ⟨rfl, hD3, hT3⟩
        have F3 := FIN.out (left + z - y) w3 hD3 hT3
        have HE := vl (errW_ok w3 0 F3.2)
        have B3 := vl F3.1
        have D3 := vl hD3
        clear hD3 hT3 F3 HC v0 v1 v2
        go_wp2_with fail
        refine HE.out.mono ?_
        rintro e' w4 ⟨rfl, hb4⟩
        have B4 := vl (B3.out.trans (hb4.mono B3.out.size))
        have D4 := vl (HK.out.below D3.out hb4)
        have HLf := vl (HL.out wb (left + z - y) S w4 D4.out)
        unfold wptr at HLf
        clear hb4 HE B3 D3
        go_wp2_with fail
        refine HLf.out.mono ?_
        rintro e' w5 ⟨rfl, rfl⟩
        clear HLf
        go_wp2
        go_roundw
        case rel => exact ⟨k + 1, (left + z - y), by go_num, rfl, rfl, by omega, by omega, by omega, D4.out, B4.out⟩
        case measure => simp [intOf]; omega
    have x0' : (x == 0) = false := beq_eq_false_iff_ne.2 (fun h => x01 (Or.inl h))
    have x1' : (x == 1) = false := beq_eq_false_iff_ne.2 (fun h => x01 (Or.inr h))
    have x2' : (x == 2) = false := beq_eq_false_iff_ne.2 x2
    have x3' : (x == 3) = false := beq_eq_false_iff_ne.2 x3
    have HLf := vl (HL.out wb left S wc DC.out)
    unfold wptr at HLf
    clear x01 x2 x3
    go_wp2_with fail
    refine HLf.out.mono ?_
    rintro e' w5 ⟨rfl, rfl⟩
    clear HLf v0 v1 v2
    go_wp2
    go_roundw
    case rel => exact ⟨k + 1, left, by go_num, rfl, rfl, by omega, by omega, by omega, DC.out, BC.out⟩
    case measure => simp [intOf]; omega
end Go.Proofs.YtjkjeegmfhaidadDoor
