/-
  LOGSUMS: the sums of entries, the number at a place, the paths that stand there most often; the law's walk, over what Sum, Rank and Top do. No claim by itself.
-/
import Derived.BigQuiet
import Derived.Deep.QuietTactic
import Derived.Test.YteohgkgahkkjlaaGreatDoorJ9X
import Derived.Test.YteohgkgahkkjlaaGreatDoorJ3X
import Derived.Test.YteohgkgahkkjlaaGreatDoorJ1
namespace Go.Proofs.YteohgkgahkkjlaaGreatDoor
open Go Go.RowKit
set_option maxRecDepth 100000
/- what Sum answers, in one form -/
def sN (L : List Et) (a b : Int) : Int := if chkL L = 0 then sumF (fN a b) L else 0
def sB (L : List Et) (a b : Int) : Int := if chkL L = 0 then sumF (fB a b) L else 0
def sX (L : List Et) (a b : Int) : Int := if chkL L = 0 then sumF (fX a b) L else 0
theorem sum_form {L : List Et} {a b : Int} {e : Ending} (h : SumP L a b e) : e = .returned (.tuple #[.int .i64 (sN L a b), .int .i64 (sB L a b), .int .i64 (sX L a b), errW (chkL L)]) := by
  rcases h with ⟨h0, rfl⟩ | ⟨h0, rfl⟩
  · unfold sN sB sX
    rw [if_pos h0, if_pos h0, if_pos h0, h0, gerr_zero]
  · unfold sN sB sX
    rw [if_neg h0, if_neg h0, if_neg h0]
/- the number at a place, as the law looks for it -/
def rkC (L : List Int) (k : Nat) (x : Int) : Prop := cLt L x < k + 1 ∧ k + 1 ≤ cLe L x
def WnI (L : List Int) (k i : Nat) (V v : Int) : Prop := (v = 0 ∧ ∀ j, j < i → ¬ rkC L k (L.getD j 0)) ∨ (v = V ∧ ∃ j, j < i ∧ rkC L k (L.getD j 0))
theorem wni_zero (L : List Int) (k : Nat) (V : Int) : WnI L k 0 V 0 := Or.inl ⟨rfl, fun j h => by omega⟩
theorem wni_yes {L : List Int} {k i : Nat} {V v : Int} (_h : WnI L k i V v) (hk : k < L.length) (hV : V = (sortL L).getD k 0) (hc : rkC L k (L.getD i 0)) : WnI L k (i + 1) V (L.getD i 0) :=
  Or.inr ⟨by rw [hV]; exact rank_is hk _ hc, i, by omega, hc⟩
theorem wni_no {L : List Int} {k i : Nat} {V v : Int} (h : WnI L k i V v) (hc : ¬ rkC L k (L.getD i 0)) : WnI L k (i + 1) V v := by
  rcases h with ⟨h1, h2⟩ | ⟨h1, j, h2, h3⟩
  · refine Or.inl ⟨h1, fun j hj => ?_⟩
    by_cases e : j = i
    · rw [e]; exact hc
    · exact h2 j (by omega)
  · exact Or.inr ⟨h1, j, by omega, h3⟩
theorem wni_end {L : List Int} {k : Nat} {V v : Int} (h : WnI L k L.length V v) (hk : k < L.length) (_hV : V = (sortL L).getD k 0) : v = V := by
  rcases h with ⟨_, h2⟩ | ⟨h1, _⟩
  · have hm := sortL_mem (L := L) hk
    obtain ⟨j, hj, e⟩ := List.getElem_of_mem hm
    have e2 : L.getD j 0 = (sortL L).getD k 0 := by simp only [List.getD, List.getElem?_eq_getElem hj, Option.getD_some]; exact e
    exact absurd (by rw [e2]; exact rank_of hk) (h2 j hj)
  · exact h1
theorem cLt_more {L : List Int} {k : Nat} (x : Int) (h : k < L.length) : cLt (L.take (k + 1)) x = cLt (L.take k) x + if L.getD k 0 < x then 1 else 0 := by
  unfold cLt
  rw [filter_take_more _ _ _ h]
  simp
theorem cLe_more {L : List Int} {k : Nat} (x : Int) (h : k < L.length) : cLe (L.take (k + 1)) x = cLe (L.take k) x + if L.getD k 0 ≤ x then 1 else 0 := by
  unfold cLe
  rw [filter_take_more _ _ _ h]
  simp
theorem cLt_le (L : List Int) (x : Int) : cLt L x ≤ L.length := List.length_filter_le _ _
theorem cLe_le (L : List Int) (x : Int) : cLe L x ≤ L.length := List.length_filter_le _ _
/-- A row of texts, place by place. -/
theorem tx_form {w : World} {v : Value} {T : List (List UInt8)} (h : TxRow w v T) : ∃ (a : Option Addr) (c : Nat), v = .slice a T.length c ∧ ∀ t, t < T.length → ∃ g, a = some ⟨g, 0, none⟩ ∧ T.length ≤ c ∧ c ≤ maxLen ∧ w.cell? ⟨g, t, none⟩ = some (.string ⟨(T.getD t []).toArray⟩) := by
  rcases h with ⟨rfl, rfl⟩ | ⟨g, c, rfl, h2, h3, h4⟩
  · exact ⟨none, 0, rfl, fun t ht => by simp at ht⟩
  · exact ⟨_, c, rfl, fun t ht => ⟨g, rfl, h2, h3, h4 t ht⟩⟩
set_option maxHeartbeats 16000000 in
theorem lsums_ok (HSF : JSortedSaid) (HKF : JKeysSaid) (x : Option Addr) (len cap : Nat) (L : List Et) (a1 a2 : Int) (y : Option Addr) (ln cn : Nat) (Z : List Int) (part many : Int) (w : World) (hg : Laid w) (hF : EtArg w x len cap L) (hZ : SzE L) (hA : NArg w y ln cn Z) (hln : ln ≤ 4611686018427387904) :
    Calls Tryz.prog 4 #[.slice x len cap, .int .i64 a1, .int .i64 a2, .slice y ln cn, .int .i64 part, .int .i64 many] w fun e w' => e = .returned (.bool true) ∧ Below w.heap.size w w' := by
  obtain ⟨W1, hW1⟩ : ∃ W1, W1 = w.alloc (.cells #[.slice x len cap] 36) := ⟨_, rfl⟩
  have hb1 : Below w.heap.size w W1 := by rw [hW1]; exact (Below.refl _ w).alloc (Nat.le_refl _) _
  obtain ⟨bx, hbx⟩ : ∃ bx, bx = w.heap.size := ⟨_, rfl⟩
  have HX1 : Vl (W1.cell? ⟨bx, 0, none⟩ = some (.slice x len cap)) := vl (by
    have h := heap_alloc_new w (Obj.cells #[.slice x len cap] 36)
    rw [hW1, hbx]
    simp only [World.cell?, h]
    rfl)
  have HEND : Vl (∀ W, Below W1.heap.size W1 W → Below w.heap.size w W) := vl (fun W h => hb1.trans (h.mono hb1.size))
  have HG := vl (hg.below hb1)
  have HFA := vl (hF.below hb1)
  have HAA := vl (hA.below hb1)
  have HSZ := vl hZ
  have HLN := vl hF.len
  have HLZ := vl hln
  have HR0 := vl (Below.refl W1.heap.size W1)
  have HX : Vl (∀ W, Below W1.heap.size W1 W → W.cell? ⟨bx, 0, none⟩ = some (.slice x len cap)) := vl (fun W h => (h.cell (p := ⟨bx, 0, none⟩) (eblk_of_cell HX1.out)).trans HX1.out)
  have HSF' := vl HSF
  have HKF' := vl HKF
  have HEN := vl (rents_any x len cap L W1 HFA.out hZ)
  have HSM : Vl (∀ e, SumP L a1 a2 e → e = .returned (.tuple #[.int .i64 (sN L a1 a2), .int .i64 (sB L a1 a2), .int .i64 (sX L a1 a2), errW (chkL L)])) := vl (fun e h => sum_form h)
  obtain ⟨E, hE⟩ : ∃ E, chkL L = E := ⟨_, rfl⟩
  have HE := vl hE
  rw [hE] at HEN HSM
  clear hg hF hA hZ hln HSF HKF hb1 hE HX1
  go_enter Tryz.func4, Tryz.ntmps4
  go_wp2_with fail
  rw [← hW1, ← hbx]
  clear hW1 hbx
  have hx1 := HX.out W1 HR0.out
  go_wp2_with fail
  refine HEN.out.mono ?_
  rintro _ w2 ⟨rfl, hb2⟩
  have HB2 : Vl (Below W1.heap.size W1 w2) := vl hb2
  have hx2 := HX.out _ hb2
  clear hb2 HEN hx1
  go_wp2_with fail
  go_loopw [14, 15, 16, 17] (fun n b x i wr => ∃ (k : Nat) (N B X : Int), n = .int .i64 N ∧ b = .int .i64 B ∧ x = .int .i64 X ∧ i = .int .i64 k ∧ k ≤ len ∧ (0 ≤ N ∧ N ≤ 1000000000) ∧ (0 ≤ B ∧ B ≤ 1000000 * (k : Int)) ∧ (0 ≤ X ∧ X ≤ 1000000000) ∧ Vl (N ≤ (k : Int) ∧ X ≤ (k : Int)) ∧ Vl (SmI L a1 a2 k N B X) ∧ Vl (E ≠ 0 → k = 0) ∧ Vl (Below W1.heap.size W1 wr)) (fun _ _ _ i _ => len - (intOf i).toNat)
  case atStart => exact ⟨0, 0, 0, 0, rfl, rfl, rfl, rfl, by omega, ⟨by omega, by omega⟩, ⟨by omega, by omega⟩, ⟨by omega, by omega⟩, vl ⟨by omega, by omega⟩, vl (smi_zero L a1 a2), vl (fun _ => rfl), HB2⟩
  case round =>
    obtain ⟨k, N, B, X, rfl, rfl, rfl, rfl, hk, ⟨n1, n2⟩, ⟨b1, b2⟩, ⟨x1, x2⟩, HNX, HI, HK0, HB⟩ := hrel
    clear hx2 HB2
    have hx := HX.out _ HB.out
    go_upto_region 6 with fail
    go_cut [57] from 50 to 57 (fun bv wx => ∃ bb : Bool, bv = .bool bb ∧ Vl (wx = wr) ∧ Vl (bb = true → E = 0 ∧ k < len) ∧ Vl (bb = false → E ≠ 0 ∨ k = len))
    case first =>
      as_aux_lemma =>
        by_cases hlt : k < len
        · have hlt' : (k : Int) < (len : Int) := by omega
          by_cases h0 : E = 0
          · have h0' : (E == 0) = true := by simpa using h0
            have HH0 := vl h0
            clear h0
            go_wp2
            go_meet
            exact ⟨true, rfl, rfl, vl (fun _ => ⟨HH0.out, hlt⟩), vl (fun h => by cases h)⟩
          · have h0' : (E == 0) = false := by simpa using h0
            go_wp2
            go_meet
            exact ⟨false, rfl, rfl, vl (fun h => by cases h), vl (fun _ => Or.inl h0)⟩
        · have hlt' : ¬ (k : Int) < (len : Int) := by omega
          go_wp2
          go_meet
          exact ⟨false, rfl, rfl, vl (fun h => by cases h), vl (fun _ => Or.inr (by omega))⟩
    case rest =>
    obtain ⟨bb, rfl, hwx, HBT, HBF⟩ := hcut
    rw [hwx.out]
    clear hwx
    cases bb with
    | true =>
      as_aux_lemma =>
      obtain ⟨h0, hlt⟩ := HBT.out rfl
      have hok := chkL_ok (HE.out.trans h0)
      have hlen : len ≤ 1000 := by rw [HLN.out] at hok; exact hok.1
      have hck := hok.2 k (by rw [HLN.out]; exact hlt)
      rcases HFA.out.below HB.out with ⟨h, _⟩ | ⟨g, off, rfl, hr2⟩
      · omega
      have c0 := hr2.h0 k hlt
      have c1 := hr2.h1 k hlt
      have c2 := hr2.h2 k hlt
      have hcap := hr2.hcap
      have hmax := hr2.hmax
      unfold maxLen at hmax
      have hlt' : (k : Int) < (len : Int) := by omega
      have HO := vl (smi_out HI.out (by rw [HLN.out]; exact hlt))
      have HN := vl (smi_in HI.out (by rw [HLN.out]; exact hlt))
      have HKK : Vl (E ≠ 0 → k + 1 = 0) := vl (fun h => absurd h0 h)
      clear hr2 hok HBT HBF HI
      generalize L.getD k etn = f at *
      obtain ⟨t, c, q, u, m, p⟩ := f
      simp only at c0 c1 c2
      have hcb : 0 ≤ q ∧ q ≤ 1000000 := (chkE_ok hck).2.2.1
      clear hck h0
      by_cases h1 : a1 ≤ t
      · by_cases h2 : t < a2
        · have hin : inS a1 a2 ⟨t, c, q, u, m, p⟩ = true := by unfold inS; simp [h1, h2]
          have HI2 := vl (HN.out hin)
          clear HO HN hin
          by_cases hc : 500 ≤ c
          · have HI3 := HI2.out
            simp only [if_pos hc] at HI3
            have HI4 := vl HI3
            clear HI2 HI3
            go_wp2_with fail
            go_roundw
            case rel => exact ⟨k + 1, N + 1, B + q, X + 1, by go_num, by go_num, by go_num, by go_num, by omega, ⟨by omega, by have := HNX.out.1; omega⟩, ⟨by omega, by omega⟩, ⟨by omega, by have := HNX.out.2; omega⟩, vl ⟨by have := HNX.out.1; omega, by have := HNX.out.2; omega⟩, HI4, HKK, HB⟩
            case measure => simp [intOf]; omega
          · have HI3 := HI2.out
            simp only [if_neg hc, Int.add_zero] at HI3
            have HI4 := vl HI3
            clear HI2 HI3
            go_wp2_with fail
            go_roundw
            case rel => exact ⟨k + 1, N + 1, B + q, X, by go_num, by go_num, rfl, by go_num, by omega, ⟨by omega, by have := HNX.out.1; omega⟩, ⟨by omega, by omega⟩, ⟨by omega, by have := HNX.out.2; omega⟩, vl ⟨by have := HNX.out.1; omega, by have := HNX.out.2; omega⟩, HI4, HKK, HB⟩
            case measure => simp [intOf]; omega
        · have hin : inS a1 a2 ⟨t, c, q, u, m, p⟩ = false := by unfold inS; simp [h2]
          have HI2 := vl (HO.out hin)
          clear HO HN hin
          go_wp2_with fail
          go_roundw
          case rel => exact ⟨k + 1, N, B, X, rfl, rfl, rfl, by go_num, by omega, ⟨by omega, by omega⟩, ⟨by omega, by omega⟩, ⟨by omega, by omega⟩, vl ⟨by have := HNX.out.1; omega, by have := HNX.out.2; omega⟩, HI2, HKK, HB⟩
          case measure => simp [intOf]; omega
      · have hin : inS a1 a2 ⟨t, c, q, u, m, p⟩ = false := by unfold inS; simp [h1]
        have HI2 := vl (HO.out hin)
        clear HO HN hin
        go_wp2_with fail
        go_roundw
        case rel => exact ⟨k + 1, N, B, X, rfl, rfl, rfl, by go_num, by omega, ⟨by omega, by omega⟩, ⟨by omega, by omega⟩, ⟨by omega, by omega⟩, vl ⟨by have := HNX.out.1; omega, by have := HNX.out.2; omega⟩, HI2, HKK, HB⟩
        case measure => simp [intOf]; omega
    | false =>
      have hSN : sN L a1 a2 = N ∧ sB L a1 a2 = B ∧ sX L a1 a2 = X := by
        obtain ⟨i1, i2, i3⟩ := HI.out
        unfold sN sB sX
        by_cases h0 : E = 0
        · rw [if_pos (HE.out.trans h0), if_pos (HE.out.trans h0), if_pos (HE.out.trans h0)]
          have hkl : k = len := (HBF.out rfl).resolve_left (fun h => h h0)
          have e : L.take k = L := List.take_of_length_le (by rw [HLN.out]; omega)
          rw [e] at i1 i2 i3
          exact ⟨i1.symm, i2.symm, i3.symm⟩
        · rw [if_neg (fun h => h0 (HE.out.symm.trans h)), if_neg (fun h => h0 (HE.out.symm.trans h)), if_neg (fun h => h0 (HE.out.symm.trans h))]
          have hk0 := HK0.out h0
          rw [hk0] at i1 i2 i3
          exact ⟨i1.symm, i2.symm, i3.symm⟩
      rw [hSN.1, hSN.2.1, hSN.2.2] at HSM
      clear hSN HI HK0 HBT HBF HNX b1 b2 x1 x2 n1 n2 hk
      have HSU := vl (gsum_any x len cap L a1 a2 wr (HFA.out.below HB.out) HSZ.out)
      go_wp2_with fail
      refine HSU.out.mono ?_
      rintro _ w3 ⟨hP3, hb3⟩
      obtain rfl := HSM.out _ hP3
      have HB3 := vl (HB.out.trans (hb3.mono HB.out.size))
      have HJ3 := vl (jerr_any E w3 (HG.out.below HB3.out))
      clear hb3 hP3 HSM HSU HB hx
      go_wp2_with fail
      refine HJ3.out.mono ?_
      rintro _ w4 ⟨rfl, hb4⟩
      have HB4 := vl (HB3.out.trans (hb4.mono HB3.out.size))
      clear hb4 HB3 HJ3
      go_upto_region 19 with fail
      obtain ⟨RE, hRE⟩ : ∃ e, rkE (zl ln Z) part = e := ⟨_, rfl⟩
      obtain ⟨RV, hRV⟩ : ∃ e, rkV (zl ln Z) part = e := ⟨_, rfl⟩
      have HRE := vl hRE
      have HRV := vl hRV
      have HRK : Vl (∀ W, Below W1.heap.size W1 W → Calls Tryz.prog 13 #[.slice y ln cn, .int .i64 part] W fun e w' => e = .returned (.tuple #[.int .i64 RV, errW RE]) ∧ Below W.heap.size W w') := vl (fun W h => by
        have := grank_any y ln cn Z part W (HAA.out.below h) HLZ.out
        rw [hRE, hRV] at this
        exact this)
      clear hRE hRV
      have hlz : ln ≤ 4611686018427387904 := HLZ.out
      go_cut [127] from 122 to 127 (fun bv wx => ∃ bb : Bool, bv = .bool bb ∧ Vl (wx = w4) ∧ Vl (bb = true → ¬ (1 ≤ part ∧ part ≤ 100)) ∧ Vl (bb = false → 1 ≤ part ∧ part ≤ 100))
      case first =>
        by_cases p1 : part < 1
        · go_wp2
          go_meet
          exact ⟨true, rfl, rfl, vl (fun _ h => by omega), vl (fun h => by cases h)⟩
        · by_cases p2 : 100 < part
          · go_wp2
            go_meet
            exact ⟨true, rfl, rfl, vl (fun _ h => by omega), vl (fun h => by cases h)⟩
          · go_wp2
            go_meet
            exact ⟨false, rfl, rfl, vl (fun h => by cases h), vl (fun _ => ⟨by omega, by omega⟩)⟩
      case rest =>
      obtain ⟨bb, rfl, hwx, HBT, HBF⟩ := hcut
      rw [hwx.out]
      clear hwx
      go_upto_if 127 with fail
      go_cut [23, 24, 25, 26, 27, 28, 29] from 128 to 185 (fun fv vv _ _ _ _ _ wx => fv = .int .i64 RE ∧ vv = .int .i64 RV ∧ Vl (Below W1.heap.size W1 wx))
      case first =>
        as_aux_lemma =>
          cases bb with
          | true =>
            have hp := HBT.out rfl
            obtain rfl : RE = 1 := by rw [← HRE.out]; unfold rkE; rw [if_pos hp]
            obtain rfl : RV = 0 := by rw [← HRV.out]; unfold rkV; rw [HRE.out, if_neg (by decide)]
            clear hp HBT HBF HRK
            go_wp2_with fail
            go_meet
            exact ⟨rfl, rfl, HB4⟩
          | false =>
            obtain ⟨p1, p2⟩ := HBF.out rfl
            have hnp : ¬ ¬ (1 ≤ part ∧ part ≤ 100) := fun h => h ⟨p1, p2⟩
            by_cases l1 : 1000 < ln
            · obtain rfl : RE = 4 := by rw [← HRE.out]; unfold rkE; rw [if_neg hnp, zl_len, if_neg (by omega), if_pos l1]
              obtain rfl : RV = 0 := by rw [← HRV.out]; unfold rkV; rw [HRE.out, if_neg (by decide)]
              have l1' : (1000 : Int) < (ln : Int) := by omega
              clear HBT HBF HRK
              go_wp2_with fail
              go_meet
              exact ⟨rfl, rfl, HB4⟩
            · have l1' : ¬ (1000 : Int) < (ln : Int) := by omega
              by_cases l0 : ln = 0
              · obtain rfl : RE = 5 := by rw [← HRE.out]; unfold rkE; rw [if_neg hnp, zl_len, if_pos l0]
                obtain rfl : RV = 0 := by rw [← HRV.out]; unfold rkV; rw [HRE.out, if_neg (by decide)]
                have l0' : ((ln : Int) == 0) = true := by simp; omega
                clear HBT HBF HRK l0 hlz
                go_wp2_with fail
                go_meet
                exact ⟨rfl, rfl, HB4⟩
              · have l0' : ((ln : Int) == 0) = false := by simp; omega
                have l0n : ¬ (ln : Int) = 0 := by omega
                obtain rfl : RE = 0 := by rw [← HRE.out]; unfold rkE; rw [if_neg hnp, zl_len, if_neg l0, if_neg l1]
                obtain ⟨hv1, hv2⟩ := rkV_ok HRE.out
                rw [zl_len] at hv1 hv2
                obtain ⟨kk, hkk⟩ : ∃ kk, (rkP ln part).toNat - 1 = kk := ⟨_, rfl⟩
                rw [hkk, HRV.out] at hv1
                rw [hkk] at hv2
                have hpl := rk_place (n := ln) (by omega) (by omega) p1 p2
                have hk1 : rkP ln part = (kk : Int) + 1 := by omega
                have hm1 : (ln : Int) * part ≤ 100000 := by
                  have := Int.mul_le_mul_of_nonneg_left p2 (show (0 : Int) ≤ (ln : Int) by omega); omega
                have hm0 : (0 : Int) ≤ (ln : Int) * part := Int.mul_nonneg (by omega) (by omega)
                unfold rkP at hk1
                rw [Int.mul_comm] at hk1
                obtain ⟨m, hm⟩ : ∃ m, (ln : Int) * part = m := ⟨_, rfl⟩
                rw [hm] at hk1 hm1 hm0
                have HV1 := vl hv1
                have k1 : kk < ln := by simpa using hv2
                clear hv1 hv2 hkk hpl HBT HBF HRK hnp
                have HML : Vl (∀ t, t < ln → (zl ln Z).getD t 0 = Z.getD t 0) := vl (fun t ht => zl_at Z ht)
                have HW0 : Vl (WnI (zl ln Z) kk 0 RV 0) := vl (wni_zero _ _ _)
                have k2 : ln ≤ 1000 := by omega
                clear l1 l0 l0n p1 p2 hlz
                go_wp2_with fail
                go_loopw [24, 26] (fun vv i wr => ∃ (i' : Nat) (v : Int), vv = .int .i64 v ∧ i = .int .i64 i' ∧ i' ≤ ln ∧ Vl (WnI (zl ln Z) kk i' RV v) ∧ Vl (Below W1.heap.size W1 wr)) (fun _ i _ => ln - (intOf i).toNat)
                case atStart => exact ⟨0, 0, rfl, rfl, by omega, HW0, HB4⟩
                case round =>
                  obtain ⟨i, v, rfl, rfl, hi, HWN, HBr⟩ := hrel
                  by_cases hlt : i < ln
                  · have hlt' : (i : Int) < (ln : Int) := by omega
                    obtain ⟨xi, hxx⟩ : ∃ xi, Z.getD i 0 = xi := ⟨_, rfl⟩
                    have HZI0 := vl hxx
                    clear hxx
                    go_wp2_with fail
                    go_loopw [27, 28, 29] (fun a b j wx => ∃ (j' a' b' : Nat), a = .int .i64 a' ∧ b = .int .i64 b' ∧ j = .int .i64 j' ∧ j' ≤ ln ∧ a' ≤ 1000 ∧ b' ≤ 1000 ∧ Vl (a' ≤ j' ∧ b' ≤ j') ∧ Vl (a' = cLt ((zl ln Z).take j') xi ∧ b' = cLe ((zl ln Z).take j') xi) ∧ Vl (Below W1.heap.size W1 wx)) (fun _ _ j _ => ln - (intOf j).toNat)
                    case atStart => exact ⟨0, 0, 0, rfl, rfl, rfl, by omega, by omega, by omega, vl ⟨by omega, by omega⟩, vl ⟨rfl, rfl⟩, HBr⟩
                    case round =>
                      obtain ⟨j, ca, cb, rfl, rfl, rfl, hj, ha, hb, HAB, HCC, HBx⟩ := hrel
                      by_cases hjl : j < ln
                      · have hjl' : (j : Int) < (ln : Int) := by omega
                        have hm1' := cLt_more (L := zl ln Z) xi (k := j) (by rw [zl_len]; exact hjl)
                        have hm2' := cLe_more (L := zl ln Z) xi (k := j) (by rw [zl_len]; exact hjl)
                        rw [HML.out j hjl, ← HCC.out.1] at hm1'
                        rw [HML.out j hjl, ← HCC.out.2] at hm2'
                        have HM1 := vl hm1'
                        have HM2 := vl hm2'
                        obtain ⟨hab1, hab2⟩ := HAB.out
                        rcases HAA.out.below HBx.out with h | ⟨g, off, rfl, q1, q2, q3⟩
                        · omega
                        have cj := q3 j hjl
                        have ci := q3 i hlt
                        rw [HZI0.out] at ci
                        unfold maxLen at q2
                        generalize Z.getD j 0 = xj at *
                        clear q3 hm1' hm2' HCC
                        by_cases h1 : xj < xi
                        · have h2 : xj ≤ xi := by omega
                          have e1 : ca + 1 = cLt ((zl ln Z).take (j + 1)) xi := by rw [HM1.out, if_pos h1]
                          have e2 : cb + 1 = cLe ((zl ln Z).take (j + 1)) xi := by rw [HM2.out, if_pos h2]
                          have HE12 := vl (And.intro e1 e2)
                          clear e1 e2 HM1 HM2
                          go_wp2_with fail
                          go_quiet (fail)
                          go_wp2_with fail
                          go_quiet (fail)
                          go_wp2_with fail
                          go_roundw
                          case rel => exact ⟨j + 1, ca + 1, cb + 1, by go_num, by go_num, by go_num, by omega, by omega, by omega, vl ⟨by omega, by omega⟩, HE12, vl (drewN_below HBx.out _)⟩
                          case measure => simp [intOf]; omega
                        · by_cases h2 : xj ≤ xi
                          · have e1 : ca = cLt ((zl ln Z).take (j + 1)) xi := by rw [HM1.out, if_neg h1]; rfl
                            have e2 : cb + 1 = cLe ((zl ln Z).take (j + 1)) xi := by rw [HM2.out, if_pos h2]
                            have HE12 := vl (And.intro e1 e2)
                            clear e1 e2 HM1 HM2
                            go_wp2_with fail
                            go_quiet (fail)
                            go_wp2_with fail
                            go_quiet (fail)
                            go_wp2_with fail
                            go_roundw
                            case rel => exact ⟨j + 1, ca, cb + 1, rfl, by go_num, by go_num, by omega, by omega, by omega, vl ⟨by omega, by omega⟩, HE12, vl (drewN_below HBx.out _)⟩
                            case measure => simp [intOf]; omega
                          · have e1 : ca = cLt ((zl ln Z).take (j + 1)) xi := by rw [HM1.out, if_neg h1]; rfl
                            have e2 : cb = cLe ((zl ln Z).take (j + 1)) xi := by rw [HM2.out, if_neg h2]; rfl
                            have HE12 := vl (And.intro e1 e2)
                            clear e1 e2 HM1 HM2
                            go_wp2_with fail
                            go_quiet (fail)
                            go_wp2_with fail
                            go_quiet (fail)
                            go_wp2_with fail
                            go_roundw
                            case rel => exact ⟨j + 1, ca, cb, rfl, rfl, by go_num, by omega, by omega, by omega, vl ⟨by omega, by omega⟩, HE12, vl (drewN_below HBx.out _)⟩
                            case measure => simp [intOf]; omega
                      · have hjl' : ¬ (j : Int) < (ln : Int) := by omega
                        have hje : j = ln := by omega
                        have hcc : ca = cLt (zl ln Z) xi ∧ cb = cLe (zl ln Z) xi := by
                          have h := HCC.out
                          rw [hje, List.take_of_length_le (by rw [zl_len]; exact Nat.le_refl _)] at h
                          exact h
                        have HKC : Vl (rkC (zl ln Z) kk ((zl ln Z).getD i 0) ↔ (ca < kk + 1 ∧ kk + 1 ≤ cb)) := vl (by rw [HML.out i hlt, HZI0.out, hcc.1, hcc.2]; exact Iff.rfl)
                        have HYES : Vl (ca < kk + 1 ∧ kk + 1 ≤ cb → WnI (zl ln Z) kk (i + 1) RV xi) := vl (fun h => by
                          have := wni_yes HWN.out (by rw [zl_len]; exact k1) HV1.out (HKC.out.2 h)
                          rw [HML.out i hlt, HZI0.out] at this
                          exact this)
                        have HNO : Vl (¬ (ca < kk + 1 ∧ kk + 1 ≤ cb) → WnI (zl ln Z) kk (i + 1) RV v) := vl (fun h => wni_no HWN.out (fun k => h (HKC.out.1 k)))
                        rcases HAA.out.below HBx.out with h | ⟨g, off, rfl, q1, q2, q3⟩
                        · omega
                        have ci := q3 i hlt
                        rw [HZI0.out] at ci
                        unfold maxLen at q2
                        clear q3 hje hcc HKC HCC HWN HAB HV1 HW0 HML hm hk1 hm0 hm1
                        by_cases c1 : ca < kk + 1
                        · have c1' : (ca : Int) < (kk : Int) + 1 := by omega
                          by_cases c2 : kk + 1 ≤ cb
                          · have c2' : (kk : Int) + 1 ≤ (cb : Int) := by omega
                            have HQ := vl (HYES.out ⟨c1, c2⟩)
                            clear HYES HNO
                            go_wp2_with fail
                            go_roundw
                            case rel => exact ⟨i + 1, xi, rfl, by go_num, by omega, HQ, HBx⟩
                            case measure => simp [intOf]; omega
                          · have c2' : ¬ (kk : Int) + 1 ≤ (cb : Int) := by omega
                            have HQ := vl (HNO.out (fun h => c2 h.2))
                            clear HYES HNO
                            go_wp2_with fail
                            go_roundw
                            case rel => exact ⟨i + 1, v, rfl, by go_num, by omega, HQ, HBx⟩
                            case measure => simp [intOf]; omega
                        · have c1' : ¬ (ca : Int) < (kk : Int) + 1 := by omega
                          have HQ := vl (HNO.out (fun h => c1 h.1))
                          clear HYES HNO
                          go_wp2_with fail
                          go_roundw
                          case rel => exact ⟨i + 1, v, rfl, by go_num, by omega, HQ, HBx⟩
                          case measure => simp [intOf]; omega
                  · have hlt' : ¬ (i : Int) < (ln : Int) := by omega
                    have hv : v = RV := by
                      have he : i = ln := by omega
                      have h := HWN.out
                      rw [he] at h
                      have h2 : WnI (zl ln Z) kk (zl ln Z).length RV v := by rw [zl_len]; exact h
                      exact wni_end h2 (by rw [zl_len]; exact k1) HV1.out
                    subst hv
                    clear HWN HML HW0 HV1 hm hk1 hm0 hm1
                    go_wp2_with fail
                    go_meet
                    exact ⟨rfl, rfl, HBr⟩
      case rest =>
      obtain ⟨rfl, rfl, HB5⟩ := hcut
      clear HBT HBF HB4 HRE HRV
      have HRKc := vl (HRK.out _ HB5.out)
      clear HRK
      go_wp2_with fail
      refine HRKc.out.mono ?_
      rintro _ w6 ⟨rfl, hb6⟩
      have HB6 := vl (HB5.out.trans (hb6.mono HB5.out.size))
      have HJ6 := vl (jerr_any RE w6 (HG.out.below HB6.out))
      clear hb6 HRKc HB5
      go_wp2_with fail
      refine HJ6.out.mono ?_
      rintro _ w7 ⟨rfl, hb7⟩
      have HB7 := vl (HB6.out.trans (hb7.mono HB6.out.size))
      clear hb7 HB6 HJ6
      go_upto_region 44 with fail
      obtain ⟨TE, hTE⟩ : ∃ e, topE L many = e := ⟨_, rfl⟩
      have HTE := vl hTE
      have HTP : Vl (∀ W, Below W1.heap.size W1 W → Calls Tryz.prog 14 #[.slice x len cap, .int .i64 many] W fun e w' => TopA L many e w' ∧ Below W.heap.size W w') := vl (fun W h => gtop_any HSF'.out HKF'.out x len cap L many W (HFA.out.below h) HSZ.out)
      clear hTE
      go_cut [207] from 202 to 207 (fun bv wx => ∃ bb : Bool, bv = .bool bb ∧ Vl (wx = w7) ∧ Vl (bb = true → ¬ (1 ≤ many ∧ many ≤ 100)) ∧ Vl (bb = false → 1 ≤ many ∧ many ≤ 100))
      case first =>
        by_cases p1 : many < 1
        · go_wp2
          go_meet
          exact ⟨true, rfl, rfl, vl (fun _ h => by omega), vl (fun h => by cases h)⟩
        · by_cases p2 : 100 < many
          · go_wp2
            go_meet
            exact ⟨true, rfl, rfl, vl (fun _ h => by omega), vl (fun h => by cases h)⟩
          · go_wp2
            go_meet
            exact ⟨false, rfl, rfl, vl (fun h => by cases h), vl (fun _ => ⟨by omega, by omega⟩)⟩
      case rest =>
      obtain ⟨bb, rfl, hwx, HBT, HBF⟩ := hcut
      rw [hwx.out]
      clear hwx
      go_upto_if 207 with fail
      go_cut [13] from 208 to 208 (fun ev wx => ev = .int .i64 TE ∧ Vl (Below W1.heap.size W1 wx) ∧ Vl (TE = 0 → 1 ≤ many ∧ many ≤ 100))
      case first =>
        cases bb with
        | true =>
          have hp := HBT.out rfl
          obtain rfl : TE = 1 := by rw [← HTE.out]; unfold topE; rw [if_neg hp]
          clear hp HBT HBF HTP HTE
          go_wp2_with fail
          go_meet
          exact ⟨rfl, HB7, vl (fun h => by omega)⟩
        | false =>
          have hp := HBF.out rfl
          have HPP := vl hp
          obtain rfl : TE = E := by rw [← HTE.out, ← HE.out]; unfold topE; rw [if_pos hp]
          clear hp HBT HBF HTP HTE
          go_wp2_with fail
          go_meet
          exact ⟨rfl, HB7, vl (fun _ => HPP.out)⟩
      case rest =>
      obtain ⟨rfl, HB8, HMN⟩ := hcut
      clear HBT HBF HB7
      have hx8 := HX.out _ HB8.out
      have HTPc := vl (HTP.out _ HB8.out)
      clear HTP
      go_wp2_with fail
      refine HTPc.out.mono ?_
      rintro _ w9 ⟨hT9, hb9⟩
      have HB9 := vl (HB8.out.trans (hb9.mono HB8.out.size))
      clear hb9 HTPc hx8 HB8
      have HJ9 := vl (jerr_any TE w9 (HG.out.below HB9.out))
      rcases hT9 with ⟨h0, rfl⟩ | ⟨h0, v, T, rfl, hTI, hTX⟩
      · rw [HTE.out] at h0 ⊢
        have h0' : (TE == 0) = false := by simpa using h0
        go_wp2_with fail
        refine HJ9.out.mono ?_
        rintro _ wa ⟨rfl, hba⟩
        have HBa := vl (HB9.out.trans (hba.mono HB9.out.size))
        clear hba HJ9 HB9
        go_wp2_with fail
        go_ret
        exact ⟨rfl, HEND.out _ HBa.out⟩
      · rw [HTE.out] at h0
        subst h0
        rw [gerr_zero] at HJ9
        obtain ⟨va, vc, rfl, hTC⟩ := tx_form hTX
        have hok := chkL_ok (show chkL L = 0 by
          have := HTE.out
          unfold topE at this
          rw [if_pos (HMN.out rfl)] at this
          exact this)
        have hlen : len ≤ 1000 := by rw [HLN.out] at hok; exact hok.1
        obtain ⟨m1, m2⟩ := HMN.out rfl
        obtain ⟨M, rfl⟩ := Int.eq_ofNat_of_zero_le (show 0 ≤ many by omega)
        rw [Int.toNat_natCast] at hTI
        have HTL := vl (top_len hTI)
        have hTN : T.length ≤ M := by have := top_len hTI; omega
        have HTI := vl hTI
        have HTC : Vl (∀ W, Below w9.heap.size w9 W → ∀ t, t < T.length → ∃ g, va = some ⟨g, 0, none⟩ ∧ T.length ≤ vc ∧ vc ≤ maxLen ∧ W.cell? ⟨g, t, none⟩ = some (.string ⟨(T.getD t []).toArray⟩)) := vl (fun W h t ht => by
          obtain ⟨g, h1, h2, h3, h4⟩ := hTC t ht
          exact ⟨g, h1, h2, h3, (h.cell (p := ⟨g, t, none⟩) (eblk_of_cell h4)).trans h4⟩)
        obtain ⟨tn, htn⟩ : ∃ tn, T.length = tn := ⟨_, rfl⟩
        rw [htn] at HTL hTN HTC ⊢
        have HTNN := vl htn
        clear htn
        have HCT : Vl (∀ W, Below W1.heap.size W1 W → ∀ p : ByteArray, Calls Tryz.prog 15 #[.string p, .pointer (some ⟨bx, 0, none⟩)] W fun e w' => e = .returned (.int .i64 (cnt (pthL L) p.data.toList : Nat)) ∧ Below W.heap.size W w') := vl (fun W h p => gcount_any bx x len cap L p W (HX.out W h) (HFA.out.below h) hlen)
        have HP9 := vl (Below.refl w9.heap.size w9)
        have HB9W := HB9
        clear hTX hTC hTI hok HTE HSF' HKF' HSZ HMN HAA HLZ HE
        go_wp2_with fail
        refine HJ9.out.mono ?_
        rintro _ wa ⟨rfl, hba⟩
        have HTa : Vl (Below w9.heap.size w9 wa) := vl hba
        clear hba HJ9
        have HUP : Vl (∀ W, Below w9.heap.size w9 W → Below W1.heap.size W1 W) := vl (fun W h => HB9W.out.trans (h.mono HB9W.out.size))
        clear HB9 HB9W HP9
        have hxa := HX.out _ (HUP.out _ HTa.out)
        have hmb : (M : Int) ≤ 100 := m2
        go_wp2_with fail
        go_loopw [35, 36] (fun n i wr => ∃ (k c : Nat), n = .int .i64 c ∧ i = .int .i64 k ∧ k ≤ len ∧ c ≤ 1000 ∧ Vl (c ≤ k) ∧ Vl (c = kinds (pthL (L.take k))) ∧ Vl (Below w9.heap.size w9 wr)) (fun _ i _ => len - (intOf i).toNat)
        case atStart => exact ⟨0, 0, rfl, rfl, by omega, by omega, vl (Nat.le_refl _), vl rfl, HTa⟩
        case round =>
          obtain ⟨k2, c, rfl, rfl, hk2, hc, HCK, HC, HBr⟩ := hrel
          clear hxa HTa
          have hx := HX.out _ (HUP.out _ HBr.out)
          by_cases hlt : k2 < len
          · have hlt' : (k2 : Int) < (len : Int) := by omega
            obtain ⟨pk, hpk⟩ : ∃ pk, (L.getD k2 etn).p = pk := ⟨_, rfl⟩
            have HPK := vl hpk
            have HKN : Vl (kinds (pthL (L.take (k2 + 1))) = c + if pk.data.toList ∈ pthL (L.take k2) then 0 else 1) := vl (by
              rw [pthL_more (by rw [HLN.out]; exact hlt), kinds_snoc, ← HC.out]
              have e : pth (L.getD k2 etn) = pk.data.toList := by unfold pth; rw [hpk]
              rw [e]
              by_cases hq : pk.data.toList ∈ pthL (L.take k2)
              · rw [if_pos hq, if_pos hq]
              · rw [if_neg hq, if_neg hq])
            have hck := HCK.out
            clear hpk HC HCK
            go_wp2_with fail
            go_loopw [37, 38] (fun f j wx => ∃ (b : Bool) (j' : Nat), f = .bool b ∧ j = .int .i64 j' ∧ j' ≤ k2 ∧ Vl (b = decide (pk.data.toList ∉ pthL (L.take j'))) ∧ Vl (Below w9.heap.size w9 wx)) (fun _ j _ => k2 - (intOf j).toNat)
            case atStart => exact ⟨true, 0, rfl, rfl, by omega, vl (by simp [pthL]), HBr⟩
            case round =>
              obtain ⟨b, j, rfl, rfl, hj, HBB, HBx⟩ := hrel
              have hxx := HX.out _ (HUP.out _ HBx.out)
              by_cases hjl : j < k2
              · have hjl' : (j : Int) < (k2 : Int) := by omega
                have hjn : (j : Int) < (len : Int) := by omega
                rcases HFA.out.below (HUP.out _ HBx.out) with ⟨h, _⟩ | ⟨g, off, rfl, hr2⟩
                · omega
                have c5j := hr2.h5 j (by omega)
                have c5k := hr2.h5 k2 hlt
                rw [HPK.out] at c5k
                have hcap := hr2.hcap
                have hmax := hr2.hmax
                unfold maxLen at hmax
                have HMJ : Vl (pk.data.toList ∈ pthL (L.take (j + 1)) ↔ pk.data.toList ∈ pthL (L.take j) ∨ pk.data.toList = (L.getD j etn).p.data.toList) := vl (by
                  rw [pthL_more (by rw [HLN.out]; omega), List.mem_append, List.mem_singleton]
                  exact Iff.rfl)
                clear hr2
                generalize (L.getD j etn).p = pj at *
                cases b with
                | false =>
                  have HB2 : Vl (false = decide (pk.data.toList ∉ pthL (L.take (j + 1)))) := vl (by
                    have h := of_decide_eq_false HBB.out.symm
                    exact (decide_eq_false (fun k => k (HMJ.out.2 (Or.inl (Classical.not_not.1 h))))).symm)
                  clear HMJ HBB
                  go_wp2_with fail
                  go_quiet (fail)
                  go_wp2_with fail
                  go_roundw
                  case rel => exact ⟨false, j + 1, rfl, by go_num, by omega, HB2, vl (drewN_below HBx.out _)⟩
                  case measure => simp [intOf]; omega
                | true =>
                  have h := of_decide_eq_true HBB.out.symm
                  by_cases q : pj.data.toList = pk.data.toList
                  · have q' : (pj.toList == pk.toList) = true := by rw [txt_eq]; exact decide_eq_true q
                    have HB2 : Vl (false = decide (pk.data.toList ∉ pthL (L.take (j + 1)))) := vl (decide_eq_false (fun k => k (HMJ.out.2 (Or.inr q.symm)))).symm
                    have q2 : pj.toList = pk.toList := by simpa using q'
                    clear HMJ HBB h q
                    go_wp2_with fail
                    go_quiet (fail)
                    go_wp2_with fail
                    go_roundw
                    case rel => exact ⟨false, j + 1, rfl, by go_num, by omega, HB2, vl (drewN_below HBx.out _)⟩
                    case measure => simp [intOf]; omega
                  · have q' : (pj.toList == pk.toList) = false := by rw [txt_eq]; exact decide_eq_false q
                    have HB2 : Vl (true = decide (pk.data.toList ∉ pthL (L.take (j + 1)))) := vl (decide_eq_true (show pk.data.toList ∉ pthL (L.take (j + 1)) from fun k => (HMJ.out.1 k).elim h (fun e => q e.symm))).symm
                    have q2 : ¬ pj.toList = pk.toList := by simpa using q'
                    clear HMJ HBB h q
                    go_wp2_with fail
                    go_quiet (fail)
                    go_wp2_with fail
                    go_roundw
                    case rel => exact ⟨true, j + 1, rfl, by go_num, by omega, HB2, vl (drewN_below HBx.out _)⟩
                    case measure => simp [intOf]; omega
              · have hjl' : ¬ (j : Int) < (k2 : Int) := by omega
                have hje : j = k2 := by omega
                have HB2 : Vl (b = decide (pk.data.toList ∉ pthL (L.take k2))) := vl (by rw [← hje]; exact HBB.out)
                clear hje HBB
                cases b with
                | false =>
                  have HQ : Vl (c = kinds (pthL (L.take (k2 + 1)))) := vl (by rw [HKN.out, if_pos (Classical.not_not.1 (of_decide_eq_false HB2.out.symm))]; rfl)
                  clear HKN HB2
                  go_wp2_with fail
                  go_roundw
                  case rel => exact ⟨k2 + 1, c, rfl, by go_num, by omega, hc, vl (by omega), HQ, HBx⟩
                  case measure => simp [intOf]; omega
                | true =>
                  have HQ : Vl (c + 1 = kinds (pthL (L.take (k2 + 1)))) := vl (by rw [HKN.out, if_neg (of_decide_eq_true HB2.out.symm)])
                  clear HKN HB2
                  go_wp2_with fail
                  go_roundw
                  case rel => exact ⟨k2 + 1, c + 1, by go_num, by go_num, by omega, by omega, vl (by omega), HQ, HBx⟩
                  case measure => simp [intOf]; omega
          · have hlt' : ¬ (k2 : Int) < (len : Int) := by omega
            have hKC : c = kinds (pthL L) := by
              have h := HC.out
              have hke : k2 = L.length := by rw [HLN.out]; omega
              rw [hke, pthL_all] at h
              exact h
            have hTM : tn = min M c := by rw [hKC]; exact HTL.out
            clear HC HCK hKC HTL
            go_upto_region 62 with fail
            go_cut [260] from 258 to 260 (fun bv wx => ∃ bb : Bool, bv = .bool bb ∧ Vl (wx = wr) ∧ Vl (bb = true → tn = M) ∧ Vl (bb = false → tn = c))
            case first =>
              by_cases hMc : M < c
              · have hMc' : (M : Int) < (c : Int) := by omega
                have e : tn = M := by omega
                have HEQ := vl e
                clear hTM e
                go_wp2
                go_meet
                exact ⟨true, rfl, rfl, vl (fun _ => HEQ.out), vl (fun h => by cases h)⟩
              · have hMc' : ¬ (M : Int) < (c : Int) := by omega
                have e : tn = c := by omega
                have HEQ := vl e
                clear hTM e
                go_wp2
                go_meet
                exact ⟨false, rfl, rfl, vl (fun h => by cases h), vl (fun _ => HEQ.out)⟩
            case rest =>
            obtain ⟨bb, rfl, hwx, HBT, HBF⟩ := hcut
            rw [hwx.out]
            clear hwx hTM
            go_upto_if 260 with fail
            go_cut [35] from 261 to 261 (fun nv wx => nv = .int .i64 (tn : Nat) ∧ Vl (wx = wr))
            case first =>
              cases bb with
              | true =>
                have e := HBT.out rfl
                have HEQ := vl e
                clear HBT HBF e
                go_wp2_with fail
                go_meet
                exact ⟨by rw [HEQ.out], rfl⟩
              | false =>
                have e := HBF.out rfl
                have HEQ := vl e
                clear HBT HBF e
                go_wp2_with fail
                go_meet
                exact ⟨by rw [HEQ.out], rfl⟩
            case rest =>
            obtain ⟨rfl, hwx⟩ := hcut
            rw [hwx.out]
            clear hwx HBT HBF
            have HLL := vl hlt
            clear hlt' hlt hx hk2
            go_wp2_with fail
            go_loopw [39] (fun i wx => ∃ k : Nat, i = .int .i64 k ∧ k ≤ tn ∧ Vl (Below w9.heap.size w9 wx)) (fun i _ => tn - (intOf i).toNat)
            case atStart => exact ⟨0, rfl, by omega, HBr⟩
            case round =>
              obtain ⟨i, rfl, hi, HBi⟩ := hrel
              have hxi := HX.out _ (HUP.out _ HBi.out)
              by_cases hlt : i < tn
              · have hlt' : (i : Int) < (tn : Int) := by omega
                obtain ⟨g, rfl, t1, t2, ci⟩ := HTC.out _ HBi.out i hlt
                unfold maxLen at t2
                obtain ⟨pi, hpi⟩ : ∃ p : ByteArray, (⟨(T.getD i []).toArray⟩ : ByteArray) = p := ⟨_, rfl⟩
                have HPI : Vl (pi.data.toList = T.getD i []) := vl (by rw [← hpi])
                have HPI2 := HPI
                rw [hpi] at ci
                clear hpi
                have HC1 := HCT.out _ (HUP.out _ HBi.out) pi
                have hc1 : 1 ≤ cnt (pthL L) pi.data.toList := by rw [HPI.out]; exact top_cnt HTI.out (by rw [HTNN.out]; exact hlt)
                obtain ⟨n1, hn1⟩ : ∃ n, cnt (pthL L) pi.data.toList = n := ⟨_, rfl⟩
                have HN1 := vl hn1
                rw [hn1] at HC1 hc1
                have HC1' := vl HC1
                have hc1' : ¬ (n1 : Int) < 1 := by omega
                clear hn1 HC1
                go_wp2_with fail
                refine HC1'.out.mono ?_
                rintro _ wy ⟨rfl, hby⟩
                have HBy : Vl (Below w9.heap.size w9 wy) := vl (HBi.out.trans (hby.mono HBi.out.size))
                clear hby HC1' ci hxi
                have hxy := HX.out _ (HUP.out _ HBy.out)
                by_cases hi0 : 0 < i
                · have hi0' : (0 : Int) < (i : Int) := by omega
                  obtain ⟨z, hz⟩ : ∃ z, i = z + 1 := ⟨i - 1, by omega⟩
                  have hzi : (i : Int) - 1 = (z : Int) := by omega
                  have hzt : (z : Int) < (tn : Int) := by omega
                  obtain ⟨g', hg', _, _, cz⟩ := HTC.out _ HBy.out z (by omega)
                  obtain rfl : g = g' := by simpa using hg'
                  obtain ⟨g2, hg2, _, _, ci⟩ := HTC.out _ HBy.out i hlt
                  obtain rfl : g = g2 := by simpa using hg2
                  obtain ⟨pz, hpz⟩ : ∃ p : ByteArray, (⟨(T.getD z []).toArray⟩ : ByteArray) = p := ⟨_, rfl⟩
                  have HPZ : Vl (pz.data.toList = T.getD z []) := vl (by rw [← hpz])
                  rw [hpz] at cz
                  have HC2 := HCT.out _ (HUP.out _ HBy.out) pz
                  have hadj : topL (cnt (pthL L)) pz.data.toList pi.data.toList := by
                    rw [HPZ.out, HPI.out, hz]
                    exact top_adj HTI.out (by rw [HTNN.out]; omega)
                  obtain ⟨n2, hn2⟩ : ∃ n, cnt (pthL L) pz.data.toList = n := ⟨_, rfl⟩
                  unfold topL at hadj
                  rw [hn2, HN1.out] at hadj
                  rw [hn2] at HC2
                  have HC2' := vl HC2
                  have HAD := vl hadj
                  clear hn2 HC2 hadj HPZ HPI HN1 hpz hg' hg2 hz
                  go_wp2_with fail
                  refine HC2'.out.mono ?_
                  rintro _ wz ⟨rfl, hbz⟩
                  have HBz : Vl (Below w9.heap.size w9 wz) := vl (HBy.out.trans (hbz.mono HBy.out.size))
                  have czz := (hbz.cell (p := ⟨g, z, none⟩) (eblk_of_cell cz)).trans cz
                  have ciz := (hbz.cell (p := ⟨g, i, none⟩) (eblk_of_cell ci)).trans ci
                  obtain ⟨pj, hpj⟩ : ∃ p : ByteArray, (⟨(T.getD i []).toArray⟩ : ByteArray) = p := ⟨_, rfl⟩
                  have HPJ : Vl (pj = pi) := vl (by
                    rw [← hpj]
                    obtain ⟨⟨l⟩⟩ := pi
                    have h := HPI2.out
                    simp only at h
                    rw [← h])
                  rw [hpj] at ciz
                  rw [HPJ.out] at ciz
                  clear hpj HPJ hbz cz ci hxy HC2' HBy
                  rcases HAD.out with h12 | ⟨h12, hlx⟩
                  · have g1 : ¬ (n2 : Int) < (n1 : Int) := by omega
                    have g2 : ((n2 : Int) == (n1 : Int)) = false := by simp; omega
                    have g3 : ¬ (n2 : Int) = (n1 : Int) := by omega
                    have g4 : decide ((n2 : Int) < (n1 : Int)) = false := decide_eq_false g1
                    have g5 : ¬ n2 < n1 := by omega
                    have g6 : ¬ n2 = n1 := by omega
                    have g7 : n1 ≤ n2 := by omega
                    have g8 : (n1 : Int) ≤ (n2 : Int) := by omega
                    clear HAD h12
                    go_wp2_with fail
                    go_quiet (fail)
                    go_wp2_with fail
                    go_roundw
                    case rel => exact ⟨i + 1, by go_num, by omega, vl (drewN_below HBz.out _)⟩
                    case measure => simp [intOf]; omega
                  · subst h12
                    have g1 : Op.bytesLess pz.toList pi.toList = true := by rw [less_is]; exact decide_eq_true hlx
                    clear HAD hlx
                    go_wp2_with fail
                    go_quiet (fail)
                    go_wp2_with fail
                    go_roundw
                    case rel => exact ⟨i + 1, by go_num, by omega, vl (drewN_below HBz.out _)⟩
                    case measure => simp [intOf]; omega
                · have hi0' : ¬ (0 : Int) < (i : Int) := by omega
                  go_wp2_with fail
                  go_roundw
                  case rel => exact ⟨i + 1, by go_num, by omega, HBy⟩
                  case measure => simp [intOf]; omega
              · have hlt' : ¬ (i : Int) < (tn : Int) := by omega
                clear hi hlt hxi
                go_wp2_with fail
                go_loopw [42] (fun i wx => ∃ k : Nat, i = .int .i64 k ∧ k ≤ len ∧ Vl (Below w9.heap.size w9 wx)) (fun i _ => len - (intOf i).toNat)
                case atStart => exact ⟨0, rfl, by omega, HBi⟩
                case round =>
                  obtain ⟨q, rfl, hq, HBq⟩ := hrel
                  have hxq := HX.out _ (HUP.out _ HBq.out)
                  by_cases hlq : q < len
                  · have hlq' : (q : Int) < (len : Int) := by omega
                    by_cases ht0 : 0 < tn
                    · have ht0' : (0 : Int) < (tn : Int) := by omega
                      obtain ⟨pm, hpm⟩ : ∃ p, (L.getD q etn).p = p := ⟨_, rfl⟩
                      have HPM := vl hpm
                      clear hpm
                      go_wp2_with fail
                      go_loopw [43, 44] (fun b j wx => ∃ (b' : Bool) (j' : Nat), b = .bool b' ∧ j = .int .i64 j' ∧ j' ≤ tn ∧ Vl (b' = decide (pm.data.toList ∈ T.take j')) ∧ Vl (Below w9.heap.size w9 wx)) (fun _ j _ => tn - (intOf j).toNat)
                      case atStart => exact ⟨false, 0, rfl, rfl, by omega, vl (by simp), HBq⟩
                      case round =>
                        obtain ⟨b, j, rfl, rfl, hj, HBB, HBx⟩ := hrel
                        have hxx := HX.out _ (HUP.out _ HBx.out)
                        rcases HFA.out.below (HUP.out _ HBx.out) with ⟨h, _⟩ | ⟨gl, off, rfl, hr2⟩
                        · omega
                        have c5 := hr2.h5 q hlq
                        rw [HPM.out] at c5
                        have hcap := hr2.hcap
                        have hmax := hr2.hmax
                        unfold maxLen at hmax
                        clear hr2
                        by_cases hjl : j < tn
                        · have hjl' : (j : Int) < (tn : Int) := by omega
                          obtain ⟨g, rfl, t1, t2, cj⟩ := HTC.out _ HBx.out j hjl
                          unfold maxLen at t2
                          obtain ⟨pj, hpj⟩ : ∃ p : ByteArray, (⟨(T.getD j []).toArray⟩ : ByteArray) = p := ⟨_, rfl⟩
                          have HPJ : Vl (pj.data.toList = T.getD j []) := vl (by rw [← hpj])
                          rw [hpj] at cj
                          have HMJ : Vl (pm.data.toList ∈ T.take (j + 1) ↔ pm.data.toList ∈ T.take j ∨ pm.data.toList = pj.data.toList) := vl (by
                            rw [List.take_add_one, List.getElem?_eq_getElem (show j < T.length by rw [HTNN.out]; exact hjl), List.mem_append, HPJ.out]
                            simp [List.getD, List.getElem?_eq_getElem (show j < T.length by rw [HTNN.out]; exact hjl)])
                          clear hpj HPJ
                          cases b with
                          | true =>
                            have h := of_decide_eq_true HBB.out.symm
                            have HB2 : Vl (true = decide (pm.data.toList ∈ T.take (j + 1))) := vl (decide_eq_true (HMJ.out.2 (Or.inl h))).symm
                            clear HMJ HBB h
                            go_wp2_with fail
                            go_quiet (fail)
                            go_wp2_with fail
                            go_roundw
                            case rel => exact ⟨true, j + 1, rfl, by go_num, by omega, HB2, vl (drewN_below HBx.out _)⟩
                            case measure => simp [intOf]; omega
                          | false =>
                            have h := of_decide_eq_false HBB.out.symm
                            by_cases r : pj.data.toList = pm.data.toList
                            · have r' : (pj.toList == pm.toList) = true := by rw [txt_eq]; exact decide_eq_true r
                              have r2 : pj.toList = pm.toList := by simpa using r'
                              have HB2 : Vl (true = decide (pm.data.toList ∈ T.take (j + 1))) := vl (decide_eq_true (HMJ.out.2 (Or.inr r.symm))).symm
                              clear HMJ HBB h r
                              go_wp2_with fail
                              go_quiet (fail)
                              go_wp2_with fail
                              go_roundw
                              case rel => exact ⟨true, j + 1, rfl, by go_num, by omega, HB2, vl (drewN_below HBx.out _)⟩
                              case measure => simp [intOf]; omega
                            · have r' : (pj.toList == pm.toList) = false := by rw [txt_eq]; exact decide_eq_false r
                              have r2 : ¬ pj.toList = pm.toList := by simpa using r'
                              have HB2 : Vl (false = decide (pm.data.toList ∈ T.take (j + 1))) := vl (decide_eq_false (fun k => (HMJ.out.1 k).elim h (fun e => r e.symm))).symm
                              clear HMJ HBB h r
                              go_wp2_with fail
                              go_quiet (fail)
                              go_wp2_with fail
                              go_roundw
                              case rel => exact ⟨false, j + 1, rfl, by go_num, by omega, HB2, vl (drewN_below HBx.out _)⟩
                              case measure => simp [intOf]; omega
                        · have hjl' : ¬ (j : Int) < (tn : Int) := by omega
                          have HIN : Vl (b = decide (pm.data.toList ∈ T)) := vl (by
                            have h := HBB.out
                            rw [List.take_of_length_le (by rw [HTNN.out]; omega)] at h
                            exact h)
                          obtain ⟨n1, hn1⟩ : ∃ n, cnt (pthL L) pm.data.toList = n := ⟨_, rfl⟩
                          have HN1 := vl hn1
                          have HC1 := vl (HCT.out _ (HUP.out _ HBx.out) pm)
                          rw [hn1] at HC1
                          clear hn1 HBB hj hjl
                          go_wp2_with fail
                          refine HC1.out.mono ?_
                          rintro _ wy ⟨rfl, hby⟩
                          have HBy : Vl (Below w9.heap.size w9 wy) := vl (HBx.out.trans (hby.mono HBx.out.size))
                          clear HC1 hby hxx c5
                          obtain ⟨z, hz⟩ : ∃ z, tn = z + 1 := ⟨tn - 1, by omega⟩
                          have hzi : (tn : Int) - 1 = (z : Int) := by omega
                          have hzt : (z : Int) < (tn : Int) := by omega
                          obtain ⟨g, rfl, t1, t2, cz⟩ := HTC.out _ HBy.out z (by omega)
                          unfold maxLen at t2
                          obtain ⟨pz, hpz⟩ : ∃ p : ByteArray, (⟨(T.getD z []).toArray⟩ : ByteArray) = p := ⟨_, rfl⟩
                          have HPZ : Vl (pz.data.toList = T.getD z []) := vl (by rw [← hpz])
                          rw [hpz] at cz
                          obtain ⟨n2, hn2⟩ : ∃ n, cnt (pthL L) pz.data.toList = n := ⟨_, rfl⟩
                          have HC2 := vl (HCT.out _ (HUP.out _ HBy.out) pz)
                          rw [hn2] at HC2
                          have HLF : Vl (b = false → n1 < n2 ∨ (n2 = n1 ∧ pz.data.toList < pm.data.toList)) := vl (fun hb => by
                            have hni : pm.data.toList ∉ T := of_decide_eq_false (by rw [← HIN.out]; exact hb)
                            have hin : pm.data.toList ∈ pthL L := by
                              rw [← HPM.out]
                              refine List.mem_map.2 ⟨L.getD q etn, ?_, rfl⟩
                              have hqL : q < L.length := by rw [HLN.out]; exact hlq
                              simp only [List.getD, List.getElem?_eq_getElem hqL, Option.getD_some]
                              exact List.getElem_mem _
                            have h := top_left HTI.out (by rw [HTNN.out]; exact ht0) hin hni
                            have hz2 : T.length - 1 = z := by rw [HTNN.out]; omega
                            rw [hz2, ← HPZ.out] at h
                            unfold topL at h
                            rw [hn2, HN1.out] at h
                            exact h)
                          clear hpz hn2 HPZ HIN HN1 hz
                          go_wp2_with fail
                          refine HC2.out.mono ?_
                          rintro _ wz ⟨rfl, hbz⟩
                          have HBz : Vl (Below w9.heap.size w9 wz) := vl (HBy.out.trans (hbz.mono HBy.out.size))
                          clear HC2 hbz cz
                          have hxz := HX.out _ (HUP.out _ HBz.out)
                          rcases HFA.out.below (HUP.out _ HBz.out) with ⟨h, _⟩ | ⟨gl2, off2, he, hr2⟩
                          · omega
                          obtain ⟨rfl, rfl⟩ : gl = gl2 ∧ off = off2 := by simpa using he
                          have c5 := hr2.h5 q hlq
                          rw [HPM.out] at c5
                          clear hr2 he HBy
                          cases b with
                          | true =>
                            clear HLF
                            go_wp2_with fail
                            go_roundw
                            case rel => exact ⟨q + 1, by go_num, by omega, HBz⟩
                            case measure => simp [intOf]; omega
                          | false =>
                            rcases HLF.out rfl with h12 | ⟨h12, hlx⟩
                            · have g1 : ¬ (n2 : Int) < (n1 : Int) := by omega
                              have g2 : ((n1 : Int) == (n2 : Int)) = false := by simp; omega
                              have g3 : ¬ (n1 : Int) = (n2 : Int) := by omega
                              clear HLF h12
                              go_wp2_with fail
                              go_roundw
                              case rel => exact ⟨q + 1, by go_num, by omega, HBz⟩
                              case measure => simp [intOf]; omega
                            · subst h12
                              have g1 : Op.bytesLess pm.toList pz.toList = false := by rw [less_is]; exact decide_eq_false (fun h => List.lt_irrefl _ (List.lt_trans h hlx))
                              clear HLF hlx
                              go_wp2_with fail
                              go_roundw
                              case rel => exact ⟨q + 1, by go_num, by omega, HBz⟩
                              case measure => simp [intOf]; omega
                    · have ht0' : ¬ (0 : Int) < (tn : Int) := by omega
                      go_wp2_with fail
                      go_ret
                      exact ⟨rfl, HEND.out _ (HUP.out _ HBq.out)⟩
                  · have hlq' : ¬ (q : Int) < (len : Int) := by omega
                    go_wp2_with fail
                    go_ret
                    exact ⟨rfl, HEND.out _ (HUP.out _ HBq.out)⟩
end Go.Proofs.YteohgkgahkkjlaaGreatDoor
