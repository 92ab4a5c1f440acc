/-
  ORDER: the library's merge in place. No claim by itself.
-/
import Derived.Deep.DeepCutAuto
import Derived.Deep.CutBlock
import Derived.Test.YtibipnipeaeonaaGreatDoorMW
namespace Go.Proofs.YtibipnipeaeonaaGreatDoor
open Go Go.RowKit
set_option maxRecDepth 100000
/-- What a merge in place of two rows that stand side by side owes. -/
def SymSaid (w0 : World) (g off len cap N : Nat) : Prop := ∀ (A X Y B : List FB) (w : World), X.length + Y.length ≤ N → X ≠ [] → Y ≠ [] → Srt nmK X → Srt nmK Y → SW w0 g off len cap (A ++ X ++ Y ++ B) w →
  Calls Tryz.prog 82 #[.slice (some ⟨g, off, none⟩) len cap, .int .i64 (A.length : Nat), .int .i64 ((A.length + X.length : Nat) : Int), .int .i64 ((A.length + X.length + Y.length : Nat) : Int), .func (.func 51) #[] #[]] w fun e w' => (∃ v, e = .returned v) ∧ ∃ Z, SW w0 g off len cap (A ++ Z ++ B) w' ∧ Mrg nmK X Y Z
set_option maxHeartbeats 4000000 in
theorem zsym_left (w0 : World) (g off len cap : Nat) (A Y B : List FB) (x : FB) (w : World) (hlen : len ≤ 4398046511104) (hY0 : Y ≠ []) (hY : Srt nmK Y) (h : SW w0 g off len cap (A ++ [x] ++ Y ++ B) w) :
    Calls Tryz.prog 82 #[.slice (some ⟨g, off, none⟩) len cap, .int .i64 (A.length : Nat), .int .i64 ((A.length + 1 : Nat) : Int), .int .i64 ((A.length + 1 + Y.length : Nat) : Int), .func (.func 51) #[] #[]] w fun e w' => (∃ v, e = .returned v) ∧ ∃ Z, SW w0 g off len cap (A ++ Z ++ B) w' ∧ Mrg nmK [x] Y Z := by
  have H := vl h
  have hl := h.row.hlen
  have hcap := h.row.hcap
  have HZ := vl zless_any
  have HY := vl hY
  have HMON := vl (p1_mono (A := A) (B := B) (x := x) hY)
  have HEND := vl (fun i => p1_end (A := A) (B := B) (x := x) (i := i) hY)
  obtain ⟨D, hD⟩ : ∃ D, A ++ [x] ++ Y ++ B = D := ⟨_, rfl⟩
  rw [hD] at H HMON hl
  simp only [hD] at HEND
  have hln : D.length = A.length + 1 + Y.length + B.length := by rw [← hD]; simp; omega
  obtain ⟨a, ha⟩ : ∃ a, A.length = a := ⟨_, rfl⟩
  obtain ⟨b, hb⟩ : ∃ b, a + 1 + Y.length = b := ⟨_, rfl⟩
  rw [ha] at HMON hln ⊢
  simp only [ha] at HEND
  rw [hb] at HMON hln ⊢
  simp only [hb] at HEND
  have hy0 : 0 < Y.length := List.length_pos_iff.2 hY0
  have hab : a + 1 < b := by omega
  have hbl : b ≤ len := by omega
  have HD := vl hD
  have HA := vl ha
  have HBY := vl hb
  have e1 : ((a + 1 : Nat) : Int) = (a : Int) + 1 := by omega
  rw [e1]
  have e2 : (a : Int) + 1 - (a : Int) = 1 := by omega
  clear h hl hD hln ha hb hY hY0 hy0 e1
  go_enter Tryz.func82, Tryz.ntmps82
  go_wp2_with fail
  go_loopw [10, 11, 12] (fun i j _u wr => ∃ (s t : Nat), i = .int .i64 s ∧ j = .int .i64 t ∧ s ≤ t ∧ t ≤ b ∧ a + 1 ≤ s ∧ Vl (Bs (P1 D a) (a + 1) b s t) ∧ Vl (SW w0 g off len cap D wr)) (fun i j _ _ => (intOf j).toNat - (intOf i).toNat)
  case atStart => exact ⟨a + 1, b, by go_num, rfl, by omega, Nat.le_refl _, Nat.le_refl _, Bs.start (by omega), H⟩
  case round =>
    obtain ⟨s, t, rfl, rfl, hst, htb, has, HS, HW⟩ := hrel
    by_cases hlt : s < t
    · have hlt' : (s : Int) < (t : Int) := by omega
      obtain ⟨c, hc⟩ : ∃ c, c = (s + t) / 2 := ⟨_, rfl⟩
      have hmid : ((s : Int) + (t : Int)) / 2 = (c : Int) := by omega
      have hc1 : s ≤ c := by omega
      have hc2 : c < t := by omega
      have hc3 : (0 : Int) ≤ (c : Int) := by omega
      have hc4 : (c : Int) < (len : Int) := by omega
      have hc5 : (a : Int) < (len : Int) := by omega
      have hc6 : c < len := by omega
      have hc7 : a < len := by omega
      clear hc
      obtain ⟨⟨p1, p2⟩, hp⟩ : ∃ p, D.getD c fnone = p := ⟨_, rfl⟩
      obtain ⟨⟨q1, q2⟩, hq⟩ : ∃ q, D.getD a fnone = q := ⟨_, rfl⟩
      obtain ⟨c1, c2, c3, c4⟩ : FC2 wr g off c a p1 p2 q1 q2 := HW.out.fc2 hc6 hc7 hp hq
      have HFC := vl (show FC2 wr.drew g off c a p1 p2 q1 q2 from ⟨c1, c2, c3, c4⟩)
      have HC := vl (fun W => HZ.out p1 p2 q1 q2 W)
      obtain ⟨r, hr⟩ : ∃ r, lexLt (unums p1) (unums q1) = r := ⟨_, rfl⟩
      rw [hr] at HC
      have HUP := vl (fun hh : r = true => HS.out.up HMON.out hc1 hc2 (by unfold P1; rw [hp, hq]; show ¬ lexLt (unums p1) (unums q1) = false; rw [hr, hh]; exact Bool.noConfusion))
      have HDN := vl (fun hh : r = false => HS.out.down HMON.out hc1 hc2 (by unfold P1; rw [hp, hq]; exact hr.trans hh))
      clear hp hq hr HS
      go_wp2_with fail
      go_region_held3 (fun w' => w'.cell? ⟨g, off + c * 2, none⟩ = some (.string p1) ∧ w'.cell? ⟨g, off + c * 2 + 1, none⟩ = some (.string p2) ∧ w'.cell? ⟨g, off + a * 2, none⟩ = some (.string q1) ∧ w'.cell? ⟨g, off + a * 2 + 1, none⟩ = some (.string q2))
        (first | go_keep | (with_reducible exact (HFC.out.below hb2)))
        ((go_at_call 51; refine (HC.out _).mono ?_; rintro e w2 ⟨⟨kk, rfl, hkk⟩, hb2⟩))
      have HW3 : Vl (SW w0 g off len cap D w2) := (HW.out.drew).below hb2
      clear hb2 HFC hkk HC c1 c2 c3 c4 HW hmid
      cases r with
      | true =>
        have HU := vl (HUP.out rfl)
        clear HUP HDN
        go_wp2_with fail
        go_roundw
        case rel => exact ⟨c + 1, t, by go_num, rfl, by omega, htb, by omega, HU, HW3⟩
        case measure => simp [intOf]; omega
      | false =>
        have HU := vl (HDN.out rfl)
        clear HUP HDN
        go_wp2_with fail
        go_roundw
        case rel => exact ⟨s, c, rfl, by go_num, by omega, by omega, by omega, HU, HW3⟩
        case measure => simp [intOf]; omega
    · have hst' : s = t := by omega
      subst hst'
      obtain ⟨Y1, Y2, eY, hi, hM⟩ := HEND.out s HS.out
      obtain ⟨e, rfl⟩ : ∃ e, s = e + 1 := ⟨s - 1, by omega⟩
      have he : e = a + Y1.length := by omega
      have HM := vl hM
      have H0 : Vl (Sh A Y1 x (Y2 ++ B) a D) := vl ⟨[], Y1, rfl, by rw [← HD.out, eY]; simp, by simp [HA.out]⟩
      have HE := vl he
      have hwp : IntKind.i64.wrap (e : Int) = (e : Int) := by rw [IntKind.wrap_i64]; omega
      have hae : a ≤ e := by omega
      have HEE : Vl (∀ k E, Sh A Y1 x (Y2 ++ B) k E → k = e → E = A ++ (Y1 ++ [x] ++ Y2) ++ B) := vl (fun k E hh hk => by
        rw [hh.last (by rw [HA.out]; omega)]
        simp)
      have HUPP : Vl (∀ k E, Sh A Y1 x (Y2 ++ B) k E → k < e → Sh A Y1 x (Y2 ++ B) (k + 1) (swapL fnone E k (k + 1))) := vl (fun k E hh hk => hh.up (by rw [HA.out]; omega))
      clear hM hi he eY hlt HS HMON HEND
      go_wp2_with fail
      go_loopw [13] (fun kv wr2 => ∃ (k : Nat) (E : List FB), kv = .int .i64 k ∧ a ≤ k ∧ k ≤ e ∧ Vl (Sh A Y1 x (Y2 ++ B) k E) ∧ Vl (SW w0 g off len cap E wr2)) (fun kv _ => e - (intOf kv).toNat)
      case atStart => exact ⟨a, D, rfl, Nat.le_refl _, hae, H0, HW⟩
      case round =>
        obtain ⟨k, E, rfl, hak, hke, HSH, HWE⟩ := hrel
        by_cases hlt : k < e
        · have hlt' : (k : Int) < (e : Int) := by omega
          have b3 : k < len := by omega
          have b4 : k + 1 < len := by omega
          have b5 : (k : Int) < (len : Int) := by omega
          have b6 : (k : Int) + 1 < (len : Int) := by omega
          have b7 : (0 : Int) ≤ (k : Int) + 1 := by omega
          obtain ⟨⟨p1, p2⟩, hp⟩ : ∃ p, E.getD k fnone = p := ⟨_, rfl⟩
          obtain ⟨⟨q1, q2⟩, hq⟩ : ∃ q, E.getD (k + 1) fnone = q := ⟨_, rfl⟩
          obtain ⟨c1, c2, c3, c4⟩ : FC2 wr g off k (k + 1) p1 p2 q1 q2 := HWE.out.fc2 b3 b4 hp hq
          have f1 := HWE.out.fro
          obtain ⟨W4, hW4⟩ : ∃ W4, W4 = ((((wr.setCell ⟨g, off + k * 2, none⟩ (.string q1)).setCell ⟨g, off + k * 2 + 1, none⟩ (.string q2)).setCell ⟨g, off + (k + 1) * 2, none⟩ (.string p1)).setCell ⟨g, off + (k + 1) * 2 + 1, none⟩ (.string p2)).drew := ⟨_, rfl⟩
          have HW4 : Vl (SW w0 g off len cap (swapL fnone E k (k + 1)) W4) := by
            rw [hW4]
            exact HWE.out.swap k (k + 1) b3 b4 hp hq
          have HWD := vl hW4
          have HS4 := vl (HUPP.out k E HSH.out hlt)
          clear hW4 hp hq HSH HWE
          go_wp2_with fail
          go_region
          rw [← HWD.out]
          clear HWD c1 c2 c3 c4 f1
          go_wp2_with fail
          go_roundw
          case rel => exact ⟨k + 1, _, by go_num, by omega, by omega, HS4, HW4⟩
          case measure => simp [intOf]; omega
        · have hke' : k = e := by omega
          have HF := vl (HEE.out k E HSH.out hke' ▸ HWE.out)
          have hlt' : ¬ (k : Int) < (e : Int) := by omega
          clear hke'
          go_wp2_with fail
          refine bodyPost_ret (results_none rfl _ _ _) rfl ?_
          exact ⟨⟨_, rfl⟩, _, by simpa using HF.out, HM.out⟩
set_option maxHeartbeats 4000000 in
theorem zsym_right (w0 : World) (g off len cap : Nat) (A X B : List FB) (y : FB) (w : World) (hlen : len ≤ 4398046511104) (hX0 : 2 ≤ X.length) (hX : Srt nmK X) (h : SW w0 g off len cap (A ++ X ++ [y] ++ B) w) :
    Calls Tryz.prog 82 #[.slice (some ⟨g, off, none⟩) len cap, .int .i64 (A.length : Nat), .int .i64 ((A.length + X.length : Nat) : Int), .int .i64 ((A.length + X.length + 1 : Nat) : Int), .func (.func 51) #[] #[]] w fun e w' => (∃ v, e = .returned v) ∧ ∃ Z, SW w0 g off len cap (A ++ Z ++ B) w' ∧ Mrg nmK X [y] Z := by
  have H := vl h
  have hl := h.row.hlen
  have hcap := h.row.hcap
  have HZ := vl zless_any
  have HX := vl hX
  have HMON := vl (p2_mono (A := A) (B := B) (y := y) hX)
  have HEND := vl (fun i => p2_end (A := A) (B := B) (y := y) (i := i) hX)
  obtain ⟨D, hD⟩ : ∃ D, A ++ X ++ [y] ++ B = D := ⟨_, rfl⟩
  rw [hD] at H HMON hl
  simp only [hD] at HEND
  have hln : D.length = A.length + X.length + 1 + B.length := by rw [← hD]; simp; omega
  obtain ⟨a, ha⟩ : ∃ a, A.length = a := ⟨_, rfl⟩
  obtain ⟨m, hm⟩ : ∃ m, a + X.length = m := ⟨_, rfl⟩
  rw [ha] at HMON hln ⊢
  simp only [ha] at HEND
  rw [hm] at HMON hln ⊢
  simp only [hm] at HEND
  have ham : a + 1 < m := by omega
  have hml : m < len := by omega
  have HD := vl hD
  have HA := vl ha
  have HMX := vl hm
  have e1 : ((m + 1 : Nat) : Int) = (m : Int) + 1 := by omega
  rw [e1]
  have e2 : (m : Int) + 1 - (m : Int) = 1 := by omega
  have e3 : ¬ (m : Int) - (a : Int) = 1 := by omega
  have e4 : ((m : Int) - (a : Int) == 1) = false := by simpa using e3
  clear h hl hD hln ha hm hX hX0 e1
  go_enter Tryz.func82, Tryz.ntmps82
  go_wp2_with fail
  go_loopw [14, 15, 16] (fun i j _u wr => ∃ (s t : Nat), i = .int .i64 s ∧ j = .int .i64 t ∧ s ≤ t ∧ t ≤ m ∧ a ≤ s ∧ Vl (Bs (P2 D m) a m s t) ∧ Vl (SW w0 g off len cap D wr)) (fun i j _ _ => (intOf j).toNat - (intOf i).toNat)
  case atStart => exact ⟨a, m, rfl, rfl, by omega, Nat.le_refl _, Nat.le_refl _, Bs.start (by omega), H⟩
  case round =>
    obtain ⟨s, t, rfl, rfl, hst, htb, has, HS, HW⟩ := hrel
    by_cases hlt : s < t
    · have hlt' : (s : Int) < (t : Int) := by omega
      obtain ⟨c, hc⟩ : ∃ c, c = (s + t) / 2 := ⟨_, rfl⟩
      have hmid : ((s : Int) + (t : Int)) / 2 = (c : Int) := by omega
      have hc1 : s ≤ c := by omega
      have hc2 : c < t := by omega
      have hc3 : (0 : Int) ≤ (c : Int) := by omega
      have hc4 : (c : Int) < (len : Int) := by omega
      have hc5 : (m : Int) < (len : Int) := by omega
      have hc6 : c < len := by omega
      clear hc
      obtain ⟨⟨p1, p2⟩, hp⟩ : ∃ p, D.getD m fnone = p := ⟨_, rfl⟩
      obtain ⟨⟨q1, q2⟩, hq⟩ : ∃ q, D.getD c fnone = q := ⟨_, rfl⟩
      obtain ⟨c1, c2, c3, c4⟩ : FC2 wr g off m c p1 p2 q1 q2 := HW.out.fc2 hml hc6 hp hq
      have HFC := vl (show FC2 wr.drew g off m c p1 p2 q1 q2 from ⟨c1, c2, c3, c4⟩)
      have HC := vl (fun W => HZ.out p1 p2 q1 q2 W)
      obtain ⟨r, hr⟩ : ∃ r, lexLt (unums p1) (unums q1) = r := ⟨_, rfl⟩
      rw [hr] at HC
      have HUP := vl (fun hh : r = false => HS.out.up HMON.out hc1 hc2 (by unfold P2; rw [hp, hq]; show ¬ lexLt (unums p1) (unums q1) = true; rw [hr, hh]; exact Bool.noConfusion))
      have HDN := vl (fun hh : r = true => HS.out.down HMON.out hc1 hc2 (by unfold P2; rw [hp, hq]; exact hr.trans hh))
      clear hp hq hr HS
      go_wp2_with fail
      go_region_held3 (fun w' => w'.cell? ⟨g, off + m * 2, none⟩ = some (.string p1) ∧ w'.cell? ⟨g, off + m * 2 + 1, none⟩ = some (.string p2) ∧ w'.cell? ⟨g, off + c * 2, none⟩ = some (.string q1) ∧ w'.cell? ⟨g, off + c * 2 + 1, none⟩ = some (.string q2))
        (first | go_keep | (with_reducible exact (HFC.out.below hb2)))
        ((go_at_call 51; refine (HC.out _).mono ?_; rintro e w2 ⟨⟨kk, rfl, hkk⟩, hb2⟩))
      have HW3 : Vl (SW w0 g off len cap D w2) := (HW.out.drew).below hb2
      clear hb2 HFC hkk HC c1 c2 c3 c4 HW hmid
      cases r with
      | false =>
        have HU := vl (HUP.out rfl)
        clear HUP HDN
        go_wp2_with fail
        go_roundw
        case rel => exact ⟨c + 1, t, by go_num, rfl, by omega, htb, by omega, HU, HW3⟩
        case measure => simp [intOf]; omega
      | true =>
        have HU := vl (HDN.out rfl)
        clear HUP HDN
        go_wp2_with fail
        go_roundw
        case rel => exact ⟨s, c, rfl, by go_num, by omega, by omega, by omega, HU, HW3⟩
        case measure => simp [intOf]; omega
    · have hst' : s = t := by omega
      subst hst'
      obtain ⟨X1, X2, eX, hi, hM⟩ := HEND.out s HS.out
      have hxl : X.length = X1.length + X2.length := by rw [eX]; simp
      have HM := vl hM
      have hmx := HMX.out
      have H0 : Vl (Sh (A ++ X1) X2 y B m D) := vl ⟨X2, [], by simp, by rw [← HD.out, eX]; simp, by rw [List.length_append, HA.out]; omega⟩
      have HEE : Vl (∀ k E, Sh (A ++ X1) X2 y B k E → k = s → E = A ++ (X1 ++ [y] ++ X2) ++ B) := vl (fun k E hh hk => by
        rw [hh.first (by rw [List.length_append, HA.out]; omega)]
        simp)
      have HDN : Vl (∀ k E, Sh (A ++ X1) X2 y B (k + 1) E → s < k + 1 → Sh (A ++ X1) X2 y B k (swapL fnone E (k + 1) k)) := vl (fun k E hh hk => hh.down (by rw [List.length_append, HA.out]; omega))
      clear hM hi eX hlt HS HMON HEND hxl hmx
      go_wp2_with fail
      go_loopw [17] (fun kv wr2 => ∃ (k : Nat) (E : List FB), kv = .int .i64 k ∧ s ≤ k ∧ k ≤ m ∧ Vl (Sh (A ++ X1) X2 y B k E) ∧ Vl (SW w0 g off len cap E wr2)) (fun kv _ => (intOf kv).toNat)
      case atStart => exact ⟨m, D, rfl, by omega, Nat.le_refl _, H0, HW⟩
      case round =>
        obtain ⟨k, E, rfl, hak, hke, HSH, HWE⟩ := hrel
        by_cases hlt : s < k
        · obtain ⟨k, rfl⟩ : ∃ k', k = k' + 1 := ⟨k - 1, by omega⟩
          have hlt' : (s : Int) < (k : Int) + 1 := by omega
          have hwp : IntKind.i64.wrap (k : Int) = (k : Int) := by rw [IntKind.wrap_i64]; omega
          have b3 : k < len := by omega
          have b4 : k + 1 < len := by omega
          have b5 : (k : Int) < (len : Int) := by omega
          have b6 : (k : Int) + 1 < (len : Int) := by omega
          have b7 : (0 : Int) ≤ (k : Int) + 1 := by omega
          obtain ⟨⟨p1, p2⟩, hp⟩ : ∃ p, E.getD (k + 1) fnone = p := ⟨_, rfl⟩
          obtain ⟨⟨q1, q2⟩, hq⟩ : ∃ q, E.getD k fnone = q := ⟨_, rfl⟩
          obtain ⟨c1, c2, c3, c4⟩ : FC2 wr g off (k + 1) k p1 p2 q1 q2 := HWE.out.fc2 b4 b3 hp hq
          have f1 := HWE.out.fro
          obtain ⟨W4, hW4⟩ : ∃ W4, W4 = ((((wr.setCell ⟨g, off + (k + 1) * 2, none⟩ (.string q1)).setCell ⟨g, off + (k + 1) * 2 + 1, none⟩ (.string q2)).setCell ⟨g, off + k * 2, none⟩ (.string p1)).setCell ⟨g, off + k * 2 + 1, none⟩ (.string p2)).drew := ⟨_, rfl⟩
          have HW4 : Vl (SW w0 g off len cap (swapL fnone E (k + 1) k) W4) := by
            rw [hW4]
            exact HWE.out.swap (k + 1) k b4 b3 hp hq
          have HWD := vl hW4
          have HS4 := vl (HDN.out k E HSH.out hlt)
          clear hW4 hp hq HSH HWE
          go_wp2_with fail
          go_region
          rw [← HWD.out]
          clear HWD c1 c2 c3 c4 f1
          go_wp2_with fail
          go_roundw
          case rel => exact ⟨k, _, by go_num, by omega, by omega, HS4, HW4⟩
          case measure => simp [intOf]
        · have hke' : k = s := by omega
          have HF := vl (HEE.out k E HSH.out hke' ▸ HWE.out)
          have hlt' : ¬ (s : Int) < (k : Int) := by omega
          clear hke'
          go_wp2_with fail
          refine bodyPost_ret (results_none rfl _ _ _) rfl ?_
          exact ⟨⟨_, rfl⟩, _, by simpa using HF.out, HM.out⟩
end Go.Proofs.YtibipnipeaeonaaGreatDoor
/-
  ORDER: the library's merge in place, whole. No claim by itself.
-/
namespace Go.Proofs.YtibipnipeaeonaaGreatDoor
open Go Go.RowKit
set_option maxRecDepth 100000
set_option maxHeartbeats 4000000 in
theorem zsym_mid (w0 : World) (g off len cap N : Nat) (hlen : len ≤ 4398046511104) (IH : SymSaid w0 g off len cap N) (A X Y B : List FB) (w : World) (hN : X.length + Y.length ≤ N + 1) (hX0 : 2 ≤ X.length) (hY0 : 2 ≤ Y.length) (hX : Srt nmK X) (hY : Srt nmK Y) (h : SW w0 g off len cap (A ++ X ++ Y ++ B) w) :
    Calls Tryz.prog 82 #[.slice (some ⟨g, off, none⟩) len cap, .int .i64 (A.length : Nat), .int .i64 ((A.length + X.length : Nat) : Int), .int .i64 ((A.length + X.length + Y.length : Nat) : Int), .func (.func 51) #[] #[]] w fun e w' => (∃ v, e = .returned v) ∧ ∃ Z, SW w0 g off len cap (A ++ Z ++ B) w' ∧ Mrg nmK X Y Z := by
  have H := vl h
  have HIH := vl IH
  have hl := h.row.hlen
  have hcap := h.row.hcap
  have HZ := vl zless_any
  obtain ⟨D, hD⟩ : ∃ D, A ++ X ++ Y ++ B = D := ⟨_, rfl⟩
  have hln : D.length = A.length + X.length + Y.length + B.length := by rw [← hD]; simp; omega
  obtain ⟨a, ha⟩ : ∃ a, A.length = a := ⟨_, rfl⟩
  obtain ⟨m, hm⟩ : ∃ m, a + X.length = m := ⟨_, rfl⟩
  obtain ⟨b, hb⟩ : ∃ b, m + Y.length = b := ⟨_, rfl⟩
  obtain ⟨mid, hmd⟩ : ∃ mid, mid = (a + b) / 2 := ⟨_, rfl⟩
  have HMON := vl (fun s0 r0 (h : Cut3 a m b mid s0 r0) => p3_mono (A := A) (B := B) h ha.symm (by omega) (by omega) hX hY)
  have HEND := vl (fun s0 r0 s (h : Cut3 a m b mid s0 r0) => p3_end (A := A) (B := B) (s := s) h ha.symm (by omega) (by omega) hX hY)
  rw [hD] at H hl
  simp only [hD] at HMON HEND
  rw [ha] at hln ⊢
  rw [hm] at hln ⊢
  rw [hb] at hln ⊢
  have ham : a + 1 < m := by omega
  have hmb : m + 1 < b := by omega
  have hbl : b ≤ len := by omega
  have hNN : b - a ≤ N + 1 := by omega
  have HD := vl hD
  have HA := vl ha
  have HMX := vl hm
  have HBY := vl hb
  have HX := vl hX
  have HY := vl hY
  have HMD := vl hmd
  have e1 : ¬ (m : Int) - (a : Int) = 1 := by omega
  have e2 : ((m : Int) - (a : Int) == 1) = false := by simpa using e1
  have e3 : ¬ (b : Int) - (m : Int) = 1 := by omega
  have e4 : ((b : Int) - (m : Int) == 1) = false := by simpa using e3
  have e5 : ((a : Int) + (b : Int)) / 2 = (mid : Int) := by omega
  have e6 : mid < b := by omega
  have e7 : a < mid := by omega
  clear h hl hD hln ha hm hb hX hX0 hY hY0 hN IH hmd
  go_enter Tryz.func82, Tryz.ntmps82
  go_upto_if 140 with fail
  go_cut [20, 21] (fun sv rv wx => ∃ s0 r0 : Nat, sv = .int .i64 s0 ∧ rv = .int .i64 r0 ∧ Vl (Cut3 a m b mid s0 r0) ∧ w = wx)
  case first =>
    as_aux_lemma =>
      by_cases hw : mid < m
      · have hw' : (mid : Int) < (m : Int) := by omega
        go_wp2_with fail
        go_meet
        exact ⟨mid + m - b, mid, by congr 1; omega, rfl, vl ⟨by omega, by omega, HMD.out, Or.inl ⟨hw, rfl, rfl⟩⟩, rfl⟩
      · have hw' : ¬ (mid : Int) < (m : Int) := by omega
        go_wp2_with fail
        go_meet
        exact ⟨a, m, rfl, rfl, vl ⟨by omega, by omega, HMD.out, Or.inr ⟨by omega, rfl, rfl⟩⟩, rfl⟩
  case rest =>
  obtain ⟨s0, r0, rfl, rfl, HC3, rfl⟩ := hcut
  obtain ⟨p, hp⟩ : ∃ p, p = mid + m - 1 := ⟨_, rfl⟩
  have e8 : (mid : Int) + (m : Int) - 1 = (p : Int) := by omega
  have HPP := vl hp
  have HRNG := vl (fun c (h1 : s0 ≤ c) (h2 : c < r0) => HC3.out.rng h1 h2)
  have HM3 := vl (HMON.out s0 r0 HC3.out)
  have HE3 := vl (fun s => HEND.out s0 r0 s HC3.out)
  rw [← hp] at HM3 HRNG
  simp only [← hp] at HE3 HRNG
  have hsr : s0 ≤ r0 := by
    have := HC3.out.am; have := HC3.out.mb; have := HC3.out.mid_
    rcases HC3.out.way with ⟨h3, h4, h5⟩ | ⟨h3, h4, h5⟩ <;> omega
  have hrm : r0 ≤ m := by rcases HC3.out.way with ⟨h3, h4, h5⟩ | ⟨h3, h4, h5⟩ <;> omega
  clear hp HMON HEND HC3
  go_wp2_with fail
  go_loopw [20, 21, 23] (fun i j _u wr => ∃ (s t : Nat), i = .int .i64 s ∧ j = .int .i64 t ∧ s ≤ t ∧ t ≤ r0 ∧ s0 ≤ s ∧ Vl (Bs (P3 D p) s0 r0 s t) ∧ Vl (SW w0 g off len cap D wr)) (fun i j _ _ => (intOf j).toNat - (intOf i).toNat)
  case atStart => exact ⟨s0, r0, rfl, rfl, hsr, Nat.le_refl _, Nat.le_refl _, Bs.start hsr, H⟩
  case round =>
    obtain ⟨s, t, rfl, rfl, hst, htb, has, HS, HW⟩ := hrel
    by_cases hlt : s < t
    · as_aux_lemma =>
      have hlt' : (s : Int) < (t : Int) := by omega
      obtain ⟨c, hc⟩ : ∃ c, c = (s + t) / 2 := ⟨_, rfl⟩
      have hmid : ((s : Int) + (t : Int)) / 2 = (c : Int) := by omega
      have hc1 : s ≤ c := by omega
      have hc2 : c < t := by omega
      obtain ⟨q1, q2, q3, q4⟩ := HRNG.out c (by omega) (by omega)
      obtain ⟨d, hd⟩ : ∃ d, d = p - c := ⟨_, rfl⟩
      have hpd : (p : Int) - (c : Int) = (d : Int) := by omega
      have hwd : IntKind.i64.wrap (d : Int) = (d : Int) := by rw [IntKind.wrap_i64]; omega
      have hwc : IntKind.i64.wrap ((p : Int) - (c : Int)) = (d : Int) := by rw [hpd]; exact hwd
      have hd0 : (0 : Int) ≤ (d : Int) := by omega
      have hc3 : (0 : Int) ≤ (c : Int) := by omega
      have hc4 : (c : Int) < (len : Int) := by omega
      have hc5 : (d : Int) < (len : Int) := by omega
      have hc6 : c < len := by omega
      have hc7 : d < len := by omega
      clear hc q1 q2 q3 q4
      obtain ⟨⟨p1, p2⟩, hp⟩ : ∃ p, D.getD d fnone = p := ⟨_, rfl⟩
      obtain ⟨⟨q1, q2⟩, hq⟩ : ∃ q, D.getD c fnone = q := ⟨_, rfl⟩
      obtain ⟨c1, c2, c3, c4⟩ : FC2 wr g off d c p1 p2 q1 q2 := HW.out.fc2 hc7 hc6 hp hq
      have HFC := vl (show FC2 wr.drew g off d c p1 p2 q1 q2 from ⟨c1, c2, c3, c4⟩)
      have HC := vl (fun W => HZ.out p1 p2 q1 q2 W)
      obtain ⟨r, hr⟩ : ∃ r, lexLt (unums p1) (unums q1) = r := ⟨_, rfl⟩
      rw [hr] at HC
      have HUP := vl (fun hh : r = false => HS.out.up HM3.out hc1 hc2 (by unfold P3; rw [← hd, hp, hq]; show ¬ lexLt (unums p1) (unums q1) = true; rw [hr, hh]; exact Bool.noConfusion))
      have HDN := vl (fun hh : r = true => HS.out.down HM3.out hc1 hc2 (by unfold P3; rw [← hd, hp, hq]; exact hr.trans hh))
      clear hp hq hr HS hd
      go_wp2_with fail
      go_region_held3 (fun w' => w'.cell? ⟨g, off + d * 2, none⟩ = some (.string p1) ∧ w'.cell? ⟨g, off + d * 2 + 1, none⟩ = some (.string p2) ∧ w'.cell? ⟨g, off + c * 2, none⟩ = some (.string q1) ∧ w'.cell? ⟨g, off + c * 2 + 1, none⟩ = some (.string q2))
        (first | go_keep | (with_reducible exact (HFC.out.below hb2)))
        ((go_at_call 51; refine (HC.out _).mono ?_; rintro e w2 ⟨⟨kk, rfl, hkk⟩, hb2⟩))
      have HW3 : Vl (SW w0 g off len cap D w2) := (HW.out.drew).below hb2
      clear hb2 HFC hkk HC c1 c2 c3 c4 HW hmid hpd
      cases r with
      | false =>
        have HU := vl (HUP.out rfl)
        clear HUP HDN
        go_wp2_with fail
        go_roundw
        case rel => exact ⟨c + 1, t, by go_num, rfl, by omega, htb, by omega, HU, HW3⟩
        case measure => simp [intOf]; omega
      | true =>
        have HU := vl (HDN.out rfl)
        clear HUP HDN
        go_wp2_with fail
        go_roundw
        case rel => exact ⟨s, c, rfl, by go_num, by omega, by omega, by omega, HU, HW3⟩
        case measure => simp [intOf]; omega
    · have hst' : s = t := by omega
      subst hst'
      obtain ⟨X1, X2, Y1, Y2, eX, eY, k1, k2, k3, k4, k5, k6, hL1, hL2⟩ := HE3.out s HS.out
      obtain ⟨e, he⟩ : ∃ e, e = mid + m - s := ⟨_, rfl⟩
      have hes : (mid : Int) + (m : Int) - (s : Int) = (e : Int) := by omega
      have lX : X.length = X1.length + X2.length := by rw [eX]; simp
      have lY : Y.length = Y1.length + Y2.length := by rw [eY]; simp
      have hA := HA.out
      have hMX := HMX.out
      have hBY := HBY.out
      have n1 : m = s + X2.length := by omega
      have n2 : e = m + Y1.length := by omega
      have n3 : b = e + Y2.length := by omega
      obtain ⟨T, hT⟩ : ∃ T, T = A ++ X1 ++ Y1 ++ (X2 ++ Y2 ++ B) := ⟨_, rfl⟩
      have HT := vl hT
      have HROT : Vl (s < m → m < e → Rot T m (m - s) (e - m) D) := vl (fun h1 h2 => ⟨A ++ X1, X2, Y1, Y2 ++ B, by rw [← HD.out, eX, eY]; simp, by simp; omega, by omega, by omega, by rw [hT]; simp, by omega, by omega⟩)
      have HSAME : Vl (¬ (s < m ∧ m < e) → D = T) := vl (fun hh => by
        rw [hT, ← HD.out, eX, eY]
        rcases Nat.lt_or_ge s m with h1 | h1
        · have : Y1 = [] := List.length_eq_zero_iff.1 (by omega)
          subst this; simp
        · have : X2 = [] := List.length_eq_zero_iff.1 (by omega)
          subst this; simp)
      have HX1 : Vl (Srt nmK X1) := vl (srt_left (eX ▸ HX.out))
      have HX2 : Vl (Srt nmK X2) := vl (srt_right (eX ▸ HX.out))
      have HY1 : Vl (Srt nmK Y1) := vl (srt_left (eY ▸ HY.out))
      have HY2 : Vl (Srt nmK Y2) := vl (srt_right (eY ▸ HY.out))
      have HFIN : Vl (∀ Z1 Z2, Mrg nmK X1 Y1 Z1 → Mrg nmK X2 Y2 Z2 → Mrg nmK X Y (Z1 ++ Z2)) := vl (fun Z1 Z2 h1 h2 => by
        rw [eX, eY]
        exact mrg_mid (eX ▸ HX.out) (eY ▸ HY.out) hL1 hL2 h1 h2)
      have HN1 := vl n1
      have HN2 := vl n2
      have HN3 := vl n3
      have HK1 := vl k1
      have HK3 := vl k3
      have hsm : s ≤ m := k4
      have hme : m ≤ e := by omega
      have heb : e ≤ b := by omega
      have hsd : s ≤ mid := by omega
      have hde : mid ≤ e := by omega
      have hasz : a ≤ s := by omega
      clear hL1 hL2 eX eY lX lY hA hMX hBY hT HS HE3 HM3 HRNG hlt n1 n2 n3 k1 k2 k3 k4 k5 k6 he e8 HX HY
      obtain ⟨wO, hwO⟩ : ∃ x, x = wr := ⟨_, rfl⟩
      subst hwO
      go_upto_region 39 with fail
      go_cut [185] (fun bv wx => ∃ q : Bool, bv = .bool q ∧ Vl ((q = true ∧ s < m ∧ m < e) ∨ (q = false ∧ ¬ (s < m ∧ m < e))) ∧ wO = wx)
      case first =>
        as_aux_lemma =>
          by_cases h1 : s < m
          · have h1' : (s : Int) < (m : Int) := by omega
            by_cases h2 : m < e
            · have h2' : (m : Int) < (e : Int) := by omega
              go_wp2_with fail
              go_meet
              exact ⟨true, by simp, vl (Or.inl ⟨rfl, h1, h2⟩), rfl⟩
            · have h2' : ¬ (m : Int) < (e : Int) := by omega
              go_wp2_with fail
              go_meet
              exact ⟨false, by simp, vl (Or.inr ⟨rfl, fun hh => h2 hh.2⟩), rfl⟩
          · have h1' : ¬ (s : Int) < (m : Int) := by omega
            go_wp2_with fail
            go_meet
            exact ⟨false, by simp, vl (Or.inr ⟨rfl, fun hh => h1 hh.1⟩), rfl⟩
      case rest =>
      obtain ⟨q, rfl, HQ1, rfl⟩ := hcut
      go_upto_if 185 with fail
      go_cut [] (fun wx => Vl (SW w0 g off len cap T wx))
      case first =>
        as_aux_lemma =>
          rcases HQ1.out with ⟨rfl, h1, h2⟩ | ⟨rfl, h1⟩
          · have HC := vl (zrot_any w0 g off len cap s m e (.func (.func 51) #[] #[]) D T wO HW.out (by omega) h1 h2 (by omega) (HROT.out h1 h2))
            go_wp2_with fail
            refine HC.out.mono ?_
            rintro _ w1 ⟨⟨v, rfl⟩, hw⟩
            go_wp2_with fail
            go_meet
            exact vl hw
          · have HF : Vl (SW w0 g off len cap T wO) := HSAME.out h1 ▸ HW.out
            go_wp2_with fail
            go_meet
            exact HF
      case rest =>
      have HW1 := hcut
      clear hcut HROT HSAME HW HQ1 H
      obtain ⟨w1, hw1⟩ : ∃ x, x = wc := ⟨_, rfl⟩
      subst hw1
      go_upto_region 41 with fail
      go_cut [199] (fun bv wx => ∃ q : Bool, bv = .bool q ∧ Vl ((q = true ∧ a < s ∧ s < mid) ∨ (q = false ∧ ¬ (a < s ∧ s < mid))) ∧ w1 = wx)
      case first =>
        as_aux_lemma =>
          by_cases h1 : a < s
          · have h1' : (a : Int) < (s : Int) := by omega
            by_cases h2 : s < mid
            · have h2' : (s : Int) < (mid : Int) := by omega
              go_wp2_with fail
              go_meet
              exact ⟨true, by simp, vl (Or.inl ⟨rfl, h1, h2⟩), rfl⟩
            · have h2' : ¬ (s : Int) < (mid : Int) := by omega
              go_wp2_with fail
              go_meet
              exact ⟨false, by simp, vl (Or.inr ⟨rfl, fun hh => h2 hh.2⟩), rfl⟩
          · have h1' : ¬ (a : Int) < (s : Int) := by omega
            go_wp2_with fail
            go_meet
            exact ⟨false, by simp, vl (Or.inr ⟨rfl, fun hh => h1 hh.1⟩), rfl⟩
      case rest =>
      obtain ⟨q, rfl, HQ2, rfl⟩ := hcut
      go_upto_if 199 with fail
      go_cut [] (fun wx => Vl (∃ Z1, SW w0 g off len cap (A ++ Z1 ++ (X2 ++ Y2 ++ B)) wx ∧ Mrg nmK X1 Y1 Z1))
      case first =>
        as_aux_lemma =>
          rcases HQ2.out with ⟨rfl, h1, h2⟩ | ⟨rfl, h1⟩
          · have e9 : Vl (A.length + X1.length = s) := vl (by have := HA.out; have := HK1.out; omega)
            have HC := vl (HIH.out A X1 Y1 (X2 ++ Y2 ++ B) w1 (by have := HK1.out; have := HK3.out; omega) (fun e => by have := HK1.out; rw [e] at this; simp at this; omega) (fun e => by have := HK3.out; rw [e] at this; simp at this; omega) HX1.out HY1.out (HT.out ▸ HW1.out))
            rw [e9.out, HA.out, show s + Y1.length = mid from HK3.out] at HC
            go_wp2_with fail
            refine HC.out.mono ?_
            rintro _ w2 ⟨⟨v, rfl⟩, Z1, hw, hM⟩
            have HF := vl hw
            have HF2 := vl hM
            clear hw hM
            go_wp2_with fail
            go_meet
            exact vl ⟨Z1, HF.out, HF2.out⟩
          · have HF : Vl (∃ Z1, SW w0 g off len cap (A ++ Z1 ++ (X2 ++ Y2 ++ B)) w1 ∧ Mrg nmK X1 Y1 Z1) := vl (by
              have hk1 := HK1.out
              have hk3 := HK3.out
              rcases Nat.lt_or_ge a s with h2 | h2
              · have : Y1 = [] := List.length_eq_zero_iff.1 (by omega)
                subst this
                exact ⟨X1, by have := HW1.out; rw [HT.out] at this; simpa using this, mrg_nilR HX1.out⟩
              · have : X1 = [] := List.length_eq_zero_iff.1 (by omega)
                subst this
                exact ⟨Y1, by have := HW1.out; rw [HT.out] at this; simpa using this, mrg_nilL HY1.out⟩)
            go_wp2_with fail
            go_meet
            exact HF
      case rest =>
      obtain ⟨Z1, hZ1, hM1⟩ := hcut.out
      have HW2 := vl hZ1
      have HM1 := vl hM1
      clear hcut hZ1 hM1 HW1 HQ2
      obtain ⟨w2, hw2⟩ : ∃ x, x = wc := ⟨_, rfl⟩
      subst hw2
      go_upto_region 43 with fail
      go_cut [213] (fun bv wx => ∃ q : Bool, bv = .bool q ∧ Vl ((q = true ∧ mid < e ∧ e < b) ∨ (q = false ∧ ¬ (mid < e ∧ e < b))) ∧ w2 = wx)
      case first =>
        as_aux_lemma =>
          by_cases h1 : mid < e
          · have h1' : (mid : Int) < (e : Int) := by omega
            by_cases h2 : e < b
            · have h2' : (e : Int) < (b : Int) := by omega
              go_wp2_with fail
              go_meet
              exact ⟨true, by simp, vl (Or.inl ⟨rfl, h1, h2⟩), rfl⟩
            · have h2' : ¬ (e : Int) < (b : Int) := by omega
              go_wp2_with fail
              go_meet
              exact ⟨false, by simp, vl (Or.inr ⟨rfl, fun hh => h2 hh.2⟩), rfl⟩
          · have h1' : ¬ (mid : Int) < (e : Int) := by omega
            go_wp2_with fail
            go_meet
            exact ⟨false, by simp, vl (Or.inr ⟨rfl, fun hh => h1 hh.1⟩), rfl⟩
      case rest =>
      obtain ⟨q, rfl, HQ3, rfl⟩ := hcut
      rcases HQ3.out with ⟨rfl, h1, h2⟩ | ⟨rfl, h1⟩
      · have e9 : Vl ((A ++ Z1).length = mid) := vl (by have := HA.out; have := HK1.out; have := HK3.out; have := HM1.out.len; rw [List.length_append]; omega)
        have e10 : Vl (mid + X2.length = e) := vl (by have := HN1.out; have := HN2.out; have := HK3.out; omega)
        have HC := vl (HIH.out (A ++ Z1) X2 Y2 B w2 (by have := e10.out; have := HN3.out; omega) (fun e => by have := e10.out; rw [e] at this; simp at this; omega) (fun e => by have := HN3.out; rw [e] at this; simp at this; omega) HX2.out HY2.out (by have := HW2.out; simpa using this))
        rw [e9.out, e10.out, show e + Y2.length = b from HN3.out.symm] at HC
        go_wp2_with fail
        refine HC.out.mono ?_
        rintro _ w3 ⟨⟨v, rfl⟩, Z2, hw, hM⟩
        have HF := vl hw
        have HF2 := vl (HFIN.out Z1 Z2 HM1.out hM)
        clear hw hM
        go_wp2_with fail
        go_end0
        exact ⟨⟨_, rfl⟩, Z1 ++ Z2, by have := HF.out; simpa using this, HF2.out⟩
      · have HF : Vl (∃ Z2, SW w0 g off len cap (A ++ Z1 ++ (Z2 ++ B)) w2 ∧ Mrg nmK X2 Y2 Z2) := vl (by
          have hn1 := HN1.out
          have hn2 := HN2.out
          have hn3 := HN3.out
          have hk3 := HK3.out
          rcases Nat.lt_or_ge mid e with h2 | h2
          · have : Y2 = [] := List.length_eq_zero_iff.1 (by omega)
            subst this
            exact ⟨X2, by have := HW2.out; simpa using this, mrg_nilR HX2.out⟩
          · have : X2 = [] := List.length_eq_zero_iff.1 (by omega)
            subst this
            exact ⟨Y2, by have := HW2.out; simpa using this, mrg_nilL HY2.out⟩)
        obtain ⟨Z2, hw, hM⟩ := HF.out
        have HF1 := vl hw
        have HF2 := vl (HFIN.out Z1 Z2 HM1.out hM)
        clear hw hM HF
        go_wp2_with fail
        go_end0
        exact ⟨⟨_, rfl⟩, Z1 ++ Z2, by have := HF1.out; simpa using this, HF2.out⟩
theorem zsym_any (w0 : World) (g off len cap : Nat) (hlen : len ≤ 4398046511104) : ∀ N, SymSaid w0 g off len cap N
  | 0 => fun A X Y B w hN hX hY _ _ _ => absurd (List.length_eq_zero_iff.1 (show X.length = 0 by omega)) hX
  | N + 1 => fun A X Y B w hN hX0 hY0 hX hY h => by
    by_cases h1 : X.length = 1
    · obtain ⟨x, rfl⟩ := List.length_eq_one_iff.1 h1
      exact zsym_left w0 g off len cap A Y B x w hlen hY0 hY h
    · have hx : 0 < X.length := List.length_pos_iff.2 hX0
      have hy : 0 < Y.length := List.length_pos_iff.2 hY0
      by_cases h2 : Y.length = 1
      · obtain ⟨y, rfl⟩ := List.length_eq_one_iff.1 h2
        exact zsym_right w0 g off len cap A X B y w hlen (by omega) hX h
      · exact zsym_mid w0 g off len cap N hlen (zsym_any w0 g off len cap hlen N) A X Y B w hN (by omega) (by omega) hX hY h
end Go.Proofs.YtibipnipeaeonaaGreatDoor
/-
  ORDER: the library's stable sort. No claim by itself.
-/
namespace Go.Proofs.YtibipnipeaeonaaGreatDoor
open Go Go.RowKit
set_option maxRecDepth 100000
def Ph1 (D : List FB) (a : Nat) (E : List FB) : Prop := ∃ (bs : List (List FB)) (R : List FB), E = bs.flatten ++ R ∧ (∀ b ∈ bs, b.length = 20 ∧ Srt nmK b) ∧ bs.flatten.length = a ∧ Sby nmK D E
theorem Ph1.next {D E : List FB} {a : Nat} (h : Ph1 D a E) (ha : a + 20 ≤ E.length) : ∃ A X R, E = A ++ X ++ R ∧ A.length = a ∧ X.length = 20 ∧ ∀ Z, Srt nmK Z → Sby nmK X Z → Z.length = X.length → Ph1 D (a + 20) (A ++ Z ++ R) := by
  obtain ⟨bs, R, rfl, hb, hl, hs⟩ := h
  simp only [List.length_append] at ha
  obtain ⟨X, R', rfl, hX⟩ := cut_list R 20 (by omega)
  refine ⟨bs.flatten, X, R', by simp, hl, hX, fun Z h1 h2 h3 => ⟨bs ++ [Z], R', by simp, fun b hb' => ?_, by simp only [List.length_append, List.flatten_append, List.flatten_cons, List.flatten_nil, List.append_nil]; omega, ?_⟩⟩
  · rcases List.mem_append.1 hb' with h | h
    · exact hb b h
    · rw [List.mem_singleton.1 h]; exact ⟨by omega, h1⟩
  · refine hs.trans ?_
    rw [← List.append_assoc]
    exact Sby.app (Sby.app (Sby.refl _) h2) (Sby.refl _)
theorem Ph1.fin {D E : List FB} {a : Nat} (h : Ph1 D a E) (ha : E.length < a + 20) : ∃ A X, E = A ++ X ++ [] ∧ A.length = a ∧ A.length + X.length = E.length ∧ ∀ Z, Srt nmK Z → Sby nmK X Z → Z.length = X.length → Runs nmK 20 (A ++ Z ++ []) ∧ Sby nmK D (A ++ Z ++ []) := by
  obtain ⟨bs, R, rfl, hb, hl, hs⟩ := h
  simp only [List.length_append] at ha
  refine ⟨bs.flatten, R, by simp, hl, by rw [List.length_append], fun Z h1 h2 h3 => ⟨⟨bs, Z, by simp, hb, by omega, h1⟩, ?_⟩⟩
  rw [List.append_nil]
  exact hs.trans (Sby.app (Sby.refl _) h2)
def Ph2 (D : List FB) (s a : Nat) (E : List FB) : Prop := ∃ (ds ts : List (List FB)) (X : List FB), E = ds.flatten ++ (ts.flatten ++ X) ∧ (∀ b ∈ ds, b.length = 2 * s ∧ Srt nmK b) ∧ (∀ b ∈ ts, b.length = s ∧ Srt nmK b) ∧ X.length < s ∧ Srt nmK X ∧ ds.flatten.length = a ∧ Sby nmK D E
theorem Ph2.start {D E : List FB} {s : Nat} (h : Runs nmK s E) (hs : Sby nmK D E) : Ph2 D s 0 E := by
  obtain ⟨bs, X, e, hb, hX, hS⟩ := h
  exact ⟨[], bs, X, by simpa using e, (fun b hb => by cases hb), hb, hX, hS, rfl, hs⟩
theorem Ph2.next {D E : List FB} {s a : Nat} (h : Ph2 D s a E) (ha : a + 2 * s ≤ E.length) : ∃ A X Y B, E = A ++ X ++ Y ++ B ∧ A.length = a ∧ X.length = s ∧ Y.length = s ∧ Srt nmK X ∧ Srt nmK Y ∧ ∀ Z, Mrg nmK X Y Z → Ph2 D s (a + 2 * s) (A ++ Z ++ B) := by
  obtain ⟨ds, ts, X, rfl, hd, ht, hX, hS, hl, hs⟩ := h
  simp only [List.length_append] at ha
  match ts, ht with
  | [], _ => simp only [List.flatten_nil, List.length_nil] at ha; omega
  | [t], ht =>
    have := (ht t (List.mem_singleton.2 rfl)).1
    simp only [List.flatten_cons, List.flatten_nil, List.append_nil] at ha; omega
  | t :: u :: r, ht =>
    have k1 := ht t (by simp)
    have k2 := ht u (by simp)
    refine ⟨ds.flatten, t, u, r.flatten ++ X, by simp, hl, k1.1, k2.1, k1.2, k2.2, fun Z hZ => ⟨ds ++ [Z], r, X, by simp, fun b hb => ?_, fun b hb => ht b (by simp [hb]), hX, hS, ?_, ?_⟩⟩
    · rcases List.mem_append.1 hb with h | h
      · exact hd b h
      · rw [List.mem_singleton.1 h]; exact ⟨by rw [hZ.len]; omega, hZ.srt⟩
    · have := hZ.len; simp only [List.length_append, List.flatten_append, List.flatten_cons, List.flatten_nil, List.append_nil]; omega
    · refine hs.trans ?_
      have e : ds.flatten ++ ((t :: u :: r).flatten ++ X) = ds.flatten ++ (t ++ u) ++ (r.flatten ++ X) := by simp
      rw [e]
      exact Sby.app (Sby.app (Sby.refl _) hZ.sby) (Sby.refl _)
theorem Ph2.fin {D E : List FB} {s a : Nat} (h : Ph2 D s a E) (ha : E.length < a + 2 * s) : (E.length ≤ a + s ∧ Runs nmK (2 * s) E ∧ Sby nmK D E) ∨
    (a + s < E.length ∧ ∃ A X Y, E = A ++ X ++ Y ++ [] ∧ A.length = a ∧ X.length = s ∧ A.length + X.length + Y.length = E.length ∧ Srt nmK X ∧ Srt nmK Y ∧ Y ≠ [] ∧ ∀ Z, Mrg nmK X Y Z → Runs nmK (2 * s) (A ++ Z ++ []) ∧ Sby nmK D (A ++ Z ++ [])) := by
  obtain ⟨ds, ts, X, rfl, hd, ht, hX, hS, hl, hs⟩ := h
  simp only [List.length_append] at ha
  match ts, ht with
  | [], _ => exact Or.inl ⟨by simp only [List.length_append, List.flatten_nil, List.length_nil, List.nil_append] at ha ⊢; omega, ⟨ds, X, by simp, hd, by omega, hS⟩, hs⟩
  | [t], ht =>
    have k := ht t (List.mem_singleton.2 rfl)
    by_cases e : X = []
    · subst e
      exact Or.inl ⟨by simp only [List.length_append, List.flatten_cons, List.flatten_nil, List.append_nil, List.length_nil] at ha ⊢; omega, ⟨ds, t, by simp, hd, by simp only [List.flatten_cons, List.flatten_nil, List.append_nil, List.length_nil] at ha; omega, k.2⟩, hs⟩
    · have hpos : 0 < X.length := List.length_pos_iff.2 e
      refine Or.inr ⟨by simp only [List.length_append, List.flatten_cons, List.flatten_nil, List.append_nil]; omega, ds.flatten, t, X, by simp, hl, k.1, by simp only [List.length_append, List.flatten_cons, List.flatten_nil, List.append_nil]; omega, k.2, hS, e, fun Z hZ => ⟨⟨ds, Z, by simp, hd, by rw [hZ.len]; omega, hZ.srt⟩, ?_⟩⟩
      rw [List.append_nil]
      refine hs.trans ?_
      have e2 : ds.flatten ++ ([t].flatten ++ X) = ds.flatten ++ (t ++ X) := by simp
      rw [e2]
      exact Sby.app (Sby.refl _) hZ.sby
  | t :: u :: r, ht =>
    have k1 := (ht t (by simp)).1
    have k2 := (ht u (by simp)).1
    simp only [List.length_append, List.flatten_cons] at ha; omega
end Go.Proofs.YtibipnipeaeonaaGreatDoor
/-
  ORDER: the library's stable sort. No claim by itself.
-/
namespace Go.Proofs.YtibipnipeaeonaaGreatDoor
open Go Go.RowKit
set_option maxRecDepth 100000
set_option maxHeartbeats 4000000 in
theorem zstab_any (w0 : World) (g off len cap : Nat) (D : List FB) (w : World) (h : SW w0 g off len cap D w) (hlen : len ≤ 4398046511104) :
    Calls Tryz.prog 66 #[.slice (some ⟨g, off, none⟩) len cap, .int .i64 len, .func (.func 51) #[] #[]] w fun e w' => (∃ v, e = .returned v) ∧ ∃ E, SW w0 g off len cap E w' ∧ Srt nmK E ∧ Sby nmK D E := by
  have H := vl h
  have hcap := h.row.hcap
  have HSYM := vl (fun N => zsym_any w0 g off len cap hlen N)
  have HINS := vl (fun A X R W hh => zins_any w0 g off len cap A X R W hh hlen)
  clear h
  go_enter Tryz.func66, Tryz.ntmps66
  go_wp2_with fail
  go_loopw [7, 8] (fun av bv wr => ∃ (a b : Nat) (E : List FB), av = .int .i64 a ∧ bv = .int .i64 b ∧ b = a + 20 ∧ a ≤ len ∧ Vl (Ph1 D a E) ∧ Vl (SW w0 g off len cap E wr)) (fun av _ _ => len - (intOf av).toNat)
  case atStart => exact ⟨0, 20, D, rfl, rfl, rfl, by omega, vl ⟨[], D, by simp, (fun b hb => by cases hb), rfl, Sby.refl _⟩, H⟩
  case round =>
    obtain ⟨a, b, E, rfl, rfl, hb, hal, HP, HW⟩ := hrel
    have hEl := HW.out.row.hlen
    by_cases hle : b ≤ len
    · as_aux_lemma =>
      have hle' : (b : Int) ≤ (len : Int) := by omega
      obtain ⟨A, X, R, eE, lA, lX, hN⟩ := HP.out.next (by omega)
      have HC := vl (HINS.out A X R wr (eE ▸ HW.out))
      rw [lA, lX, ← hb] at HC
      have HN := vl (fun Z h1 h2 (h3 : Z.length = 20) => hN Z h1 h2 (h3.trans lX.symm))
      obtain ⟨b2, hb2⟩ : ∃ b2, b2 = b + 20 := ⟨_, rfl⟩
      have hbb : (b : Int) + 20 = (b2 : Int) := by omega
      have HBE := vl hb
      have HB2 := vl hb2
      have hab : a < b := by omega
      clear eE lA lX hN HP HW hEl hb hb2
      go_wp2_with fail
      refine HC.out.mono ?_
      rintro _ w1 ⟨⟨v, rfl⟩, Z, hw, h1, h2, h3⟩
      have HW1 := vl hw
      have HP1 := vl (HN.out Z h1 h2 h3)
      clear hw h1 h2 h3 HC
      go_wp2_with fail
      go_roundw
      case rel => exact ⟨b, b2, _, rfl, rfl, HB2.out, hle, by rw [HBE.out]; exact HP1, HW1⟩
      case measure => simp [intOf]; omega
    · have hle' : ¬ (b : Int) ≤ (len : Int) := by omega
      obtain ⟨A, X, eE, lA, lX, hN⟩ := HP.out.fin (by omega)
      have HC := vl (HINS.out A X [] wr (eE ▸ HW.out))
      rw [lX, lA, hEl] at HC
      have HN := vl hN
      clear eE lA lX hN HP HW hEl hb hle
      go_wp2_with fail
      refine HC.out.mono ?_
      rintro _ w1 ⟨⟨v, rfl⟩, Z, hw, h1, h2, h3⟩
      have HW1 := vl hw
      have HR1 := vl (HN.out Z h1 h2 h3)
      obtain ⟨E1, hE1⟩ : ∃ E1, E1 = A ++ Z ++ [] := ⟨_, rfl⟩
      rw [← hE1] at HW1 HR1
      clear hw h1 h2 h3 HC HN hE1
      go_wp2_with fail
      go_loopw [6, 7, 8, 9] (fun sv _av _bv _mv wr2 => ∃ (s : Nat) (E : List FB), sv = .int .i64 s ∧ 20 ≤ s ∧ s ≤ 2 * len + 20 ∧ Vl (Runs nmK s E) ∧ Vl (Sby nmK D E) ∧ Vl (SW w0 g off len cap E wr2)) (fun sv _ _ _ _ => len - (intOf sv).toNat)
      case atStart => exact ⟨20, E1, rfl, by omega, by omega, vl HR1.out.1, vl HR1.out.2, HW1⟩
      case round =>
        obtain ⟨s, E, rfl, hs20, hs2, HRU, HSB, HWE⟩ := hrel
        have hEl := HWE.out.row.hlen
        obtain ⟨wO, hwO⟩ : ∃ x, x = wr := ⟨_, rfl⟩
        subst hwO
        by_cases hlt : s < len
        · have hlt' : (s : Int) < (len : Int) := by omega
          obtain ⟨d, hd⟩ : ∃ d, d = 2 * s := ⟨_, rfl⟩
          have hd1 : 2 * (s : Int) = (d : Int) := by omega
          have hd2 : (s : Int) * 2 = (d : Int) := by omega
          have HD := vl hd
          have HP0 := vl (Ph2.start HRU.out HSB.out)
          have hdl : d ≤ 2 * len := by omega
          clear hd HRU HSB hEl
          go_wp2_with fail
          go_loopw [7, 8] (fun av bv wr2 => ∃ (a b : Nat) (E : List FB), av = .int .i64 a ∧ bv = .int .i64 b ∧ b = a + d ∧ a ≤ len ∧ Vl (Ph2 D s a E) ∧ Vl (SW w0 g off len cap E wr2)) (fun av _ _ => len - (intOf av).toNat)
          case atStart => exact ⟨0, d, E, rfl, rfl, by omega, by omega, HP0, HWE⟩
          case round =>
            obtain ⟨a, b, E2, rfl, rfl, hb, hal, HP, HW⟩ := hrel
            have hEl := HW.out.row.hlen
            obtain ⟨m, hm⟩ : ∃ m, m = a + s := ⟨_, rfl⟩
            have hm1 : (a : Int) + (s : Int) = (m : Int) := by omega
            have hds := HD.out
            by_cases hle : b ≤ len
            · as_aux_lemma =>
              have hle' : (b : Int) ≤ (len : Int) := by omega
              obtain ⟨A, X, Y, B, eE, lA, lX, lY, sX, sY, hN⟩ := HP.out.next (by omega)
              have HC := vl (HSYM.out _ A X Y B wr (Nat.le_refl _) (fun e => by rw [e] at lX; simp at lX; omega) (fun e => by rw [e] at lY; simp at lY; omega) sX sY (eE ▸ HW.out))
              rw [lA, lX, lY, show a + s + s = b by omega, ← hm] at HC
              have HN := vl hN
              obtain ⟨b2, hb2⟩ : ∃ b2, b2 = b + d := ⟨_, rfl⟩
              have hbb : (b : Int) + (d : Int) = (b2 : Int) := by omega
              have HBE : Vl (a + 2 * s = b) := vl (by omega)
              have hab : a < b := by omega
              have HB2 := vl hb2
              clear eE lA lX lY sX sY hN HP HW hEl hm hb hds hb2
              go_wp2_with fail
              refine HC.out.mono ?_
              rintro _ w3 ⟨⟨v, rfl⟩, Z, hw, hM⟩
              have HW3 := vl hw
              have HP3 := vl (HN.out Z hM)
              rw [HBE.out] at HP3
              clear hw hM HC HN
              go_wp2_with fail
              go_roundw
              case rel => exact ⟨b, b2, _, rfl, rfl, HB2.out, hle, HP3, HW3⟩
              case measure => simp [intOf]; omega
            · have hle' : ¬ (b : Int) ≤ (len : Int) := by omega
              rcases HP.out.fin (by omega) with ⟨h1, h2, h3⟩ | ⟨h1, A, X, Y, eE, lA, lX, lY, sX, sY, hY0, hN⟩
              · have hmn : ¬ (m : Int) < (len : Int) := by omega
                have HR2 := vl h2
                have HS2 := vl h3
                clear h1 h2 h3 HP hEl hm hb hds
                go_wp2_with fail
                go_roundw
                case rel => exact ⟨d, E2, rfl, by have := HD.out; omega, by omega, by rw [HD.out]; exact HR2, HS2, HW⟩
                case measure => have := HD.out; simp [intOf]; omega
              · have hmn : (m : Int) < (len : Int) := by omega
                have HC := vl (HSYM.out _ A X Y [] wr (Nat.le_refl _) (fun e => by rw [e] at lX; simp at lX; omega) hY0 sX sY (eE ▸ HW.out))
                rw [lY, lA, lX, hEl, ← hm] at HC
                have HN := vl hN
                clear h1 eE lA lX lY sX sY hY0 hN HP HW hEl hm hb hds
                go_wp2_with fail
                refine HC.out.mono ?_
                rintro _ w3 ⟨⟨v, rfl⟩, Z, hw, hM⟩
                have HW3 := vl hw
                have HP3 := vl (HN.out Z hM)
                obtain ⟨E3, hE3⟩ : ∃ E3, E3 = A ++ Z ++ [] := ⟨_, rfl⟩
                rw [← hE3] at HW3 HP3
                clear hw hM HC HN hE3
                go_wp2_with fail
                go_roundw
                case rel => exact ⟨d, E3, rfl, by have := HD.out; omega, by omega, by rw [HD.out]; exact vl HP3.out.1, vl HP3.out.2, HW3⟩
                case measure => have := HD.out; simp [intOf]; omega
        · have hlt' : ¬ (s : Int) < (len : Int) := by omega
          have HSD := vl (runs_done HRU.out (by omega) (by omega))
          clear HRU hEl
          go_wp2_with fail
          go_end0
          exact ⟨⟨_, rfl⟩, E, HWE.out, HSD.out, HSB.out⟩
theorem zsort_any (w0 : World) (g off len cap : Nat) (D : List FB) (w : World) (h : SW w0 g off len cap D w) (hlen : len ≤ 4398046511104) :
    Calls Tryz.prog 50 #[.slice (some ⟨g, off, none⟩) len cap, .func (.func 51) #[] #[]] w fun e w' => (∃ v, e = .returned v) ∧ ∃ E, SW w0 g off len cap E w' ∧ Srt nmK E ∧ Sby nmK D E := by
  have HC := vl (zstab_any w0 g off len cap D w h hlen)
  clear h
  go_enter Tryz.func50, Tryz.ntmps50
  go_wp2_with fail
  refine HC.out.mono ?_
  rintro _ w1 ⟨⟨v, rfl⟩, hE⟩
  have HE := vl hE
  clear hE
  go_wp2_with fail
  go_end0
  exact ⟨⟨_, rfl⟩, HE.out⟩
end Go.Proofs.YtibipnipeaeonaaGreatDoor
