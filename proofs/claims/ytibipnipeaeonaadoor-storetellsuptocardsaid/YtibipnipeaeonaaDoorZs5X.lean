/-
  ORDER: the library's merge in place. No claim by itself.
-/
import Derived.Test.YtibipnipeaeonaaDoorZs4X
namespace Go.Proofs.YtibipnipeaeonaaDoor
open Go Go.RowKit
set_option maxRecDepth 100000
/-- What a merge in place of two rows that stand side by side owes. -/
def SymSaid (w0 : World) (g off len cap N : Nat) : Prop := ∀ (A X Y B : List FB) (w : World), X.length + Y.length ≤ N → X ≠ [] → Y ≠ [] → Srt nmK X → Srt nmK Y → SW w0 g off len cap (A ++ X ++ Y ++ B) w →
  Calls Tryd.prog 69 #[.slice (some ⟨g, off, none⟩) len cap, .int .i64 (A.length : Nat), .int .i64 ((A.length + X.length : Nat) : Int), .int .i64 ((A.length + X.length + Y.length : Nat) : Int), .func (.func 45) #[] #[]] w fun e w' => (∃ v, e = .returned v) ∧ ∃ Z, SW w0 g off len cap (A ++ Z ++ B) w' ∧ Mrg nmK X Y Z
set_option maxHeartbeats 4000000 in
theorem zsym_left (w0 : World) (g off len cap : Nat) (A Y B : List FB) (x : FB) (w : World) (hlen : len ≤ 4398046511104) (hY0 : Y ≠ []) (hY : Srt nmK Y) (h : SW w0 g off len cap (A ++ [x] ++ Y ++ B) w) :
    Calls Tryd.prog 69 #[.slice (some ⟨g, off, none⟩) len cap, .int .i64 (A.length : Nat), .int .i64 ((A.length + 1 : Nat) : Int), .int .i64 ((A.length + 1 + Y.length : Nat) : Int), .func (.func 45) #[] #[]] w fun e w' => (∃ v, e = .returned v) ∧ ∃ Z, SW w0 g off len cap (A ++ Z ++ B) w' ∧ Mrg nmK [x] Y Z := by
  have H := vl h
  have hl := h.row.hlen
  have hcap := h.row.hcap
  have HZ := vl zless_any
  have HY := vl hY
  have HMON := vl (p1_mono (A := A) (B := B) (x := x) hY)
  have HEND := vl (fun i => p1_end (A := A) (B := B) (x := x) (i := i) hY)
  obtain ⟨D, hD⟩ : ∃ D, A ++ [x] ++ Y ++ B = D := ⟨_, rfl⟩
  rw [hD] at H HMON hl
  simp only [hD] at HEND
  have hln : D.length = A.length + 1 + Y.length + B.length := by rw [← hD]; simp; omega
  obtain ⟨a, ha⟩ : ∃ a, A.length = a := ⟨_, rfl⟩
  obtain ⟨b, hb⟩ : ∃ b, a + 1 + Y.length = b := ⟨_, rfl⟩
  rw [ha] at HMON hln ⊢
  simp only [ha] at HEND
  rw [hb] at HMON hln ⊢
  simp only [hb] at HEND
  have hy0 : 0 < Y.length := List.length_pos_iff.2 hY0
  have hab : a + 1 < b := by omega
  have hbl : b ≤ len := by omega
  have HD := vl hD
  have HA := vl ha
  have HBY := vl hb
  have e1 : ((a + 1 : Nat) : Int) = (a : Int) + 1 := by omega
  rw [e1]
  have e2 : (a : Int) + 1 - (a : Int) = 1 := by omega
  clear h hl hD hln ha hb hY hY0 hy0 e1
  go_enter Tryd.func69, Tryd.ntmps69
  go_wp2_with fail
  go_loopw [10, 11, 12] (fun i j _u wr => ∃ (s t : Nat), i = .int .i64 s ∧ j = .int .i64 t ∧ s ≤ t ∧ t ≤ b ∧ a + 1 ≤ s ∧ Vl (Bs (P1 D a) (a + 1) b s t) ∧ Vl (SW w0 g off len cap D wr)) (fun i j _ _ => (intOf j).toNat - (intOf i).toNat)
  case atStart => exact ⟨a + 1, b, by go_num, rfl, by omega, Nat.le_refl _, Nat.le_refl _, Bs.start (by omega), H⟩
  case round =>
    obtain ⟨s, t, rfl, rfl, hst, htb, has, HS, HW⟩ := hrel
    by_cases hlt : s < t
    · have hlt' : (s : Int) < (t : Int) := by omega
      obtain ⟨c, hc⟩ : ∃ c, c = (s + t) / 2 := ⟨_, rfl⟩
      have hmid : ((s : Int) + (t : Int)) / 2 = (c : Int) := by omega
      have hc1 : s ≤ c := by omega
      have hc2 : c < t := by omega
      have hc3 : (0 : Int) ≤ (c : Int) := by omega
      have hc4 : (c : Int) < (len : Int) := by omega
      have hc5 : (a : Int) < (len : Int) := by omega
      have hc6 : c < len := by omega
      have hc7 : a < len := by omega
      clear hc
      obtain ⟨⟨p1, p2⟩, hp⟩ : ∃ p, D.getD c fnone = p := ⟨_, rfl⟩
      obtain ⟨⟨q1, q2⟩, hq⟩ : ∃ q, D.getD a fnone = q := ⟨_, rfl⟩
      obtain ⟨c1, c2, c3, c4⟩ : FC2 wr g off c a p1 p2 q1 q2 := HW.out.fc2 hc6 hc7 hp hq
      have HFC := vl (show FC2 wr.drew g off c a p1 p2 q1 q2 from ⟨c1, c2, c3, c4⟩)
      have HC := vl (fun W => HZ.out p1 p2 q1 q2 W)
      obtain ⟨r, hr⟩ : ∃ r, lexLt (unums p1) (unums q1) = r := ⟨_, rfl⟩
      rw [hr] at HC
      have HUP := vl (fun hh : r = true => HS.out.up HMON.out hc1 hc2 (by unfold P1; rw [hp, hq]; show ¬ lexLt (unums p1) (unums q1) = false; rw [hr, hh]; exact Bool.noConfusion))
      have HDN := vl (fun hh : r = false => HS.out.down HMON.out hc1 hc2 (by unfold P1; rw [hp, hq]; exact hr.trans hh))
      clear hp hq hr HS
      go_wp2_with fail
      go_region_held3 (fun w' => w'.cell? ⟨g, off + c * 2, none⟩ = some (.string p1) ∧ w'.cell? ⟨g, off + c * 2 + 1, none⟩ = some (.string p2) ∧ w'.cell? ⟨g, off + a * 2, none⟩ = some (.string q1) ∧ w'.cell? ⟨g, off + a * 2 + 1, none⟩ = some (.string q2))
        (first | go_keep | (with_reducible exact (HFC.out.below hb2)))
        ((go_at_call 45; refine (HC.out _).mono ?_; rintro e w2 ⟨⟨kk, rfl, hkk⟩, hb2⟩))
      have HW3 : Vl (SW w0 g off len cap D w2) := (HW.out.drew).below hb2
      clear hb2 HFC hkk HC c1 c2 c3 c4 HW hmid
      cases r with
      | true =>
        have HU := vl (HUP.out rfl)
        clear HUP HDN
        go_wp2_with fail
        go_roundw
        case rel => exact ⟨c + 1, t, by go_num, rfl, by omega, htb, by omega, HU, HW3⟩
        case measure => simp [intOf]; omega
      | false =>
        have HU := vl (HDN.out rfl)
        clear HUP HDN
        go_wp2_with fail
        go_roundw
        case rel => exact ⟨s, c, rfl, by go_num, by omega, by omega, by omega, HU, HW3⟩
        case measure => simp [intOf]; omega
    · have hst' : s = t := by omega
      subst hst'
      obtain ⟨Y1, Y2, eY, hi, hM⟩ := HEND.out s HS.out
      obtain ⟨e, rfl⟩ : ∃ e, s = e + 1 := ⟨s - 1, by omega⟩
      have he : e = a + Y1.length := by omega
      have HM := vl hM
      have H0 : Vl (Sh A Y1 x (Y2 ++ B) a D) := vl ⟨[], Y1, rfl, by rw [← HD.out, eY]; simp, by simp [HA.out]⟩
      have HE := vl he
      have hwp : IntKind.i64.wrap (e : Int) = (e : Int) := by rw [IntKind.wrap_i64]; omega
      have hae : a ≤ e := by omega
      have HEE : Vl (∀ k E, Sh A Y1 x (Y2 ++ B) k E → k = e → E = A ++ (Y1 ++ [x] ++ Y2) ++ B) := vl (fun k E hh hk => by
        rw [hh.last (by rw [HA.out]; omega)]
        simp)
      have HUPP : Vl (∀ k E, Sh A Y1 x (Y2 ++ B) k E → k < e → Sh A Y1 x (Y2 ++ B) (k + 1) (swapL fnone E k (k + 1))) := vl (fun k E hh hk => hh.up (by rw [HA.out]; omega))
      clear hM hi he eY hlt HS HMON HEND
      go_wp2_with fail
      go_loopw [13] (fun kv wr2 => ∃ (k : Nat) (E : List FB), kv = .int .i64 k ∧ a ≤ k ∧ k ≤ e ∧ Vl (Sh A Y1 x (Y2 ++ B) k E) ∧ Vl (SW w0 g off len cap E wr2)) (fun kv _ => e - (intOf kv).toNat)
      case atStart => exact ⟨a, D, rfl, Nat.le_refl _, hae, H0, HW⟩
      case round =>
        obtain ⟨k, E, rfl, hak, hke, HSH, HWE⟩ := hrel
        by_cases hlt : k < e
        · have hlt' : (k : Int) < (e : Int) := by omega
          have b3 : k < len := by omega
          have b4 : k + 1 < len := by omega
          have b5 : (k : Int) < (len : Int) := by omega
          have b6 : (k : Int) + 1 < (len : Int) := by omega
          have b7 : (0 : Int) ≤ (k : Int) + 1 := by omega
          obtain ⟨⟨p1, p2⟩, hp⟩ : ∃ p, E.getD k fnone = p := ⟨_, rfl⟩
          obtain ⟨⟨q1, q2⟩, hq⟩ : ∃ q, E.getD (k + 1) fnone = q := ⟨_, rfl⟩
          obtain ⟨c1, c2, c3, c4⟩ : FC2 wr g off k (k + 1) p1 p2 q1 q2 := HWE.out.fc2 b3 b4 hp hq
          have f1 := HWE.out.fro
          obtain ⟨W4, hW4⟩ : ∃ W4, W4 = ((((wr.setCell ⟨g, off + k * 2, none⟩ (.string q1)).setCell ⟨g, off + k * 2 + 1, none⟩ (.string q2)).setCell ⟨g, off + (k + 1) * 2, none⟩ (.string p1)).setCell ⟨g, off + (k + 1) * 2 + 1, none⟩ (.string p2)).drew := ⟨_, rfl⟩
          have HW4 : Vl (SW w0 g off len cap (swapL fnone E k (k + 1)) W4) := by
            rw [hW4]
            exact HWE.out.swap k (k + 1) b3 b4 hp hq
          have HWD := vl hW4
          have HS4 := vl (HUPP.out k E HSH.out hlt)
          clear hW4 hp hq HSH HWE
          go_wp2_with fail
          go_region
          rw [← HWD.out]
          clear HWD c1 c2 c3 c4 f1
          go_wp2_with fail
          go_roundw
          case rel => exact ⟨k + 1, _, by go_num, by omega, by omega, HS4, HW4⟩
          case measure => simp [intOf]; omega
        · have hke' : k = e := by omega
          have HF := vl (HEE.out k E HSH.out hke' ▸ HWE.out)
          have hlt' : ¬ (k : Int) < (e : Int) := by omega
          clear hke'
          go_wp2_with fail
          refine bodyPost_ret (results_none rfl _ _ _) rfl ?_
          exact ⟨⟨_, rfl⟩, _, by simpa using HF.out, HM.out⟩
set_option maxHeartbeats 4000000 in
theorem zsym_right (w0 : World) (g off len cap : Nat) (A X B : List FB) (y : FB) (w : World) (hlen : len ≤ 4398046511104) (hX0 : 2 ≤ X.length) (hX : Srt nmK X) (h : SW w0 g off len cap (A ++ X ++ [y] ++ B) w) :
    Calls Tryd.prog 69 #[.slice (some ⟨g, off, none⟩) len cap, .int .i64 (A.length : Nat), .int .i64 ((A.length + X.length : Nat) : Int), .int .i64 ((A.length + X.length + 1 : Nat) : Int), .func (.func 45) #[] #[]] w fun e w' => (∃ v, e = .returned v) ∧ ∃ Z, SW w0 g off len cap (A ++ Z ++ B) w' ∧ Mrg nmK X [y] Z := by
  have H := vl h
  have hl := h.row.hlen
  have hcap := h.row.hcap
  have HZ := vl zless_any
  have HX := vl hX
  have HMON := vl (p2_mono (A := A) (B := B) (y := y) hX)
  have HEND := vl (fun i => p2_end (A := A) (B := B) (y := y) (i := i) hX)
  obtain ⟨D, hD⟩ : ∃ D, A ++ X ++ [y] ++ B = D := ⟨_, rfl⟩
  rw [hD] at H HMON hl
  simp only [hD] at HEND
  have hln : D.length = A.length + X.length + 1 + B.length := by rw [← hD]; simp; omega
  obtain ⟨a, ha⟩ : ∃ a, A.length = a := ⟨_, rfl⟩
  obtain ⟨m, hm⟩ : ∃ m, a + X.length = m := ⟨_, rfl⟩
  rw [ha] at HMON hln ⊢
  simp only [ha] at HEND
  rw [hm] at HMON hln ⊢
  simp only [hm] at HEND
  have ham : a + 1 < m := by omega
  have hml : m < len := by omega
  have HD := vl hD
  have HA := vl ha
  have HMX := vl hm
  have e1 : ((m + 1 : Nat) : Int) = (m : Int) + 1 := by omega
  rw [e1]
  have e2 : (m : Int) + 1 - (m : Int) = 1 := by omega
  have e3 : ¬ (m : Int) - (a : Int) = 1 := by omega
  have e4 : ((m : Int) - (a : Int) == 1) = false := by simpa using e3
  clear h hl hD hln ha hm hX hX0 e1
  go_enter Tryd.func69, Tryd.ntmps69
  go_wp2_with fail
  go_loopw [14, 15, 16] (fun i j _u wr => ∃ (s t : Nat), i = .int .i64 s ∧ j = .int .i64 t ∧ s ≤ t ∧ t ≤ m ∧ a ≤ s ∧ Vl (Bs (P2 D m) a m s t) ∧ Vl (SW w0 g off len cap D wr)) (fun i j _ _ => (intOf j).toNat - (intOf i).toNat)
  case atStart => exact ⟨a, m, rfl, rfl, by omega, Nat.le_refl _, Nat.le_refl _, Bs.start (by omega), H⟩
  case round =>
    obtain ⟨s, t, rfl, rfl, hst, htb, has, HS, HW⟩ := hrel
    by_cases hlt : s < t
    · have hlt' : (s : Int) < (t : Int) := by omega
      obtain ⟨c, hc⟩ : ∃ c, c = (s + t) / 2 := ⟨_, rfl⟩
      have hmid : ((s : Int) + (t : Int)) / 2 = (c : Int) := by omega
      have hc1 : s ≤ c := by omega
      have hc2 : c < t := by omega
      have hc3 : (0 : Int) ≤ (c : Int) := by omega
      have hc4 : (c : Int) < (len : Int) := by omega
      have hc5 : (m : Int) < (len : Int) := by omega
      have hc6 : c < len := by omega
      clear hc
      obtain ⟨⟨p1, p2⟩, hp⟩ : ∃ p, D.getD m fnone = p := ⟨_, rfl⟩
      obtain ⟨⟨q1, q2⟩, hq⟩ : ∃ q, D.getD c fnone = q := ⟨_, rfl⟩
      obtain ⟨c1, c2, c3, c4⟩ : FC2 wr g off m c p1 p2 q1 q2 := HW.out.fc2 hml hc6 hp hq
      have HFC := vl (show FC2 wr.drew g off m c p1 p2 q1 q2 from ⟨c1, c2, c3, c4⟩)
      have HC := vl (fun W => HZ.out p1 p2 q1 q2 W)
      obtain ⟨r, hr⟩ : ∃ r, lexLt (unums p1) (unums q1) = r := ⟨_, rfl⟩
      rw [hr] at HC
      have HUP := vl (fun hh : r = false => HS.out.up HMON.out hc1 hc2 (by unfold P2; rw [hp, hq]; show ¬ lexLt (unums p1) (unums q1) = true; rw [hr, hh]; exact Bool.noConfusion))
      have HDN := vl (fun hh : r = true => HS.out.down HMON.out hc1 hc2 (by unfold P2; rw [hp, hq]; exact hr.trans hh))
      clear hp hq hr HS
      go_wp2_with fail
      go_region_held3 (fun w' => w'.cell? ⟨g, off + m * 2, none⟩ = some (.string p1) ∧ w'.cell? ⟨g, off + m * 2 + 1, none⟩ = some (.string p2) ∧ w'.cell? ⟨g, off + c * 2, none⟩ = some (.string q1) ∧ w'.cell? ⟨g, off + c * 2 + 1, none⟩ = some (.string q2))
        (first | go_keep | (with_reducible exact (HFC.out.below hb2)))
        ((go_at_call 45; refine (HC.out _).mono ?_; rintro e w2 ⟨⟨kk, rfl, hkk⟩, hb2⟩))
      have HW3 : Vl (SW w0 g off len cap D w2) := (HW.out.drew).below hb2
      clear hb2 HFC hkk HC c1 c2 c3 c4 HW hmid
      cases r with
      | false =>
        have HU := vl (HUP.out rfl)
        clear HUP HDN
        go_wp2_with fail
        go_roundw
        case rel => exact ⟨c + 1, t, by go_num, rfl, by omega, htb, by omega, HU, HW3⟩
        case measure => simp [intOf]; omega
      | true =>
        have HU := vl (HDN.out rfl)
        clear HUP HDN
        go_wp2_with fail
        go_roundw
        case rel => exact ⟨s, c, rfl, by go_num, by omega, by omega, by omega, HU, HW3⟩
        case measure => simp [intOf]; omega
    · have hst' : s = t := by omega
      subst hst'
      obtain ⟨X1, X2, eX, hi, hM⟩ := HEND.out s HS.out
      have hxl : X.length = X1.length + X2.length := by rw [eX]; simp
      have HM := vl hM
      have hmx := HMX.out
      have H0 : Vl (Sh (A ++ X1) X2 y B m D) := vl ⟨X2, [], by simp, by rw [← HD.out, eX]; simp, by rw [List.length_append, HA.out]; omega⟩
      have HEE : Vl (∀ k E, Sh (A ++ X1) X2 y B k E → k = s → E = A ++ (X1 ++ [y] ++ X2) ++ B) := vl (fun k E hh hk => by
        rw [hh.first (by rw [List.length_append, HA.out]; omega)]
        simp)
      have HDN : Vl (∀ k E, Sh (A ++ X1) X2 y B (k + 1) E → s < k + 1 → Sh (A ++ X1) X2 y B k (swapL fnone E (k + 1) k)) := vl (fun k E hh hk => hh.down (by rw [List.length_append, HA.out]; omega))
      clear hM hi eX hlt HS HMON HEND hxl hmx
      go_wp2_with fail
      go_loopw [17] (fun kv wr2 => ∃ (k : Nat) (E : List FB), kv = .int .i64 k ∧ s ≤ k ∧ k ≤ m ∧ Vl (Sh (A ++ X1) X2 y B k E) ∧ Vl (SW w0 g off len cap E wr2)) (fun kv _ => (intOf kv).toNat)
      case atStart => exact ⟨m, D, rfl, by omega, Nat.le_refl _, H0, HW⟩
      case round =>
        obtain ⟨k, E, rfl, hak, hke, HSH, HWE⟩ := hrel
        by_cases hlt : s < k
        · obtain ⟨k, rfl⟩ : ∃ k', k = k' + 1 := ⟨k - 1, by omega⟩
          have hlt' : (s : Int) < (k : Int) + 1 := by omega
          have hwp : IntKind.i64.wrap (k : Int) = (k : Int) := by rw [IntKind.wrap_i64]; omega
          have b3 : k < len := by omega
          have b4 : k + 1 < len := by omega
          have b5 : (k : Int) < (len : Int) := by omega
          have b6 : (k : Int) + 1 < (len : Int) := by omega
          have b7 : (0 : Int) ≤ (k : Int) + 1 := by omega
          obtain ⟨⟨p1, p2⟩, hp⟩ : ∃ p, E.getD (k + 1) fnone = p := ⟨_, rfl⟩
          obtain ⟨⟨q1, q2⟩, hq⟩ : ∃ q, E.getD k fnone = q := ⟨_, rfl⟩
          obtain ⟨c1, c2, c3, c4⟩ : FC2 wr g off (k + 1) k p1 p2 q1 q2 := HWE.out.fc2 b4 b3 hp hq
          have f1 := HWE.out.fro
          obtain ⟨W4, hW4⟩ : ∃ W4, W4 = ((((wr.setCell ⟨g, off + (k + 1) * 2, none⟩ (.string q1)).setCell ⟨g, off + (k + 1) * 2 + 1, none⟩ (.string q2)).setCell ⟨g, off + k * 2, none⟩ (.string p1)).setCell ⟨g, off + k * 2 + 1, none⟩ (.string p2)).drew := ⟨_, rfl⟩
          have HW4 : Vl (SW w0 g off len cap (swapL fnone E (k + 1) k) W4) := by
            rw [hW4]
            exact HWE.out.swap (k + 1) k b4 b3 hp hq
          have HWD := vl hW4
          have HS4 := vl (HDN.out k E HSH.out hlt)
          clear hW4 hp hq HSH HWE
          go_wp2_with fail
          go_region
          rw [← HWD.out]
          clear HWD c1 c2 c3 c4 f1
          go_wp2_with fail
          go_roundw
          case rel => exact ⟨k, _, by go_num, by omega, by omega, HS4, HW4⟩
          case measure => simp [intOf]
        · have hke' : k = s := by omega
          have HF := vl (HEE.out k E HSH.out hke' ▸ HWE.out)
          have hlt' : ¬ (s : Int) < (k : Int) := by omega
          clear hke'
          go_wp2_with fail
          refine bodyPost_ret (results_none rfl _ _ _) rfl ?_
          exact ⟨⟨_, rfl⟩, _, by simpa using HF.out, HM.out⟩
end Go.Proofs.YtibipnipeaeonaaDoor
