/-
  ORDER: the library's merge in place, whole. No claim by itself.
-/
import Derived.Deep.DeepCutAuto
import Derived.Deep.CutBlock
import Derived.Test.YtibipnipeaeonaaDoorZs5X
namespace Go.Proofs.YtibipnipeaeonaaDoor
open Go Go.RowKit
set_option maxRecDepth 100000
set_option maxHeartbeats 4000000 in
theorem zsym_mid (w0 : World) (g off len cap N : Nat) (hlen : len ≤ 4398046511104) (IH : SymSaid w0 g off len cap N) (A X Y B : List FB) (w : World) (hN : X.length + Y.length ≤ N + 1) (hX0 : 2 ≤ X.length) (hY0 : 2 ≤ Y.length) (hX : Srt nmK X) (hY : Srt nmK Y) (h : SW w0 g off len cap (A ++ X ++ Y ++ B) w) :
    Calls Tryd.prog 69 #[.slice (some ⟨g, off, none⟩) len cap, .int .i64 (A.length : Nat), .int .i64 ((A.length + X.length : Nat) : Int), .int .i64 ((A.length + X.length + Y.length : Nat) : Int), .func (.func 45) #[] #[]] w fun e w' => (∃ v, e = .returned v) ∧ ∃ Z, SW w0 g off len cap (A ++ Z ++ B) w' ∧ Mrg nmK X Y Z := by
  have H := vl h
  have HIH := vl IH
  have hl := h.row.hlen
  have hcap := h.row.hcap
  have HZ := vl zless_any
  obtain ⟨D, hD⟩ : ∃ D, A ++ X ++ Y ++ B = D := ⟨_, rfl⟩
  have hln : D.length = A.length + X.length + Y.length + B.length := by rw [← hD]; simp; omega
  obtain ⟨a, ha⟩ : ∃ a, A.length = a := ⟨_, rfl⟩
  obtain ⟨m, hm⟩ : ∃ m, a + X.length = m := ⟨_, rfl⟩
  obtain ⟨b, hb⟩ : ∃ b, m + Y.length = b := ⟨_, rfl⟩
  obtain ⟨mid, hmd⟩ : ∃ mid, mid = (a + b) / 2 := ⟨_, rfl⟩
  have HMON := vl (fun s0 r0 (h : Cut3 a m b mid s0 r0) => p3_mono (A := A) (B := B) h ha.symm (by omega) (by omega) hX hY)
  have HEND := vl (fun s0 r0 s (h : Cut3 a m b mid s0 r0) => p3_end (A := A) (B := B) (s := s) h ha.symm (by omega) (by omega) hX hY)
  rw [hD] at H hl
  simp only [hD] at HMON HEND
  rw [ha] at hln ⊢
  rw [hm] at hln ⊢
  rw [hb] at hln ⊢
  have ham : a + 1 < m := by omega
  have hmb : m + 1 < b := by omega
  have hbl : b ≤ len := by omega
  have hNN : b - a ≤ N + 1 := by omega
  have HD := vl hD
  have HA := vl ha
  have HMX := vl hm
  have HBY := vl hb
  have HX := vl hX
  have HY := vl hY
  have HMD := vl hmd
  have e1 : ¬ (m : Int) - (a : Int) = 1 := by omega
  have e2 : ((m : Int) - (a : Int) == 1) = false := by simpa using e1
  have e3 : ¬ (b : Int) - (m : Int) = 1 := by omega
  have e4 : ((b : Int) - (m : Int) == 1) = false := by simpa using e3
  have e5 : ((a : Int) + (b : Int)) / 2 = (mid : Int) := by omega
  have e6 : mid < b := by omega
  have e7 : a < mid := by omega
  clear h hl hD hln ha hm hb hX hX0 hY hY0 hN IH hmd
  go_enter Tryd.func69, Tryd.ntmps69
  go_upto_if 140 with fail
  go_cut [20, 21] (fun sv rv wx => ∃ s0 r0 : Nat, sv = .int .i64 s0 ∧ rv = .int .i64 r0 ∧ Vl (Cut3 a m b mid s0 r0) ∧ w = wx)
  case first =>
    as_aux_lemma =>
      by_cases hw : mid < m
      · have hw' : (mid : Int) < (m : Int) := by omega
        go_wp2_with fail
        go_meet
        exact ⟨mid + m - b, mid, by congr 1; omega, rfl, vl ⟨by omega, by omega, HMD.out, Or.inl ⟨hw, rfl, rfl⟩⟩, rfl⟩
      · have hw' : ¬ (mid : Int) < (m : Int) := by omega
        go_wp2_with fail
        go_meet
        exact ⟨a, m, rfl, rfl, vl ⟨by omega, by omega, HMD.out, Or.inr ⟨by omega, rfl, rfl⟩⟩, rfl⟩
  case rest =>
  obtain ⟨s0, r0, rfl, rfl, HC3, rfl⟩ := hcut
  obtain ⟨p, hp⟩ : ∃ p, p = mid + m - 1 := ⟨_, rfl⟩
  have e8 : (mid : Int) + (m : Int) - 1 = (p : Int) := by omega
  have HPP := vl hp
  have HRNG := vl (fun c (h1 : s0 ≤ c) (h2 : c < r0) => HC3.out.rng h1 h2)
  have HM3 := vl (HMON.out s0 r0 HC3.out)
  have HE3 := vl (fun s => HEND.out s0 r0 s HC3.out)
  rw [← hp] at HM3 HRNG
  simp only [← hp] at HE3 HRNG
  have hsr : s0 ≤ r0 := by
    have := HC3.out.am; have := HC3.out.mb; have := HC3.out.mid_
    rcases HC3.out.way with ⟨h3, h4, h5⟩ | ⟨h3, h4, h5⟩ <;> omega
  have hrm : r0 ≤ m := by rcases HC3.out.way with ⟨h3, h4, h5⟩ | ⟨h3, h4, h5⟩ <;> omega
  clear hp HMON HEND HC3
  go_wp2_with fail
  go_loopw [20, 21, 23] (fun i j _u wr => ∃ (s t : Nat), i = .int .i64 s ∧ j = .int .i64 t ∧ s ≤ t ∧ t ≤ r0 ∧ s0 ≤ s ∧ Vl (Bs (P3 D p) s0 r0 s t) ∧ Vl (SW w0 g off len cap D wr)) (fun i j _ _ => (intOf j).toNat - (intOf i).toNat)
  case atStart => exact ⟨s0, r0, rfl, rfl, hsr, Nat.le_refl _, Nat.le_refl _, Bs.start hsr, H⟩
  case round =>
    obtain ⟨s, t, rfl, rfl, hst, htb, has, HS, HW⟩ := hrel
    by_cases hlt : s < t
    · as_aux_lemma =>
      have hlt' : (s : Int) < (t : Int) := by omega
      obtain ⟨c, hc⟩ : ∃ c, c = (s + t) / 2 := ⟨_, rfl⟩
      have hmid : ((s : Int) + (t : Int)) / 2 = (c : Int) := by omega
      have hc1 : s ≤ c := by omega
      have hc2 : c < t := by omega
      obtain ⟨q1, q2, q3, q4⟩ := HRNG.out c (by omega) (by omega)
      obtain ⟨d, hd⟩ : ∃ d, d = p - c := ⟨_, rfl⟩
      have hpd : (p : Int) - (c : Int) = (d : Int) := by omega
      have hwd : IntKind.i64.wrap (d : Int) = (d : Int) := by rw [IntKind.wrap_i64]; omega
      have hwc : IntKind.i64.wrap ((p : Int) - (c : Int)) = (d : Int) := by rw [hpd]; exact hwd
      have hd0 : (0 : Int) ≤ (d : Int) := by omega
      have hc3 : (0 : Int) ≤ (c : Int) := by omega
      have hc4 : (c : Int) < (len : Int) := by omega
      have hc5 : (d : Int) < (len : Int) := by omega
      have hc6 : c < len := by omega
      have hc7 : d < len := by omega
      clear hc q1 q2 q3 q4
      obtain ⟨⟨p1, p2⟩, hp⟩ : ∃ p, D.getD d fnone = p := ⟨_, rfl⟩
      obtain ⟨⟨q1, q2⟩, hq⟩ : ∃ q, D.getD c fnone = q := ⟨_, rfl⟩
      obtain ⟨c1, c2, c3, c4⟩ : FC2 wr g off d c p1 p2 q1 q2 := HW.out.fc2 hc7 hc6 hp hq
      have HFC := vl (show FC2 wr.drew g off d c p1 p2 q1 q2 from ⟨c1, c2, c3, c4⟩)
      have HC := vl (fun W => HZ.out p1 p2 q1 q2 W)
      obtain ⟨r, hr⟩ : ∃ r, lexLt (unums p1) (unums q1) = r := ⟨_, rfl⟩
      rw [hr] at HC
      have HUP := vl (fun hh : r = false => HS.out.up HM3.out hc1 hc2 (by unfold P3; rw [← hd, hp, hq]; show ¬ lexLt (unums p1) (unums q1) = true; rw [hr, hh]; exact Bool.noConfusion))
      have HDN := vl (fun hh : r = true => HS.out.down HM3.out hc1 hc2 (by unfold P3; rw [← hd, hp, hq]; exact hr.trans hh))
      clear hp hq hr HS hd
      go_wp2_with fail
      go_region_held3 (fun w' => w'.cell? ⟨g, off + d * 2, none⟩ = some (.string p1) ∧ w'.cell? ⟨g, off + d * 2 + 1, none⟩ = some (.string p2) ∧ w'.cell? ⟨g, off + c * 2, none⟩ = some (.string q1) ∧ w'.cell? ⟨g, off + c * 2 + 1, none⟩ = some (.string q2))
        (first | go_keep | (with_reducible exact (HFC.out.below hb2)))
        ((go_at_call 45; refine (HC.out _).mono ?_; rintro e w2 ⟨⟨kk, rfl, hkk⟩, hb2⟩))
      have HW3 : Vl (SW w0 g off len cap D w2) := (HW.out.drew).below hb2
      clear hb2 HFC hkk HC c1 c2 c3 c4 HW hmid hpd
      cases r with
      | false =>
        have HU := vl (HUP.out rfl)
        clear HUP HDN
        go_wp2_with fail
        go_roundw
        case rel => exact ⟨c + 1, t, by go_num, rfl, by omega, htb, by omega, HU, HW3⟩
        case measure => simp [intOf]; omega
      | true =>
        have HU := vl (HDN.out rfl)
        clear HUP HDN
        go_wp2_with fail
        go_roundw
        case rel => exact ⟨s, c, rfl, by go_num, by omega, by omega, by omega, HU, HW3⟩
        case measure => simp [intOf]; omega
    · have hst' : s = t := by omega
      subst hst'
      obtain ⟨X1, X2, Y1, Y2, eX, eY, k1, k2, k3, k4, k5, k6, hL1, hL2⟩ := HE3.out s HS.out
      obtain ⟨e, he⟩ : ∃ e, e = mid + m - s := ⟨_, rfl⟩
      have hes : (mid : Int) + (m : Int) - (s : Int) = (e : Int) := by omega
      have lX : X.length = X1.length + X2.length := by rw [eX]; simp
      have lY : Y.length = Y1.length + Y2.length := by rw [eY]; simp
      have hA := HA.out
      have hMX := HMX.out
      have hBY := HBY.out
      have n1 : m = s + X2.length := by omega
      have n2 : e = m + Y1.length := by omega
      have n3 : b = e + Y2.length := by omega
      obtain ⟨T, hT⟩ : ∃ T, T = A ++ X1 ++ Y1 ++ (X2 ++ Y2 ++ B) := ⟨_, rfl⟩
      have HT := vl hT
      have HROT : Vl (s < m → m < e → Rot T m (m - s) (e - m) D) := vl (fun h1 h2 => ⟨A ++ X1, X2, Y1, Y2 ++ B, by rw [← HD.out, eX, eY]; simp, by simp; omega, by omega, by omega, by rw [hT]; simp, by omega, by omega⟩)
      have HSAME : Vl (¬ (s < m ∧ m < e) → D = T) := vl (fun hh => by
        rw [hT, ← HD.out, eX, eY]
        rcases Nat.lt_or_ge s m with h1 | h1
        · have : Y1 = [] := List.length_eq_zero_iff.1 (by omega)
          subst this; simp
        · have : X2 = [] := List.length_eq_zero_iff.1 (by omega)
          subst this; simp)
      have HX1 : Vl (Srt nmK X1) := vl (srt_left (eX ▸ HX.out))
      have HX2 : Vl (Srt nmK X2) := vl (srt_right (eX ▸ HX.out))
      have HY1 : Vl (Srt nmK Y1) := vl (srt_left (eY ▸ HY.out))
      have HY2 : Vl (Srt nmK Y2) := vl (srt_right (eY ▸ HY.out))
      have HFIN : Vl (∀ Z1 Z2, Mrg nmK X1 Y1 Z1 → Mrg nmK X2 Y2 Z2 → Mrg nmK X Y (Z1 ++ Z2)) := vl (fun Z1 Z2 h1 h2 => by
        rw [eX, eY]
        exact mrg_mid (eX ▸ HX.out) (eY ▸ HY.out) hL1 hL2 h1 h2)
      have HN1 := vl n1
      have HN2 := vl n2
      have HN3 := vl n3
      have HK1 := vl k1
      have HK3 := vl k3
      have hsm : s ≤ m := k4
      have hme : m ≤ e := by omega
      have heb : e ≤ b := by omega
      have hsd : s ≤ mid := by omega
      have hde : mid ≤ e := by omega
      have hasz : a ≤ s := by omega
      clear hL1 hL2 eX eY lX lY hA hMX hBY hT HS HE3 HM3 HRNG hlt n1 n2 n3 k1 k2 k3 k4 k5 k6 he e8 HX HY
      obtain ⟨wO, hwO⟩ : ∃ x, x = wr := ⟨_, rfl⟩
      subst hwO
      go_upto_region 39 with fail
      go_cut [185] (fun bv wx => ∃ q : Bool, bv = .bool q ∧ Vl ((q = true ∧ s < m ∧ m < e) ∨ (q = false ∧ ¬ (s < m ∧ m < e))) ∧ wO = wx)
      case first =>
        as_aux_lemma =>
          by_cases h1 : s < m
          · have h1' : (s : Int) < (m : Int) := by omega
            by_cases h2 : m < e
            · have h2' : (m : Int) < (e : Int) := by omega
              go_wp2_with fail
              go_meet
              exact ⟨true, by simp, vl (Or.inl ⟨rfl, h1, h2⟩), rfl⟩
            · have h2' : ¬ (m : Int) < (e : Int) := by omega
              go_wp2_with fail
              go_meet
              exact ⟨false, by simp, vl (Or.inr ⟨rfl, fun hh => h2 hh.2⟩), rfl⟩
          · have h1' : ¬ (s : Int) < (m : Int) := by omega
            go_wp2_with fail
            go_meet
            exact ⟨false, by simp, vl (Or.inr ⟨rfl, fun hh => h1 hh.1⟩), rfl⟩
      case rest =>
      obtain ⟨q, rfl, HQ1, rfl⟩ := hcut
      go_upto_if 185 with fail
      go_cut [] (fun wx => Vl (SW w0 g off len cap T wx))
      case first =>
        as_aux_lemma =>
          rcases HQ1.out with ⟨rfl, h1, h2⟩ | ⟨rfl, h1⟩
          · have HC := vl (zrot_any w0 g off len cap s m e (.func (.func 45) #[] #[]) D T wO HW.out (by omega) h1 h2 (by omega) (HROT.out h1 h2))
            go_wp2_with fail
            refine HC.out.mono ?_
            rintro _ w1 ⟨⟨v, rfl⟩, hw⟩
            go_wp2_with fail
            go_meet
            exact vl hw
          · have HF : Vl (SW w0 g off len cap T wO) := HSAME.out h1 ▸ HW.out
            go_wp2_with fail
            go_meet
            exact HF
      case rest =>
      have HW1 := hcut
      clear hcut HROT HSAME HW HQ1 H
      obtain ⟨w1, hw1⟩ : ∃ x, x = wc := ⟨_, rfl⟩
      subst hw1
      go_upto_region 41 with fail
      go_cut [199] (fun bv wx => ∃ q : Bool, bv = .bool q ∧ Vl ((q = true ∧ a < s ∧ s < mid) ∨ (q = false ∧ ¬ (a < s ∧ s < mid))) ∧ w1 = wx)
      case first =>
        as_aux_lemma =>
          by_cases h1 : a < s
          · have h1' : (a : Int) < (s : Int) := by omega
            by_cases h2 : s < mid
            · have h2' : (s : Int) < (mid : Int) := by omega
              go_wp2_with fail
              go_meet
              exact ⟨true, by simp, vl (Or.inl ⟨rfl, h1, h2⟩), rfl⟩
            · have h2' : ¬ (s : Int) < (mid : Int) := by omega
              go_wp2_with fail
              go_meet
              exact ⟨false, by simp, vl (Or.inr ⟨rfl, fun hh => h2 hh.2⟩), rfl⟩
          · have h1' : ¬ (a : Int) < (s : Int) := by omega
            go_wp2_with fail
            go_meet
            exact ⟨false, by simp, vl (Or.inr ⟨rfl, fun hh => h1 hh.1⟩), rfl⟩
      case rest =>
      obtain ⟨q, rfl, HQ2, rfl⟩ := hcut
      go_upto_if 199 with fail
      go_cut [] (fun wx => Vl (∃ Z1, SW w0 g off len cap (A ++ Z1 ++ (X2 ++ Y2 ++ B)) wx ∧ Mrg nmK X1 Y1 Z1))
      case first =>
        as_aux_lemma =>
          rcases HQ2.out with ⟨rfl, h1, h2⟩ | ⟨rfl, h1⟩
          · have e9 : Vl (A.length + X1.length = s) := vl (by have := HA.out; have := HK1.out; omega)
            have HC := vl (HIH.out A X1 Y1 (X2 ++ Y2 ++ B) w1 (by have := HK1.out; have := HK3.out; omega) (fun e => by have := HK1.out; rw [e] at this; simp at this; omega) (fun e => by have := HK3.out; rw [e] at this; simp at this; omega) HX1.out HY1.out (HT.out ▸ HW1.out))
            rw [e9.out, HA.out, show s + Y1.length = mid from HK3.out] at HC
            go_wp2_with fail
            refine HC.out.mono ?_
            rintro _ w2 ⟨⟨v, rfl⟩, Z1, hw, hM⟩
            have HF := vl hw
            have HF2 := vl hM
            clear hw hM
            go_wp2_with fail
            go_meet
            exact vl ⟨Z1, HF.out, HF2.out⟩
          · have HF : Vl (∃ Z1, SW w0 g off len cap (A ++ Z1 ++ (X2 ++ Y2 ++ B)) w1 ∧ Mrg nmK X1 Y1 Z1) := vl (by
              have hk1 := HK1.out
              have hk3 := HK3.out
              rcases Nat.lt_or_ge a s with h2 | h2
              · have : Y1 = [] := List.length_eq_zero_iff.1 (by omega)
                subst this
                exact ⟨X1, by have := HW1.out; rw [HT.out] at this; simpa using this, mrg_nilR HX1.out⟩
              · have : X1 = [] := List.length_eq_zero_iff.1 (by omega)
                subst this
                exact ⟨Y1, by have := HW1.out; rw [HT.out] at this; simpa using this, mrg_nilL HY1.out⟩)
            go_wp2_with fail
            go_meet
            exact HF
      case rest =>
      obtain ⟨Z1, hZ1, hM1⟩ := hcut.out
      have HW2 := vl hZ1
      have HM1 := vl hM1
      clear hcut hZ1 hM1 HW1 HQ2
      obtain ⟨w2, hw2⟩ : ∃ x, x = wc := ⟨_, rfl⟩
      subst hw2
      go_upto_region 43 with fail
      go_cut [213] (fun bv wx => ∃ q : Bool, bv = .bool q ∧ Vl ((q = true ∧ mid < e ∧ e < b) ∨ (q = false ∧ ¬ (mid < e ∧ e < b))) ∧ w2 = wx)
      case first =>
        as_aux_lemma =>
          by_cases h1 : mid < e
          · have h1' : (mid : Int) < (e : Int) := by omega
            by_cases h2 : e < b
            · have h2' : (e : Int) < (b : Int) := by omega
              go_wp2_with fail
              go_meet
              exact ⟨true, by simp, vl (Or.inl ⟨rfl, h1, h2⟩), rfl⟩
            · have h2' : ¬ (e : Int) < (b : Int) := by omega
              go_wp2_with fail
              go_meet
              exact ⟨false, by simp, vl (Or.inr ⟨rfl, fun hh => h2 hh.2⟩), rfl⟩
          · have h1' : ¬ (mid : Int) < (e : Int) := by omega
            go_wp2_with fail
            go_meet
            exact ⟨false, by simp, vl (Or.inr ⟨rfl, fun hh => h1 hh.1⟩), rfl⟩
      case rest =>
      obtain ⟨q, rfl, HQ3, rfl⟩ := hcut
      rcases HQ3.out with ⟨rfl, h1, h2⟩ | ⟨rfl, h1⟩
      · have e9 : Vl ((A ++ Z1).length = mid) := vl (by have := HA.out; have := HK1.out; have := HK3.out; have := HM1.out.len; rw [List.length_append]; omega)
        have e10 : Vl (mid + X2.length = e) := vl (by have := HN1.out; have := HN2.out; have := HK3.out; omega)
        have HC := vl (HIH.out (A ++ Z1) X2 Y2 B w2 (by have := e10.out; have := HN3.out; omega) (fun e => by have := e10.out; rw [e] at this; simp at this; omega) (fun e => by have := HN3.out; rw [e] at this; simp at this; omega) HX2.out HY2.out (by have := HW2.out; simpa using this))
        rw [e9.out, e10.out, show e + Y2.length = b from HN3.out.symm] at HC
        go_wp2_with fail
        refine HC.out.mono ?_
        rintro _ w3 ⟨⟨v, rfl⟩, Z2, hw, hM⟩
        have HF := vl hw
        have HF2 := vl (HFIN.out Z1 Z2 HM1.out hM)
        clear hw hM
        go_wp2_with fail
        go_end0
        exact ⟨⟨_, rfl⟩, Z1 ++ Z2, by have := HF.out; simpa using this, HF2.out⟩
      · have HF : Vl (∃ Z2, SW w0 g off len cap (A ++ Z1 ++ (Z2 ++ B)) w2 ∧ Mrg nmK X2 Y2 Z2) := vl (by
          have hn1 := HN1.out
          have hn2 := HN2.out
          have hn3 := HN3.out
          have hk3 := HK3.out
          rcases Nat.lt_or_ge mid e with h2 | h2
          · have : Y2 = [] := List.length_eq_zero_iff.1 (by omega)
            subst this
            exact ⟨X2, by have := HW2.out; simpa using this, mrg_nilR HX2.out⟩
          · have : X2 = [] := List.length_eq_zero_iff.1 (by omega)
            subst this
            exact ⟨Y2, by have := HW2.out; simpa using this, mrg_nilL HY2.out⟩)
        obtain ⟨Z2, hw, hM⟩ := HF.out
        have HF1 := vl hw
        have HF2 := vl (HFIN.out Z1 Z2 HM1.out hM)
        clear hw hM HF
        go_wp2_with fail
        go_end0
        exact ⟨⟨_, rfl⟩, Z1 ++ Z2, by have := HF1.out; simpa using this, HF2.out⟩
theorem zsym_any (w0 : World) (g off len cap : Nat) (hlen : len ≤ 4398046511104) : ∀ N, SymSaid w0 g off len cap N
  | 0 => fun A X Y B w hN hX hY _ _ _ => absurd (List.length_eq_zero_iff.1 (show X.length = 0 by omega)) hX
  | N + 1 => fun A X Y B w hN hX0 hY0 hX hY h => by
    by_cases h1 : X.length = 1
    · obtain ⟨x, rfl⟩ := List.length_eq_one_iff.1 h1
      exact zsym_left w0 g off len cap A Y B x w hlen hY0 hY h
    · have hx : 0 < X.length := List.length_pos_iff.2 hX0
      have hy : 0 < Y.length := List.length_pos_iff.2 hY0
      by_cases h2 : Y.length = 1
      · obtain ⟨y, rfl⟩ := List.length_eq_one_iff.1 h2
        exact zsym_right w0 g off len cap A X B y w hlen (by omega) hX h
      · exact zsym_mid w0 g off len cap N hlen (zsym_any w0 g off len cap hlen N) A X Y B w hN (by omega) (by omega) hX hY h
end Go.Proofs.YtibipnipeaeonaaDoor
