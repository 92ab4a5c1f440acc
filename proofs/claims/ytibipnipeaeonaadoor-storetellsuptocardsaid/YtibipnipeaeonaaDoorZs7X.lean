/-
  ORDER: the library's stable sort. No claim by itself.
-/
import Derived.Test.YtibipnipeaeonaaDoorZs7mX
namespace Go.Proofs.YtibipnipeaeonaaDoor
open Go Go.RowKit
set_option maxRecDepth 100000
set_option maxHeartbeats 4000000 in
theorem zstab_any (w0 : World) (g off len cap : Nat) (D : List FB) (w : World) (h : SW w0 g off len cap D w) (hlen : len ≤ 4398046511104) :
    Calls Tryd.prog 56 #[.slice (some ⟨g, off, none⟩) len cap, .int .i64 len, .func (.func 45) #[] #[]] w fun e w' => (∃ v, e = .returned v) ∧ ∃ E, SW w0 g off len cap E w' ∧ Srt nmK E ∧ Sby nmK D E := by
  have H := vl h
  have hcap := h.row.hcap
  have HSYM := vl (fun N => zsym_any w0 g off len cap hlen N)
  have HINS := vl (fun A X R W hh => zins_any w0 g off len cap A X R W hh hlen)
  clear h
  go_enter Tryd.func56, Tryd.ntmps56
  go_wp2_with fail
  go_loopw [7, 8] (fun av bv wr => ∃ (a b : Nat) (E : List FB), av = .int .i64 a ∧ bv = .int .i64 b ∧ b = a + 20 ∧ a ≤ len ∧ Vl (Ph1 D a E) ∧ Vl (SW w0 g off len cap E wr)) (fun av _ _ => len - (intOf av).toNat)
  case atStart => exact ⟨0, 20, D, rfl, rfl, rfl, by omega, vl ⟨[], D, by simp, (fun b hb => by cases hb), rfl, Sby.refl _⟩, H⟩
  case round =>
    obtain ⟨a, b, E, rfl, rfl, hb, hal, HP, HW⟩ := hrel
    have hEl := HW.out.row.hlen
    by_cases hle : b ≤ len
    · as_aux_lemma =>
      have hle' : (b : Int) ≤ (len : Int) := by omega
      obtain ⟨A, X, R, eE, lA, lX, hN⟩ := HP.out.next (by omega)
      have HC := vl (HINS.out A X R wr (eE ▸ HW.out))
      rw [lA, lX, ← hb] at HC
      have HN := vl (fun Z h1 h2 (h3 : Z.length = 20) => hN Z h1 h2 (h3.trans lX.symm))
      obtain ⟨b2, hb2⟩ : ∃ b2, b2 = b + 20 := ⟨_, rfl⟩
      have hbb : (b : Int) + 20 = (b2 : Int) := by omega
      have HBE := vl hb
      have HB2 := vl hb2
      have hab : a < b := by omega
      clear eE lA lX hN HP HW hEl hb hb2
      go_wp2_with fail
      refine HC.out.mono ?_
      rintro _ w1 ⟨⟨v, rfl⟩, Z, hw, h1, h2, h3⟩
      have HW1 := vl hw
      have HP1 := vl (HN.out Z h1 h2 h3)
      clear hw h1 h2 h3 HC
      go_wp2_with fail
      go_roundw
      case rel => exact ⟨b, b2, _, rfl, rfl, HB2.out, hle, by rw [HBE.out]; exact HP1, HW1⟩
      case measure => simp [intOf]; omega
    · have hle' : ¬ (b : Int) ≤ (len : Int) := by omega
      obtain ⟨A, X, eE, lA, lX, hN⟩ := HP.out.fin (by omega)
      have HC := vl (HINS.out A X [] wr (eE ▸ HW.out))
      rw [lX, lA, hEl] at HC
      have HN := vl hN
      clear eE lA lX hN HP HW hEl hb hle
      go_wp2_with fail
      refine HC.out.mono ?_
      rintro _ w1 ⟨⟨v, rfl⟩, Z, hw, h1, h2, h3⟩
      have HW1 := vl hw
      have HR1 := vl (HN.out Z h1 h2 h3)
      obtain ⟨E1, hE1⟩ : ∃ E1, E1 = A ++ Z ++ [] := ⟨_, rfl⟩
      rw [← hE1] at HW1 HR1
      clear hw h1 h2 h3 HC HN hE1
      go_wp2_with fail
      go_loopw [6, 7, 8, 9] (fun sv _av _bv _mv wr2 => ∃ (s : Nat) (E : List FB), sv = .int .i64 s ∧ 20 ≤ s ∧ s ≤ 2 * len + 20 ∧ Vl (Runs nmK s E) ∧ Vl (Sby nmK D E) ∧ Vl (SW w0 g off len cap E wr2)) (fun sv _ _ _ _ => len - (intOf sv).toNat)
      case atStart => exact ⟨20, E1, rfl, by omega, by omega, vl HR1.out.1, vl HR1.out.2, HW1⟩
      case round =>
        obtain ⟨s, E, rfl, hs20, hs2, HRU, HSB, HWE⟩ := hrel
        have hEl := HWE.out.row.hlen
        obtain ⟨wO, hwO⟩ : ∃ x, x = wr := ⟨_, rfl⟩
        subst hwO
        by_cases hlt : s < len
        · have hlt' : (s : Int) < (len : Int) := by omega
          obtain ⟨d, hd⟩ : ∃ d, d = 2 * s := ⟨_, rfl⟩
          have hd1 : 2 * (s : Int) = (d : Int) := by omega
          have hd2 : (s : Int) * 2 = (d : Int) := by omega
          have HD := vl hd
          have HP0 := vl (Ph2.start HRU.out HSB.out)
          have hdl : d ≤ 2 * len := by omega
          clear hd HRU HSB hEl
          go_wp2_with fail
          go_loopw [7, 8] (fun av bv wr2 => ∃ (a b : Nat) (E : List FB), av = .int .i64 a ∧ bv = .int .i64 b ∧ b = a + d ∧ a ≤ len ∧ Vl (Ph2 D s a E) ∧ Vl (SW w0 g off len cap E wr2)) (fun av _ _ => len - (intOf av).toNat)
          case atStart => exact ⟨0, d, E, rfl, rfl, by omega, by omega, HP0, HWE⟩
          case round =>
            obtain ⟨a, b, E2, rfl, rfl, hb, hal, HP, HW⟩ := hrel
            have hEl := HW.out.row.hlen
            obtain ⟨m, hm⟩ : ∃ m, m = a + s := ⟨_, rfl⟩
            have hm1 : (a : Int) + (s : Int) = (m : Int) := by omega
            have hds := HD.out
            by_cases hle : b ≤ len
            · as_aux_lemma =>
              have hle' : (b : Int) ≤ (len : Int) := by omega
              obtain ⟨A, X, Y, B, eE, lA, lX, lY, sX, sY, hN⟩ := HP.out.next (by omega)
              have HC := vl (HSYM.out _ A X Y B wr (Nat.le_refl _) (fun e => by rw [e] at lX; simp at lX; omega) (fun e => by rw [e] at lY; simp at lY; omega) sX sY (eE ▸ HW.out))
              rw [lA, lX, lY, show a + s + s = b by omega, ← hm] at HC
              have HN := vl hN
              obtain ⟨b2, hb2⟩ : ∃ b2, b2 = b + d := ⟨_, rfl⟩
              have hbb : (b : Int) + (d : Int) = (b2 : Int) := by omega
              have HBE : Vl (a + 2 * s = b) := vl (by omega)
              have hab : a < b := by omega
              have HB2 := vl hb2
              clear eE lA lX lY sX sY hN HP HW hEl hm hb hds hb2
              go_wp2_with fail
              refine HC.out.mono ?_
              rintro _ w3 ⟨⟨v, rfl⟩, Z, hw, hM⟩
              have HW3 := vl hw
              have HP3 := vl (HN.out Z hM)
              rw [HBE.out] at HP3
              clear hw hM HC HN
              go_wp2_with fail
              go_roundw
              case rel => exact ⟨b, b2, _, rfl, rfl, HB2.out, hle, HP3, HW3⟩
              case measure => simp [intOf]; omega
            · have hle' : ¬ (b : Int) ≤ (len : Int) := by omega
              rcases HP.out.fin (by omega) with ⟨h1, h2, h3⟩ | ⟨h1, A, X, Y, eE, lA, lX, lY, sX, sY, hY0, hN⟩
              · have hmn : ¬ (m : Int) < (len : Int) := by omega
                have HR2 := vl h2
                have HS2 := vl h3
                clear h1 h2 h3 HP hEl hm hb hds
                go_wp2_with fail
                go_roundw
                case rel => exact ⟨d, E2, rfl, by have := HD.out; omega, by omega, by rw [HD.out]; exact HR2, HS2, HW⟩
                case measure => have := HD.out; simp [intOf]; omega
              · have hmn : (m : Int) < (len : Int) := by omega
                have HC := vl (HSYM.out _ A X Y [] wr (Nat.le_refl _) (fun e => by rw [e] at lX; simp at lX; omega) hY0 sX sY (eE ▸ HW.out))
                rw [lY, lA, lX, hEl, ← hm] at HC
                have HN := vl hN
                clear h1 eE lA lX lY sX sY hY0 hN HP HW hEl hm hb hds
                go_wp2_with fail
                refine HC.out.mono ?_
                rintro _ w3 ⟨⟨v, rfl⟩, Z, hw, hM⟩
                have HW3 := vl hw
                have HP3 := vl (HN.out Z hM)
                obtain ⟨E3, hE3⟩ : ∃ E3, E3 = A ++ Z ++ [] := ⟨_, rfl⟩
                rw [← hE3] at HW3 HP3
                clear hw hM HC HN hE3
                go_wp2_with fail
                go_roundw
                case rel => exact ⟨d, E3, rfl, by have := HD.out; omega, by omega, by rw [HD.out]; exact vl HP3.out.1, vl HP3.out.2, HW3⟩
                case measure => have := HD.out; simp [intOf]; omega
        · have hlt' : ¬ (s : Int) < (len : Int) := by omega
          have HSD := vl (runs_done HRU.out (by omega) (by omega))
          clear HRU hEl
          go_wp2_with fail
          go_end0
          exact ⟨⟨_, rfl⟩, E, HWE.out, HSD.out, HSB.out⟩
theorem zsort_any (w0 : World) (g off len cap : Nat) (D : List FB) (w : World) (h : SW w0 g off len cap D w) (hlen : len ≤ 4398046511104) :
    Calls Tryd.prog 44 #[.slice (some ⟨g, off, none⟩) len cap, .func (.func 45) #[] #[]] w fun e w' => (∃ v, e = .returned v) ∧ ∃ E, SW w0 g off len cap E w' ∧ Srt nmK E ∧ Sby nmK D E := by
  have HC := vl (zstab_any w0 g off len cap D w h hlen)
  clear h
  go_enter Tryd.func44, Tryd.ntmps44
  go_wp2_with fail
  refine HC.out.mono ?_
  rintro _ w1 ⟨⟨v, rfl⟩, hE⟩
  have HE := vl hE
  clear hE
  go_wp2_with fail
  go_end0
  exact ⟨⟨_, rfl⟩, HE.out⟩
end Go.Proofs.YtibipnipeaeonaaDoor
