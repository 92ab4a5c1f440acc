/-
  ORDER: the library's rotate. No claim by itself.
-/
import Derived.Test.YtibipnipeaeonaaDoorZs1X
namespace Go.Proofs.YtibipnipeaeonaaDoor
open Go Go.RowKit
set_option maxRecDepth 100000
set_option maxHeartbeats 2000000 in
theorem zrot_any (w0 : World) (g off len cap a m b : Nat) (F : Value) (D T : List FB) (w : World) (h : SW w0 g off len cap D w) (hlen : len ≤ 4611686018427387904) (ham : a < m) (hmb : m < b) (hbl : b ≤ len) (hT : Rot T m (m - a) (b - m) D) :
    Calls Tryd.prog 82 #[.slice (some ⟨g, off, none⟩) len cap, .int .i64 a, .int .i64 m, .int .i64 b, F] w fun e w' => (∃ v, e = .returned v) ∧ SW w0 g off len cap T w' := by
  have H := vl h
  have HT := vl hT
  have hcap := h.row.hcap
  have i0 : (m : Int) - (a : Int) = ((m - a : Nat) : Int) := by omega
  have j0 : (b : Int) - (m : Int) = ((b - m : Nat) : Int) := by omega
  obtain ⟨p, hp⟩ : ∃ p, m - a = p := ⟨_, rfl⟩
  obtain ⟨q, hq⟩ : ∃ q, b - m = q := ⟨_, rfl⟩
  rw [hp] at HT i0
  rw [hq] at HT j0
  have hpm : p ≤ m := by omega
  have hql : m + q ≤ len := by omega
  have I0 := vl i0
  have J0 := vl j0
  clear h hT hp hq i0 j0
  go_enter Tryd.func82, Tryd.ntmps82
  go_wp2_with fail
  go_loopw [10, 11] (fun i j wr => ∃ (k l : Nat) (E : List FB), i = .int .i64 k ∧ j = .int .i64 l ∧ k ≤ p ∧ l ≤ q ∧ Vl (Rot T m k l E) ∧ Vl (SW w0 g off len cap E wr)) (fun i j _ => (intOf i).toNat + (intOf j).toNat)
  case atStart => exact ⟨p, q, D, by rw [I0.out], by rw [J0.out], Nat.le_refl _, Nat.le_refl _, HT, H⟩
  case round =>
    obtain ⟨k, l, E, rfl, rfl, hk, hl, HR, HW⟩ := hrel
    obtain ⟨r1, r2, r3, r4⟩ := HR.out.bnd
    rw [HW.out.row.hlen] at r2
    have e1 : (m : Int) - (k : Int) = ((m - k : Nat) : Int) := by omega
    have E1 := vl e1
    clear e1
    by_cases heq : k = l
    · subst heq
      have HC := vl (zswr_any w0 g off len cap (m - k) m k F E wr HW.out (by omega) r2 hlen)
      rw [← E1.out] at HC
      go_wp2_with fail
      refine HC.out.mono ?_
      rintro e w1 ⟨⟨v, rfl⟩, E', hE, hw⟩
      have HF := vl (HR.out.fin hE ▸ hw)
      clear hE hw
      go_wp2_with fail
      go_end0
      exact ⟨⟨_, rfl⟩, HF.out⟩
    · have hne : ¬ (k : Int) = (l : Int) := by omega
      have hne2 : ((k : Int) != (l : Int)) = true := by simpa using hne
      by_cases hgt : l < k
      · have hgt' : (l : Int) < (k : Int) := by omega
        have HC := vl (zswr_any w0 g off len cap (m - k) m l F E wr HW.out (by omega) r2 hlen)
        rw [← E1.out] at HC
        have E2 : Vl ((k : Int) - (l : Int) = ((k - l : Nat) : Int)) := vl (by omega)
        go_wp2_with fail
        refine HC.out.mono ?_
        rintro e w1 ⟨⟨v, rfl⟩, E', hE, hw⟩
        have HR2 := vl (HR.out.left hgt hE)
        have HW2 := vl hw
        clear hE hw HC
        go_wp2_with fail
        go_roundw
        case rel => exact ⟨k - l, l, E', by rw [E2.out], rfl, by omega, by omega, HR2, HW2⟩
        case measure => simp [intOf]; omega
      · have hgt' : ¬ (l : Int) < (k : Int) := by omega
        have HC := vl (zswr_any w0 g off len cap (m - k) (m + l - k) k F E wr HW.out (by omega) (by omega) hlen)
        have e2 : (m : Int) + (l : Int) - (k : Int) = ((m + l - k : Nat) : Int) := by omega
        have E3 : Vl ((l : Int) - (k : Int) = ((l - k : Nat) : Int)) := vl (by omega)
        rw [← E1.out, ← e2] at HC
        clear e2
        go_wp2_with fail
        refine HC.out.mono ?_
        rintro e w1 ⟨⟨v, rfl⟩, E', hE, hw⟩
        have HR2 := vl (HR.out.right (by omega) hE)
        have HW2 := vl hw
        clear hE hw HC
        go_wp2_with fail
        go_roundw
        case rel => exact ⟨k, l - k, E', rfl, by rw [E3.out], by omega, by omega, HR2, HW2⟩
        case measure => simp [intOf]; omega
end Go.Proofs.YtibipnipeaeonaaDoor
