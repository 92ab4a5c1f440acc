/-
  CONTRACT of the Go function tollref1.Check, kind 4. No claim by itself.
-/
import Derived.Test.YtdlaaollamgplacDoorRcheck
namespace Go.Proofs.YtdlaaollamgplacDoor
open Go.RowKit
set_option maxRecDepth 100000
set_option maxHeartbeats 8000000 in
theorem rchk_4m (fl : Int) (a : Option Addr) (len cap : Nat) (w : World) (h : ¬ (len : Int) % 6 = 0) :
    Calls Tryd.prog 21 #[.agg #[.int .i64 4, .int .i64 fl, .int .i64 0, .slice a len cap]] w fun e w' => e = .returned (.int .i64 6) ∧ Below w.heap.size w w' := by
  go_enter Tryd.func21, Tryd.ntmps21
  go_wp2
  go_returns
  exact ⟨rfl, (Below.refl _ _).alloc (Nat.le_refl _) _⟩
set_option maxHeartbeats 8000000 in
theorem rchk_4e (fl : Int) (a : Option Addr) (len cap : Nat) (w : World) (h : (len : Int) % 6 = 0) (hl : 0 < (len : Int)) (hf : (bits .and .i64 fl 1 == 1) = true) :
    Calls Tryd.prog 21 #[.agg #[.int .i64 4, .int .i64 fl, .int .i64 0, .slice a len cap]] w fun e w' => e = .returned (.int .i64 6) ∧ Below w.heap.size w w' := by
  have d : decide (0 < (len : Int)) = true := decide_eq_true hl
  go_enter Tryd.func21, Tryd.ntmps21
  go_wp2
  go_returns
  exact ⟨rfl, (Below.refl _ _).alloc (Nat.le_refl _) _⟩
set_option maxHeartbeats 8000000 in
theorem rchk_4z (fl : Int) (a : Option Addr) (cap : Nat) (w : World) :
    Calls Tryd.prog 21 #[.agg #[.int .i64 4, .int .i64 fl, .int .i64 0, .slice a 0 cap]] w fun e w' => e = .returned (.int .i64 0) ∧ Below w.heap.size w w' := by
  go_enter Tryd.func21, Tryd.ntmps21
  go_wp2
  go_loop [6] (fun i => i = .int .i64 0) (fun _ => 0)
  case atStart => rfl
  case round =>
    subst hrel
    go_wp2
    go_returns
    exact ⟨rfl, (Below.refl _ _).alloc (Nat.le_refl _) _⟩
set_option maxHeartbeats 8000000 in
theorem rchk_4 (fl : Int) (g off len cap M : Nat) (Z : List Int) (w : World) (hr : Row w g off len cap Z) (hM : len = 6 * M) (hl : 0 < len) (hf : (bits .and .i64 fl 1 == 1) = false) :
    Calls Tryd.prog 21 #[.agg #[.int .i64 4, .int .i64 fl, .int .i64 0, .slice (some ⟨g, off, none⟩) len cap]] w fun e w' => e = .returned (.int .i64 (setsF M Z)) ∧ Below w.heap.size w w' := by
  have hcap := hr.hcap
  have hmx := hr.hmax
  unfold maxLen at hmx
  have d6 : (len : Int) % 6 = 0 := by omega
  have d : decide (0 < (len : Int)) = true := decide_eq_true (by omega)
  have HWD : Hid (∀ u n, u + n ≤ len → 0 < n → n ≤ 4 → Calls Tryd.prog 26 #[.slice (some ⟨g, off + u, none⟩) n (cap - u)] (w.alloc (.cells #[.int .i64 4, .int .i64 fl, .int .i64 0, .slice (some ⟨g, off, none⟩) len cap] 43)) fun e w' => e = .returned (.int .i64 (word ((Z.drop u).take n))) ∧ (w.alloc (.cells #[.int .i64 4, .int .i64 fl, .int .i64 0, .slice (some ⟨g, off, none⟩) len cap] 43)) = w') := fun u n h1 h2 h3 => by
    obtain ⟨o, ho, hro⟩ := fcut_row (hr.below ((Below.refl _ _).alloc (Nat.le_refl _) (.cells #[.int .i64 4, .int .i64 fl, .int .i64 0, .slice (some ⟨g, off, none⟩) len cap] 43))) u n h1
    rw [if_neg (by omega)] at ho
    injection ho with ho
    injection ho with _ ho _
    rw [ho]
    exact word_any g o n (cap - u) _ _ hro h3
  generalize hR : setsF M Z = R
  have HR := hide hR
  have HM := hide hM
  clear hr hR hM
  go_enter Tryd.func21, Tryd.ntmps21
  go_wp2
  clear d6
  go_loopw [6] (fun i wr => ∃ t : Nat, i = .int .i64 t ∧ wr = w.alloc (.cells #[.int .i64 4, .int .i64 fl, .int .i64 0, .slice (some ⟨g, off, none⟩) len cap] 43) ∧ ∃ v, Hid (t = 6 * v ∧ v ≤ M ∧ R = setsF (M - v) (Z.drop t))) (fun i _ => len - (intOf i).toNat)
  case atStart => exact ⟨0, rfl, rfl, 0, rfl, by omega, by rw [← HR.out]; rfl⟩
  case round =>
    obtain ⟨t, rfl, rfl, v, HV⟩ := hrel
    by_cases ht : (t : Int) < (len : Int)
    · have dt : decide ((t : Int) < (len : Int)) = true := decide_eq_true ht
      obtain ⟨b1, b2⟩ : (t : Int) + 6 ≤ (len : Int) ∧ (t : Int) + 6 ≤ (cap : Int) := by
        have := HV.out; have := HM.out; omega
      obtain ⟨n, hn⟩ : ∃ n, n = word ((Z.drop t).take 2) := ⟨_, rfl⟩
      obtain ⟨x, hx⟩ : ∃ x, x = word ((Z.drop (t + 2)).take 4) := ⟨_, rfl⟩
      have HA := hide (HWD.out t 2 (by omega) (by decide) (by decide))
      have HB := hide (HWD.out (t + 2) 4 (by omega) (by decide) (by decide))
      rw [← hn] at HA
      rw [← hx] at HB
      have HS : Hid (R = if n = 4 ∧ 2147483647 < x then 3 else if n = 5 ∧ x < 1024 then 1 else setsF (M - (v + 1)) (Z.drop (t + 6))) := by
        obtain ⟨e1, e2, e3⟩ := HV.out
        have := HM.out
        show R = _
        rw [e3, show M - v = (M - (v + 1)) + 1 by omega]
        simp only [setsF, List.drop_drop]
        rw [← hn, ← hx]
      clear hn hx
      go_wp2_with fail
      refine HA.out.mono ?_
      rintro e w' ⟨rfl, rfl⟩
      clear HA
      go_wp2_with fail
      first | refine HB.out.mono ?_ | trace_state
      rintro e w' ⟨rfl, rfl⟩
      clear HB
      by_cases h4 : n = 4 ∧ 2147483647 < x
      · obtain ⟨rfl, h4⟩ := h4
        have d4 : decide (2147483647 < x) = true := decide_eq_true h4
        have E : Hid (R = 3) := HS.out.trans (if_pos ⟨rfl, h4⟩)
        clear HS
        go_wp2
        go_returns
        have e := E.out
        subst e
        exact ⟨rfl, (Below.refl _ _).alloc (Nat.le_refl _) _⟩
      by_cases h5 : n = 5 ∧ x < 1024
      · obtain ⟨rfl, h5⟩ := h5
        have d5 : decide (x < 1024) = true := decide_eq_true h5
        have E : Hid (R = 1) := HS.out.trans ((if_neg h4).trans (if_pos ⟨rfl, h5⟩))
        clear HS h4
        go_wp2
        go_returns
        have e := E.out
        subst e
        exact ⟨rfl, (Below.refl _ _).alloc (Nat.le_refl _) _⟩
      have HN : Hid (R = setsF (M - (v + 1)) (Z.drop (t + 6))) := by
        have e := HS.out
        rw [if_neg h4, if_neg h5] at e
        exact e
      clear HS
      have fin : ∃ u : Nat, t + 6 = u ∧ ∃ v', Hid (u = 6 * v' ∧ v' ≤ M ∧ R = setsF (M - v') (Z.drop u)) := by
        obtain ⟨e1, e2, e3⟩ := HV.out
        have := HM.out
        exact ⟨t + 6, rfl, v + 1, by omega, by omega, HN.out⟩
      have FIN := hide fin
      clear fin
      by_cases n4 : n = 4
      · subst n4
        have d4 : decide (2147483647 < x) = false := decide_eq_false (fun h => h4 ⟨rfl, h⟩)
        clear h4 h5
        go_wp2
        go_roundw
        case rel => obtain ⟨u, rfl, v', hv⟩ := FIN.out; exact ⟨t + 6, by go_num, trivial, v', hv⟩
        case measure => simp [intOf]; omega
      · have dn4 : decide (n = 4) = false := decide_eq_false n4
        by_cases n5 : n = 5
        · subst n5
          have d5 : decide (x < 1024) = false := decide_eq_false (fun h => h5 ⟨rfl, h⟩)
          clear h4 h5
          go_wp2
          go_roundw
          case rel => obtain ⟨u, rfl, v', hv⟩ := FIN.out; exact ⟨t + 6, by go_num, trivial, v', hv⟩
          case measure => simp [intOf]; omega
        · have dn5 : decide (n = 5) = false := decide_eq_false n5
          clear h4 h5
          go_wp2
          go_roundw
          case rel => obtain ⟨u, rfl, v', hv⟩ := FIN.out; exact ⟨t + 6, by go_num, trivial, v', hv⟩
          case measure => simp [intOf]; omega
    · have dt : decide ((t : Int) < (len : Int)) = false := decide_eq_false ht
      go_wp2
      go_returns
      have e : R = 0 := by
        obtain ⟨e1, e2, e3⟩ := HV.out
        have := HM.out
        rw [e3, show M - v = 0 by omega]; rfl
      subst e
      exact ⟨rfl, (Below.refl _ _).alloc (Nat.le_refl _) _⟩
end Go.Proofs.YtdlaaollamgplacDoor
