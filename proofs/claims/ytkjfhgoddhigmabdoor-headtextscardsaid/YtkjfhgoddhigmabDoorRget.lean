/-
  CONTRACTS of the Go function tollref1.Get. No claim by itself.
-/
import Derived.Test.YtkjfhgoddhigmabDoorGet
import Derived.Test.YtkjfhgoddhigmabDoorRput
namespace Go.Proofs.YtkjfhgoddhigmabDoor
open Go.RowKit
set_option maxRecDepth 100000
theorem rget_bits (v : Value) (Z : List Int) (b : Int) (w : World) (h : b < 1 ∨ 8 < b) :
    Calls Tryd.prog 37 #[v, .int .i64 b] w fun e w' => (∃ n u k, e = .returned (.tuple #[.int .i64 n, .int .i64 u, .int .i64 k]) ∧ getF Z b = (n, u, k)) ∧ w = w' := by
  have E : Hid (getF Z b = (0, 0, 1)) := by show getF Z b = (0, 0, 1); unfold getF; rw [if_pos h]
  rcases h with h | h
  · go_enter Tryd.func37, Tryd.ntmps37
    go_wp2
    go_ret3
    exact ⟨⟨_, _, _, rfl, E.out⟩, rfl⟩
  · have h1 : 1 ≤ b := by omega
    go_enter Tryd.func37, Tryd.ntmps37
    go_wp2
    go_ret3
    exact ⟨⟨_, _, _, rfl, E.out⟩, rfl⟩
theorem rget_nil (a : Option Addr) (cap : Nat) (b : Int) (w : World) (h1 : 1 ≤ b) (h2 : b ≤ 8) :
    Calls Tryd.prog 37 #[.slice a 0 cap, .int .i64 b] w fun e w' => (∃ n u k, e = .returned (.tuple #[.int .i64 n, .int .i64 u, .int .i64 k]) ∧ getF [] b = (n, u, k)) ∧ w = w' := by
  have E : Hid (getF [] b = (0, 0, 8)) := by show getF [] b = (0, 0, 8); unfold getF; rw [if_neg (by omega)]
  go_enter Tryd.func37, Tryd.ntmps37
  go_wp2
  go_ret3
  exact ⟨⟨_, _, _, rfl, E.out⟩, rfl⟩
set_option maxHeartbeats 2000000 in
theorem rget_cons (g off len cap : Nat) (z : Int) (Z : List Int) (b : Int) (w : World) (hr : Row w g off len cap (z :: Z)) (h1 : 1 ≤ b) (h2 : b ≤ 8) :
    Calls Tryd.prog 37 #[.slice (some ⟨g, off, none⟩) len cap, .int .i64 b] w fun e w' => (∃ n u k, e = .returned (.tuple #[.int .i64 n, .int .i64 u, .int .i64 k]) ∧ getF (z :: Z) b = (n, u, k)) ∧ w = w' := by
  obtain ⟨z1, z2, z3, z4, z5⟩ := hr
  have hl : 1 ≤ len := by simp at z1; omega
  have hc0 : w.cell? ⟨g, off, none⟩ = some (.int .u8 z) := by simpa using z4 0 (by omega)
  have gb := gr_bd b h1 h2
  have hz : 0 ≤ z ∧ z < 256 := by simpa using z5 0
  obtain ⟨hz0, hz1⟩ := hz
  have E : Hid (getF (z :: Z) b = if z % (gr b + 1) < gr b then (z % (gr b + 1), 1, 0) else getR Z 0 (gr b)) := by
    show getF (z :: Z) b = if z % (gr b + 1) < gr b then (z % (gr b + 1), 1, 0) else getR Z 0 (gr b)
    unfold getF; rw [if_neg (by omega)]
  have H4 : Hid (∀ t, t < Z.length → w.cell? ⟨g, off + (t + 1), none⟩ = some (.int .u8 (Z.getD t 0))) := by
    intro t ht
    have := z4 (t + 1) (by simp at z1; omega)
    simpa using this
  have H5 : Hid (∀ t, 0 ≤ Z.getD t 0 ∧ Z.getD t 0 < 256) := by
    intro t; simpa using z5 (t + 1)
  obtain ⟨len, rfl⟩ : ∃ l, len = l + 1 := ⟨len - 1, by omega⟩
  have HL : Hid (Z.length = len) := by show Z.length = len; simp at z1; exact z1
  have hl0 : (((len + 1 : Nat) : Int) == 0) = false := by simp; omega
  have hmod : z % (gr b + 1) ≤ gr b ∧ 0 ≤ z % (gr b + 1) := by
    have e1 := Int.emod_lt_of_pos z (show 0 < gr b + 1 by omega)
    have e2 := Int.emod_nonneg z (show gr b + 1 ≠ 0 by omega)
    omega
  unfold maxLen at z3
  generalize getF (z :: Z) b = F at *
  clear z1 z4 z5
  by_cases hm : z % (gr b + 1) < gr b
  · have E2 : Hid (F = (z % (gr b + 1), 1, 0)) := by show F = _; rw [E.out, if_pos hm]
    go_enter Tryd.func37, Tryd.ntmps37
    go_wp2_with (go_at_call 47; refine (pow_any _ _ (by omega) (by omega)).mono ?_; rintro e w' ⟨rfl, rfl⟩)
    go_ret3
    exact ⟨⟨_, _, _, rfl, E2.out⟩, rfl⟩
  · have E2 : Hid (F = getR Z 0 (z % (gr b + 1))) := by
      show F = _
      have hmm : z % (gr b + 1) = gr b := by omega
      rw [hmm, E.out, if_neg hm]
    have d1 : decide (b < 1) = false := by simp; omega
    have d2 : decide (8 < b) = false := by simp; omega
    have hd : decide (z % (gr b + 1) < gr b) = false := by simpa using hm
    go_enter Tryd.func37, Tryd.ntmps37
    go_wp2_with (go_at_call 47; refine (pow_any _ _ (by omega) (by omega)).mono ?_; rintro e w' ⟨rfl, rfl⟩)
    go_loop [8, 9, 10] (fun n y i => ∃ (k : Nat) (r B : Int), i = .int .i64 ((k : Int) + 1) ∧ n = .int .i64 r ∧ y = .int .i64 B ∧ Hid (B = 128 ^ k) ∧ k ≤ 4 ∧ k ≤ len ∧ 0 ≤ r ∧ r ≤ 2147483647 ∧ Hid (F = getR (Z.drop k) k r)) (fun _ _ i => 6 - (intOf i).toNat)
    case atStart => exact ⟨0, z % (gr b + 1), 1, rfl, rfl, rfl, rfl, by omega, by omega, by omega, by omega, E2⟩
    case round =>
      obtain ⟨k, r, B, rfl, rfl, rfl, HB, k4, kl, r0, r1, HR⟩ := hrel
      by_cases hlt : k < len
      · have hc := H4.out k (by rw [HL.out]; exact hlt)
        have hb := H5.out k
        have hq := part_bd (Z.getD k 0) k k4
        have hB := pow128_bd k k4
        have HS := getR_at Z k r _ (by rw [HL.out]; exact hlt) rfl
        rw [← HR.out] at HS
        rw [← HB.out] at HS hB hq
        have hand : wrap64 (Z.getD k 0 % 128 * B) = Z.getD k 0 % 128 * B := by unfold wrap64; omega
        generalize Z.getD k 0 = c at *
        obtain ⟨q, hq3⟩ : ∃ q, q = c % 128 * B := ⟨_, rfl⟩
        have hand2 : wrap64 (c % 128 * B) = q := hand.trans hq3.symm
        rw [← hq3] at hq HS
        have HSS : Hid _ := HS
        have HB2 : Hid (B * 128 = 128 ^ (k + 1)) := by show B * 128 = 128 ^ (k + 1); rw [HB.out, Int.pow_succ]
        clear HS HR hq3 hand
        obtain ⟨c0, c1⟩ := hb
        obtain ⟨q0, q1⟩ := hq
        obtain ⟨B0, B1⟩ := hB
        have hk : (((k : Int) + 1 == 5) = true ∧ decide (1 < (k : Int) + 1) = true ∧ 4 ≤ k) ∨ (((k : Int) + 1 == 5) = false ∧ decide (1 < (k : Int) + 1) = true ∧ k < 4 ∧ 0 < k) ∨ (((k : Int) + 1 == 5) = false ∧ decide (1 < (k : Int) + 1) = false ∧ k < 1) := by
          by_cases h : k = 4
          · left; subst h; exact ⟨rfl, rfl, Nat.le_refl _⟩
          · right
            by_cases h0 : 0 < k
            · left; refine ⟨?_, by simp; omega, by omega, h0⟩; rw [beq_eq_false_iff_ne]; omega
            · right; refine ⟨?_, by simp; omega, by omega⟩; rw [beq_eq_false_iff_ne]; omega
        have hz : ((c == 0) = true ∧ c ≤ 0) ∨ ((c == 0) = false ∧ 1 ≤ c ∧ c < 128) ∨ ((c == 0) = false ∧ 128 ≤ c) := by
          by_cases h : c = 0
          · left; subst h; exact ⟨rfl, by decide⟩
          · right
            have hn : (c == 0) = false := by rw [beq_eq_false_iff_ne]; exact h
            by_cases h1 : c < 128
            · left; exact ⟨hn, by omega, h1⟩
            · right; exact ⟨hn, by omega⟩
        have ho : 2147483647 < r + q ∨ r + q ≤ 2147483647 := by omega
        rcases hk with ⟨hk1, hk2, hk3⟩ | ⟨hk1, hk2, hk3, hk4⟩ | ⟨hk1, hk2, hk3⟩ <;> rcases hz with ⟨hz1, hz2⟩ | ⟨hz1, hz2, hz3⟩ | ⟨hz1, hz2⟩ <;> rcases ho with ho | ho
        all_goals
          go_wp2
          first
          | (have hx : 2147483647 < r + q ∨ k = 4 ∧ 128 ≤ c := by omega
             have e := HSS.out
             rw [if_pos hx] at e
             go_ret3
             exact ⟨⟨_, _, _, rfl, e⟩, rfl⟩)
          | (have hx : ¬ (2147483647 < r + q ∨ k = 4 ∧ 128 ≤ c) := by omega
             have hy : 0 < k ∧ c = 0 := by omega
             have e := HSS.out
             rw [if_neg hx, if_pos hy] at e
             go_ret3
             exact ⟨⟨_, _, _, rfl, e⟩, rfl⟩)
          | (have hx : ¬ (2147483647 < r + q ∨ k = 4 ∧ 128 ≤ c) := by omega
             have hy : ¬ (0 < k ∧ c = 0) := by omega
             have hv : c < 128 := by omega
             have e := HSS.out
             rw [if_neg hx, if_neg hy, if_pos hv] at e
             rw [show (k : Int) + 2 = (k : Int) + 1 + 1 from by omega] at e
             go_ret3
             exact ⟨⟨_, _, _, rfl, e⟩, rfl⟩)
          | (have hx : ¬ (2147483647 < r + q ∨ k = 4 ∧ 128 ≤ c) := by omega
             have hy : ¬ (0 < k ∧ c = 0) := by omega
             have hv : ¬ c < 128 := by omega
             have e := HSS.out
             rw [if_neg hx, if_neg hy, if_neg hv] at e
             go_round
             case rel => exact ⟨k + 1, r + q, B * 128, by go_num, rfl, rfl, HB2, by omega, by omega, by omega, by omega, e⟩
             case measure => simp [intOf]; omega)
      · have HE : Hid (F = (0, 0, 8)) := by
          show F = (0, 0, 8)
          rw [HR.out]; exact getR_end Z k r (by rw [HL.out]; omega)
        go_wp2
        go_ret3
        exact ⟨⟨_, _, _, rfl, HE.out⟩, rfl⟩
theorem rget_row (g off len cap : Nat) (Z : List Int) (b : Int) (w : World) (hr : Row w g off len cap Z) :
    Calls Tryd.prog 37 #[.slice (some ⟨g, off, none⟩) len cap, .int .i64 b] w fun e w' => (∃ n u k, e = .returned (.tuple #[.int .i64 n, .int .i64 u, .int .i64 k]) ∧ getF Z b = (n, u, k)) ∧ w = w' := by
  by_cases h : b < 1 ∨ 8 < b
  · exact rget_bits _ Z b w h
  · have h1 : 1 ≤ b := by omega
    have h2 : b ≤ 8 := by omega
    match Z, hr with
    | [], hr =>
      have hl := hr.hlen
      simp at hl
      subst hl
      exact rget_nil _ cap b w h1 h2
    | z :: Z, hr => exact rget_cons g off len cap z Z b w hr h1 h2
end Go.Proofs.YtkjfhgoddhigmabDoor
