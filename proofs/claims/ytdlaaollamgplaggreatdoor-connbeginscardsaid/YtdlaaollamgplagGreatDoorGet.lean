/-
  CONTRACTS of the Go function wire.Get. No claim by itself.
-/
import Derived.Test.YtdlaaollamgplagGreatDoorPut
import Derived.Test.YtdlaaollamgplagGreatDoorRow
namespace Go.Proofs.YtdlaaollamgplagGreatDoor
open Go.RowKit
set_option maxRecDepth 100000
/-- A number, how many bytes it takes, and an error, as a reading gives them. -/
def Told3 (t : Int × Int × Int) (n u : Int) (x : Value) : Prop :=
  (t = (n, u, 0) ∧ x = .nilIface) ∨ ∃ k, k ≠ 0 ∧ t = (n, u, k) ∧ x = .iface 88 (.int .i64 k)
theorem get_bits (v : Value) (Z : List Int) (b : Int) (w : World) (h : b < 1 ∨ 8 < b) :
    Calls Tryz.prog 283 #[v, .int .i64 b] w fun e w' => (∃ n u x, e = .returned (.tuple #[.int .i64 n, .int .i64 u, x]) ∧ Told3 (getF Z b) n u x) ∧ w = w' := by
  have E : Hid (getF Z b = (0, 0, 1)) := by show getF Z b = (0, 0, 1); unfold getF; rw [if_pos h]
  go_enter Tryz.func283, Tryz.ntmps283
  go_wp2_with (go_at_call 239; refine (mayBits_no _ _ h).mono ?_; rintro e w' ⟨rfl, rfl⟩)
  go_ret3
  exact ⟨⟨_, _, _, rfl, Or.inr ⟨1, by decide, E.out, rfl⟩⟩, rfl⟩
theorem get_nil (a : Option Addr) (cap : Nat) (b : Int) (w : World) (h1 : 1 ≤ b) (h2 : b ≤ 8) :
    Calls Tryz.prog 283 #[.slice a 0 cap, .int .i64 b] w fun e w' => (∃ n u x, e = .returned (.tuple #[.int .i64 n, .int .i64 u, x]) ∧ Told3 (getF [] b) n u x) ∧ w = w' := by
  have E : Hid (getF [] b = (0, 0, 8)) := by show getF [] b = (0, 0, 8); unfold getF; rw [if_neg (by omega)]
  go_enter Tryz.func283, Tryz.ntmps283
  go_wp2_with (go_at_call 239; refine (mayBits_yes _ _ h1 h2).mono ?_; rintro e w' ⟨rfl, rfl⟩)
  go_ret3
  exact ⟨⟨_, _, _, rfl, Or.inr ⟨8, by decide, E.out, rfl⟩⟩, rfl⟩
theorem get_one (g off len cap : Nat) (z : Int) (Z : List Int) (b : Int) (w : World) (hr : Row w g off len cap (z :: Z)) (h1 : 1 ≤ b) (h2 : b ≤ 8) (hm : z % (gr b + 1) < gr b) :
    Calls Tryz.prog 283 #[.slice (some ⟨g, off, none⟩) len cap, .int .i64 b] w fun e w' => (∃ n u x, e = .returned (.tuple #[.int .i64 n, .int .i64 u, x]) ∧ Told3 (getF (z :: Z) b) n u x) ∧ w = w' := by
  obtain ⟨z1, z2, z3, z4, z5⟩ := hr
  have hl : 1 ≤ len := by simp at z1; omega
  have hc0 : w.cell? ⟨g, off, none⟩ = some (.int .u8 z) := by simpa using z4 0 (by omega)
  have gb := gr_bd b h1 h2
  have hz : 0 ≤ z ∧ z < 256 := by simpa using z5 0
  obtain ⟨hz0, hz1⟩ := hz
  have E : Hid (getF (z :: Z) b = (z % (gr b + 1), 1, 0)) := by
    show getF (z :: Z) b = (z % (gr b + 1), 1, 0)
    unfold getF; rw [if_neg (by omega)]; simp only [if_pos hm]
  have ha : bits .and .i64 z (gr b) = z % (gr b + 1) := free_and b _ h1 h2 hz0 (by omega)
  have hl0 : ((len : Int) == 0) = false := by simp; omega
  unfold maxLen at z3
  clear z1 z4 z5
  go_enter Tryz.func283, Tryz.ntmps283
  go_wp2_with (first | (go_at_call 239; refine (mayBits_yes _ _ h1 h2).mono ?_; rintro e w' ⟨rfl, rfl⟩) | (go_at_call 185; refine (great _ _ h1 (by omega)).mono ?_; rintro e w' ⟨rfl, rfl⟩))
  go_ret3
  exact ⟨⟨_, _, _, rfl, Or.inl ⟨E.out, rfl⟩⟩, rfl⟩
theorem get_edge (g off : Nat) (z : Int) (b : Int) (w : World) (hr : Row w g off 1 1 [z]) (h1 : 1 ≤ b) (h2 : b ≤ 8) (hm : z % (gr b + 1) = gr b) :
    Calls Tryz.prog 283 #[.slice (some ⟨g, off, none⟩) 1 1, .int .i64 b] w fun e w' => (∃ n u x, e = .returned (.tuple #[.int .i64 n, .int .i64 u, x]) ∧ Told3 (getF [z] b) n u x) ∧ w = w' := by
  obtain ⟨z1, z2, z3, z4, z5⟩ := hr
  have hc0 : w.cell? ⟨g, off, none⟩ = some (.int .u8 z) := by simpa using z4 0 (by omega)
  have gb := gr_bd b h1 h2
  have hz : 0 ≤ z ∧ z < 256 := by simpa using z5 0
  obtain ⟨hz0, hz1⟩ := hz
  have E : Hid (getF [z] b = (0, 0, 8)) := by
    show getF [z] b = (0, 0, 8)
    unfold getF; rw [if_neg (by omega)]; simp only [if_neg (show ¬ z % (gr b + 1) < gr b by omega)]; rfl
  have ha : bits .and .i64 z (gr b) = gr b := by rw [free_and b _ h1 h2 hz0 (by omega)]; exact hm
  clear z1 z2 z3 z4 z5 hm
  go_enter Tryz.func283, Tryz.ntmps283
  go_wp2_with (first | (go_at_call 239; refine (mayBits_yes _ _ h1 h2).mono ?_; rintro e w' ⟨rfl, rfl⟩) | (go_at_call 185; refine (great _ _ h1 (by omega)).mono ?_; rintro e w' ⟨rfl, rfl⟩))
  refine wp_loop_rounds 1 ?_
  rw [rounds_succ]
  go_wp2
  go_ret3
  exact ⟨⟨_, _, _, rfl, Or.inr ⟨8, by decide, E.out, rfl⟩⟩, rfl⟩
set_option maxHeartbeats 2000000 in
theorem get_more (g off len cap : Nat) (z : Int) (Z : List Int) (b : Int) (w : World) (hr : Row w g off len cap (z :: Z)) (h1 : 1 ≤ b) (h2 : b ≤ 8) (hm : z % (gr b + 1) = gr b) (hcap : 2 ≤ cap) :
    Calls Tryz.prog 283 #[.slice (some ⟨g, off, none⟩) len cap, .int .i64 b] w fun e w' => (∃ n u x, e = .returned (.tuple #[.int .i64 n, .int .i64 u, x]) ∧ Told3 (getF (z :: Z) b) n u x) ∧ w = w' := by
  obtain ⟨z1, z2, z3, z4, z5⟩ := hr
  have hl : 1 ≤ len := by simp at z1; omega
  have hc0 : w.cell? ⟨g, off, none⟩ = some (.int .u8 z) := by simpa using z4 0 (by omega)
  have gb := gr_bd b h1 h2
  have hz : 0 ≤ z ∧ z < 256 := by simpa using z5 0
  obtain ⟨hz0, hz1⟩ := hz
  have E : Hid (getF (z :: Z) b = getR Z 0 (gr b)) := by
    show getF (z :: Z) b = getR Z 0 (gr b)
    unfold getF; rw [if_neg (by omega)]; simp only [if_neg (show ¬ z % (gr b + 1) < gr b by omega)]
  have ha : bits .and .i64 z (gr b) = gr b := by rw [free_and b _ h1 h2 hz0 (by omega)]; exact hm
  have H4 : Hid (∀ t, t < Z.length → w.cell? ⟨g, off + 1 + t, none⟩ = some (.int .u8 (Z.getD t 0))) := by
    intro t ht
    have := z4 (t + 1) (by simp at z1; omega)
    rw [show off + (t + 1) = off + 1 + t from by omega] at this
    simpa using this
  have H5 : Hid (∀ t, 0 ≤ Z.getD t 0 ∧ Z.getD t 0 < 256) := by
    intro t; simpa using z5 (t + 1)
  obtain ⟨len, rfl⟩ : ∃ l, len = l + 1 := ⟨len - 1, by omega⟩
  have HL : Hid (Z.length = len) := by show Z.length = len; simp at z1; exact z1
  have hl0 : (((len + 1 : Nat) : Int) == 0) = false := by simp; omega
  unfold maxLen at z3
  generalize getF (z :: Z) b = F at *
  clear hm z1 z4 z5
  go_enter Tryz.func283, Tryz.ntmps283
  go_wp2_with (first | (go_at_call 239; refine (mayBits_yes _ _ h1 h2).mono ?_; rintro e w' ⟨rfl, rfl⟩) | (go_at_call 185; refine (great _ _ h1 (by omega)).mono ?_; rintro e w' ⟨rfl, rfl⟩))
  go_loop [4, 33] (fun n i => ∃ (k : Nat) (r : Int), i = .int .i64 k ∧ n = .int .i64 r ∧ k ≤ 4 ∧ k ≤ len ∧ 0 ≤ r ∧ r ≤ 2147483647 ∧ Hid (F = getR (Z.drop k) k r)) (fun _ i => 5 - (intOf i).toNat)
  case atStart => exact ⟨0, gr b, rfl, rfl, by omega, by omega, by omega, by omega, E⟩
  case round =>
    obtain ⟨k, r, rfl, rfl, k4, kl, r0, r1, HR⟩ := hrel
    by_cases hlt : k < len
    · have hc := H4.out k (by rw [HL.out]; exact hlt)
      have hb := H5.out k
      have hq := part_bd (Z.getD k 0) k k4
      have HS := getR_at Z k r _ (by rw [HL.out]; exact hlt) rfl
      rw [← HR.out] at HS
      have hand : wrap64 (wrap64 (bits .and .u8 (Z.getD k 0) 127) * 2 ^ (7 * k)) = Z.getD k 0 % 128 * 128 ^ k := by
        have e1 : wrap64 (Z.getD k 0 % 128) = Z.getD k 0 % 128 := by unfold wrap64; omega
        rw [low_and _ hb.1 hb.2, pow7, e1]; unfold wrap64; omega
      generalize Z.getD k 0 = c at *
      generalize c % 128 * 128 ^ k = q at *
      have HSS : Hid _ := HS
      clear HS HR
      obtain ⟨c0, c1⟩ := hb
      obtain ⟨q0, q1⟩ := hq
      have hk : ((k : Int) == 4) = true ∧ 4 ≤ k ∨ ((k : Int) == 4) = false ∧ k < 4 := by
        by_cases h : k = 4
        · left; subst h; exact ⟨rfl, Nat.le_refl _⟩
        · right; refine ⟨?_, by omega⟩; rw [beq_eq_false_iff_ne]; omega
      have hz : (c == 0) = true ∧ c ≤ 0 ∨ (c == 0) = false ∧ 1 ≤ c := by
        by_cases h : c = 0
        · left; subst h; exact ⟨rfl, by decide⟩
        · right; refine ⟨?_, by omega⟩; rw [beq_eq_false_iff_ne]; omega
      rcases hk with ⟨hk1, hk2⟩ | ⟨hk1, hk2⟩ <;> rcases hz with ⟨hz1, hz2⟩ | ⟨hz1, hz2⟩
      all_goals
        go_wp2
        all_goals first
          | (have hx : 2147483647 < r + q ∨ k = 4 ∧ 128 ≤ c := by omega
             have e := HSS.out
             rw [if_pos hx] at e
             go_ret3
             exact ⟨⟨_, _, _, rfl, Or.inr ⟨10, by decide, e, rfl⟩⟩, rfl⟩)
          | (have hx : ¬ (2147483647 < r + q ∨ k = 4 ∧ 128 ≤ c) := by omega
             have hy : 0 < k ∧ c = 0 := by omega
             have e := HSS.out
             rw [if_neg hx, if_pos hy] at e
             go_ret3
             exact ⟨⟨_, _, _, rfl, Or.inr ⟨2, by decide, e, rfl⟩⟩, rfl⟩)
          | (have hx : ¬ (2147483647 < r + q ∨ k = 4 ∧ 128 ≤ c) := by omega
             have hy : ¬ (0 < k ∧ c = 0) := by omega
             have hv : c < 128 := by omega
             have e := HSS.out
             rw [if_neg hx, if_neg hy, if_pos hv] at e
             go_ret3
             exact ⟨⟨_, _, _, rfl, Or.inl ⟨e, rfl⟩⟩, rfl⟩)
          | (have hx : ¬ (2147483647 < r + q ∨ k = 4 ∧ 128 ≤ c) := by omega
             have hy : ¬ (0 < k ∧ c = 0) := by omega
             have hv : ¬ c < 128 := by omega
             have e := HSS.out
             rw [if_neg hx, if_neg hy, if_neg hv] at e
             go_round
             case rel => exact ⟨k + 1, r + q, by go_num, rfl, by omega, by omega, by omega, by omega, e⟩
             case measure => simp [intOf]; omega)
    · have HE : Hid (F = (0, 0, 8)) := by
        show F = (0, 0, 8)
        rw [HR.out]; exact getR_end Z k r (by rw [HL.out]; omega)
      go_wp2
      go_ret3
      exact ⟨⟨_, _, _, rfl, Or.inr ⟨8, by decide, HE.out, rfl⟩⟩, rfl⟩
theorem get_row (g off len cap : Nat) (Z : List Int) (b : Int) (w : World) (hr : Row w g off len cap Z) :
    Calls Tryz.prog 283 #[.slice (some ⟨g, off, none⟩) len cap, .int .i64 b] w fun e w' => (∃ n u x, e = .returned (.tuple #[.int .i64 n, .int .i64 u, x]) ∧ Told3 (getF Z b) n u x) ∧ w = w' := by
  by_cases h : b < 1 ∨ 8 < b
  · exact get_bits _ Z b w h
  · have h1 : 1 ≤ b := by omega
    have h2 : b ≤ 8 := by omega
    match Z, hr with
    | [], hr =>
      have hl := hr.hlen
      simp at hl
      subst hl
      exact get_nil _ cap b w h1 h2
    | z :: Z, hr =>
      have gb := gr_bd b h1 h2
      by_cases hm : z % (gr b + 1) < gr b
      · exact get_one g off len cap z Z b w hr h1 h2 hm
      · have hm' : z % (gr b + 1) = gr b := by
          have := Int.emod_lt_of_pos z (show 0 < gr b + 1 by omega)
          omega
        by_cases hc : 2 ≤ cap
        · exact get_more g off len cap z Z b w hr h1 h2 hm' hc
        · have hl := hr.hlen
          have hcl := hr.hcap
          simp at hl
          have e1 : cap = 1 := by omega
          have e2 : len = 1 := by omega
          have e3 : Z = [] := List.eq_nil_of_length_eq_zero (by omega)
          subst e1 e2 e3
          exact get_edge g off z b w hr h1 h2 hm'
end Go.Proofs.YtdlaaollamgplagGreatDoor
