/-
  CONTRACT of the Go function tollref1.Big, where it writes. No claim by itself.
-/
import Derived.Test.YtdlaaollamgplacDoorBig
namespace Go.Proofs.YtdlaaollamgplacDoor
open Go.RowKit
set_option maxHeartbeats 2000000 in
theorem rbig_yes (n s : Int) (w : World) (hok : bigOk n s) :
    Calls Tryd.prog 24 #[.int .i64 n, .int .i64 s] w fun e w' => ∃ v, e = .returned (.tuple #[v, .int .i64 0]) ∧ w'.ownsRow w.heap.size 5 1 v (bigL s.toNat n).length ((bigL s.toNat n).map (Value.int .u8)) ∧ Below w.heap.size w w' := by
  obtain ⟨h1, h2, h3, h4⟩ := hok
  have hn : n ≤ 2147483647 := by unfold most at h4; split at h4 <;> (try split at h4) <;> (try split at h4) <;> omega
  have d1 : decide (s < 1) = false := by simp; omega
  have d2 : decide (4 < s) = false := by simp; omega
  have d3 : decide (n < 0) = false := by simp; omega
  have d4 : decide (most s < n) = false := by simp; omega
  obtain ⟨i0, hi, hz0, hz1, hz2⟩ := info_parts info5w
  go_enter Tryd.func24, Tryd.ntmps24
  go_wp2_with (go_at_call 48; refine (rholds_any _ _ h1 h2).mono ?_; rintro e w' ⟨rfl, rfl⟩)
  go_loopw [7, 8] (fun v i wr => ∃ (pre : List Int) (k : Nat), i = .int .i64 ((k : Int) - 1) ∧ k ≤ 4 ∧ pre.length + k ≤ 4 ∧ Hid (bigL s.toNat n = pre ++ bigL k n) ∧ wr.ownsRow w.heap.size 5 1 v pre.length (pre.map (Value.int .u8)) ∧ Below w.heap.size w wr) (fun _ i _ => (intOf i + 1).toNat)
  case atStart => exact ⟨[], s.toNat, by rw [Int.toNat_of_nonneg (by omega)], by omega, by simp; omega, rfl, World.ownsRow_nil _ _ _ _, Below.refl _ _⟩
  case round =>
    obtain ⟨pre, k, rfl, hk, hpk, HP, hown, hbel⟩ := hrel
    have hsz := hbel.size
    by_cases hk0 : k = 0
    · subst hk0
      have HL : Hid (bigL s.toNat n = pre) := by
        show bigL s.toNat n = pre
        rw [HP.out]; simp [bigL]
      clear HP
      go_wp2
      go_ret2
      refine ⟨_, rfl, ?_, hbel⟩
      rw [HL.out]; exact hown
    · obtain ⟨j, rfl⟩ : ∃ j, k = j + 1 := ⟨k - 1, by omega⟩
      have HL : Hid (bigL s.toNat n = (pre ++ [n / 256 ^ j % 256]) ++ bigL j n) := by
        show bigL s.toNat n = (pre ++ [n / 256 ^ j % 256]) ++ bigL j n
        rw [HP.out]; simp [bigL]
      have hj : j ≤ 3 := by omega
      have ej : (((j + 1 : Nat) : Int) - 1) = (j : Int) := by omega
      rw [ej]
      have hp := pow256_bd j (by omega)
      have G8 : Hid (gr (8 * (j : Int)) + 1 = 256 ^ j) := gr_8 j
      have hq0 : 0 ≤ n / 256 ^ j := Int.ediv_nonneg h3 (by omega)
      have hq1 : n / 256 ^ j ≤ n := Int.ediv_le_self _ h3
      have hlen : pre.length + 1 ≤ 4 := by omega
      generalize (256 : Int) ^ j = p at *
      clear HP
      go_wp2_with fail
      refine (pow_any _ _ (by omega) (by omega)).mono ?_
      rintro e w' ⟨rfl, rfl⟩
      rw [G8.out]
      go_wp2_with (at_builtin; refine wpList_append_own _ rfl _ _ 29 rfl w.heap.size 5 i0 (.int .u8 0) 1 1 Tryd.underlying29 hi hz0 hz1 hz2 rfl (by decide) _ _ _ rfl (hown.alloc _) ⟨wr.heap.size, 0, none⟩ 1 1 [.int .u8 (n / p % 256)] rfl rfl ?d1 ?d2 ?d3 ?d4 ?d5 ?_)
      case d1 => exact cell_one_new _ _ _
      case d2 => intro u hu; simp at hu; subst hu; rfl
      case d3 => unfold maxLen; omega
      case d4 => omega
      case d5 => simp; omega
      intro v' w1 hown' hgrow _
      have hb1 : Below w.heap.size w w1 := (hbel.alloc hsz _).grown hgrow (by simp; omega) (fun k hk => (hown.lt k hk).1)
      have hfin : w1.ownsRow w.heap.size 5 1 v' (pre ++ [n / p % 256]).length ((pre ++ [n / p % 256]).map (Value.int .u8)) := by
        simpa using hown'
      have Hfin : Hid (w1.ownsRow w.heap.size 5 1 v' (pre ++ [n / p % 256]).length ((pre ++ [n / p % 256]).map (Value.int .u8))) := hfin
      clear hfin hown' hgrow hown
      go_wp2
      go_roundw
      case rel => exact ⟨_, j, rfl, by omega, by simp; omega, HL, Hfin.out, hb1⟩
      case measure => simp [intOf]
theorem rbig_row (n s : Int) (w : World) (hok : bigOk n s) :
    Calls Tryd.prog 24 #[.int .i64 n, .int .i64 s] w fun e w' => ∃ g cap, e = .returned (.tuple #[.slice (some ⟨g, 0, none⟩) (bigL s.toNat n).length cap, .int .i64 0]) ∧ w'.ownsRow w.heap.size 5 1 (.slice (some ⟨g, 0, none⟩) (bigL s.toNat n).length cap) (bigL s.toNat n).length ((bigL s.toNat n).map (Value.int .u8)) ∧ Below w.heap.size w w' := by
  refine (rbig_yes n s w hok).mono ?_
  rintro e w' ⟨v, rfl, ho, hb⟩
  obtain ⟨g, cap, rfl, _, _⟩ := shape ho (by rw [bigL_len]; have := hok.1; omega)
  exact ⟨g, cap, rfl, ho, hb⟩
end Go.Proofs.YtdlaaollamgplacDoor
