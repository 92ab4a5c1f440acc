/-
  CONTRACTS of the Go functions wire.Read, tollref1.Word and tollref1.Read. No claim by itself.
-/
import Derived.Test.YtdlaaollamgplagGreatDoorBig
import Derived.Test.YtdlaaollamgplagGreatDoorGet
namespace Go.Proofs.YtdlaaollamgplagGreatDoor
open Go.RowKit
/-- A number and an error, as a reading gives them. -/
def Told2 (t : Int × Int) (n : Int) (x : Value) : Prop :=
  (t = (n, 0) ∧ x = .nilIface) ∨ ∃ k, k ≠ 0 ∧ t = (n, k) ∧ x = .iface 88 (.int .i64 k)
theorem read_size (v : Value) (Z : List Int) (s : Int) (w : World) (h : s < 1 ∨ 4 < s) :
    Calls Tryz.prog 31 #[v, .int .i64 s] w fun e w' => (∃ n x, e = .returned (.tuple #[.int .i64 n, x]) ∧ Told2 (readF Z s) n x) ∧ w = w' := by
  have E : Hid (readF Z s = (0, 1)) := by show readF Z s = (0, 1); unfold readF; rw [if_pos h]
  go_enter Tryz.func31, Tryz.ntmps31
  go_wp2_with (go_at_call 76; refine (maySize_no _ _ h).mono ?_; rintro e w' ⟨rfl, rfl⟩)
  go_ret2
  exact ⟨⟨_, _, rfl, Or.inr ⟨1, by decide, E.out, rfl⟩⟩, rfl⟩
theorem read_short (a : Option Addr) (len cap : Nat) (Z : List Int) (s : Int) (w : World) (h1 : 1 ≤ s) (h2 : s ≤ 4) (hZ : Z.length = len) (hl : (len : Int) < s) :
    Calls Tryz.prog 31 #[.slice a len cap, .int .i64 s] w fun e w' => (∃ n x, e = .returned (.tuple #[.int .i64 n, x]) ∧ Told2 (readF Z s) n x) ∧ w = w' := by
  have E : Hid (readF Z s = (0, 8)) := by show readF Z s = (0, 8); unfold readF; rw [if_neg (by omega), if_pos (by rw [hZ]; exact hl)]
  clear hZ
  go_enter Tryz.func31, Tryz.ntmps31
  go_wp2_with (go_at_call 76; refine (maySize_yes _ _ h1 h2).mono ?_; rintro e w' ⟨rfl, rfl⟩)
  go_ret2
  exact ⟨⟨_, _, rfl, Or.inr ⟨8, by decide, E.out, rfl⟩⟩, rfl⟩
set_option maxHeartbeats 2000000 in
theorem read_whole (g off len cap : Nat) (Z : List Int) (s : Nat) (w : World) (hr : Row w g off len cap Z) (h1 : 1 ≤ s) (h2 : s ≤ 4) (hl : s ≤ len) :
    Calls Tryz.prog 31 #[.slice (some ⟨g, off, none⟩) len cap, .int .i64 s] w fun e w' => (∃ n x, e = .returned (.tuple #[.int .i64 n, x]) ∧ Told2 (readF Z s) n x) ∧ w = w' := by
  obtain ⟨z1, z2, z3, z4, z5⟩ := hr
  unfold maxLen at z3
  have E : Hid (readF Z s = if 2147483647 < word (Z.take s) then (0, 10) else (word (Z.take s), 0)) := by
    show readF Z s = if 2147483647 < word (Z.take s) then (0, 10) else (word (Z.take s), 0)
    unfold readF; rw [if_neg (by omega), if_neg (by omega), Int.toNat_natCast]
  have H4 : Hid (∀ t, t < len → w.cell? ⟨g, off + t, none⟩ = some (.int .u8 (Z.getD t 0))) := z4
  have H5 : Hid (∀ t, 0 ≤ Z.getD t 0 ∧ Z.getD t 0 < 256) := z5
  have HL : Hid (Z.length = len) := z1
  generalize readF Z s = F at *
  clear z1 z4 z5
  go_enter Tryz.func31, Tryz.ntmps31
  go_wp2_with (go_at_call 76; refine (maySize_yes _ _ (by omega) (by omega)).mono ?_; rintro e w' ⟨rfl, rfl⟩)
  go_loop [6, 22] (fun n i => ∃ k : Nat, i = .int .i64 k ∧ k ≤ s ∧ n = .int .i64 (word (Z.take k))) (fun _ i => s - (intOf i).toNat)
  case atStart => exact ⟨0, rfl, by omega, by simp [word]⟩
  case round =>
    obtain ⟨k, rfl, hk, rfl⟩ := hrel
    have hb := word_bd Z H5.out k (by rw [HL.out]; omega)
    have hp := pow256_bd k (by omega)
    by_cases hlt : k < s
    · have hc := H4.out k (by omega)
      have hby := H5.out k
      have hw : Hid (word (Z.take (k + 1)) = word (Z.take k) * 256 + Z.getD k 0) := word_take Z k (by rw [HL.out]; omega)
      have hx : word (Z.take k) < 16777216 := by
        have h3 : k ≤ 3 := by omega
        have : (256 : Nat) ^ k ≤ 256 ^ 3 := Nat.pow_le_pow_right (by decide) h3
        have e : ((256 ^ k : Nat) : Int) = (256 : Int) ^ k := by simp
        omega
      generalize word (Z.take k) = n at *
      generalize Z.getD k 0 = c at *
      have hor : bits .or .i64 (n * 256) c = n * 256 + c := shl_or n c (by omega) (by omega) (by omega) (by omega)
      obtain ⟨hb0, hb1⟩ := hb
      obtain ⟨hc0, hc1⟩ := hby
      clear hb1 hp
      go_wp2
      go_round
      case rel => exact ⟨k + 1, by go_num, by omega, by rw [hw.out]⟩
      case measure => simp [intOf]; omega
    · have ek : k = s := by omega
      subst ek
      generalize word (Z.take k) = n at *
      obtain ⟨hb0, hb1⟩ := hb
      by_cases hx : 2147483647 < n
      · have e := E.out
        rw [if_pos hx] at e
        have E2 : Hid (F = (0, 10)) := e
        clear e
        go_wp2
        go_ret2
        exact ⟨⟨_, _, rfl, Or.inr ⟨10, by decide, E2.out, rfl⟩⟩, rfl⟩
      · have e := E.out
        rw [if_neg hx] at e
        have E2 : Hid (F = (n, 0)) := e
        clear e
        go_wp2
        go_ret2
        exact ⟨⟨_, _, rfl, Or.inl ⟨E2.out, rfl⟩⟩, rfl⟩
end Go.Proofs.YtdlaaollamgplagGreatDoor
