/-
  CONTRACTS of the Go functions wire.Read, tollref1.Word and tollref1.Read. No claim by itself.
-/
import Derived.Test.YtdlaaollamgplacDoorBig
import Derived.Test.YtdlaaollamgplacDoorGet
namespace Go.Proofs.YtdlaaollamgplacDoor
open Go.RowKit
/-- A number and an error, as a reading gives them. -/
def Told2 (t : Int × Int) (n : Int) (x : Value) : Prop :=
  (t = (n, 0) ∧ x = .nilIface) ∨ ∃ k, k ≠ 0 ∧ t = (n, k) ∧ x = .iface 73 (.int .i64 k)
set_option maxHeartbeats 2000000 in
theorem word_any (g off len cap : Nat) (Z : List Int) (w : World) (hr : Row w g off len cap Z) (h2 : len ≤ 4) :
    Calls Tryd.prog 26 #[.slice (some ⟨g, off, none⟩) len cap] w fun e w' => e = .returned (.int .i64 (word Z)) ∧ w = w' := by
  obtain ⟨z1, z2, z3, z4, z5⟩ := hr
  unfold maxLen at z3
  have H4 : Hid (∀ t, t < len → w.cell? ⟨g, off + t, none⟩ = some (.int .u8 (Z.getD t 0))) := z4
  have H5 : Hid (∀ t, 0 ≤ Z.getD t 0 ∧ Z.getD t 0 < 256) := z5
  have HL : Hid (Z.length = len) := z1
  clear z1 z4 z5
  go_enter Tryd.func26, Tryd.ntmps26
  go_wp2
  go_loop [3, 4] (fun n i => ∃ k : Nat, i = .int .i64 k ∧ k ≤ len ∧ n = .int .i64 (word (Z.take k))) (fun _ i => len - (intOf i).toNat)
  case atStart => exact ⟨0, rfl, by omega, by simp [word]⟩
  case round =>
    obtain ⟨k, rfl, hk, rfl⟩ := hrel
    have hb := word_bd Z H5.out k (by rw [HL.out]; omega)
    by_cases hlt : k < len
    · have hc := H4.out k (by omega)
      have hby := H5.out k
      have hw : Hid (word (Z.take (k + 1)) = word (Z.take k) * 256 + Z.getD k 0) := word_take Z k (by rw [HL.out]; omega)
      have hx : word (Z.take k) < 16777216 := by
        have h3 : k ≤ 3 := by omega
        have : (256 : Nat) ^ k ≤ 256 ^ 3 := Nat.pow_le_pow_right (by decide) h3
        have e : ((256 ^ k : Nat) : Int) = (256 : Int) ^ k := by simp
        omega
      generalize word (Z.take k) = n at *
      generalize Z.getD k 0 = c at *
      obtain ⟨hb0, hb1⟩ := hb
      obtain ⟨hc0, hc1⟩ := hby
      clear hb1
      go_wp2
      go_round
      case rel => exact ⟨k + 1, by go_num, by omega, by rw [hw.out]⟩
      case measure => simp [intOf]; omega
    · have ek : Z.take k = Z := List.take_of_length_le (by rw [HL.out]; omega)
      rw [ek]
      go_wp2
      go_ret
      exact ⟨rfl, rfl⟩
end Go.Proofs.YtdlaaollamgplacDoor
