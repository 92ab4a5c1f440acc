/-
  CONTRACT of the Go function tollref1.pow. No claim by itself.
-/
import Derived.Test.YtdlaaollamgplacDoorProg
import Derived.Test.YtdlaaollamgplacDoorMath
import Derived.WalkKit
import Derived.WalkLawsBesides
import Derived.WalkSpells
namespace Go.Proofs.YtdlaaollamgplacDoor
open Go.RowKit
theorem pow_any (n : Int) (w : World) (h0 : 0 ≤ n) (h1 : n ≤ 32) :
    Calls Tryd.prog 49 #[.int .i64 n] w fun e w' => e = .returned (.int .i64 (gr n + 1)) ∧ w = w' := by
  have E : Hid (p2 n.toNat = gr n + 1) := gr_p2 n
  go_enter Tryd.func49, Tryd.ntmps49
  go_wp2
  go_loop [3, 4] (fun x i => ∃ k : Nat, (k : Int) ≤ n ∧ i = .int .i64 k ∧ x = .int .i64 (p2 k)) (fun _ i => (n - intOf i).toNat)
  case atStart => exact ⟨0, by omega, rfl, rfl⟩
  case round =>
    obtain ⟨k, hk, rfl, rfl⟩ := hrel
    have hb := p2_bd k (by omega)
    by_cases hlt : (k : Int) < n
    · have hs : Hid (p2 (k + 1) = p2 k * 2) := p2_succ k
      go_wp2
      go_round
      case rel => exact ⟨k + 1, by omega, by go_num, by rw [hs.out]⟩
      case measure => simp [intOf]; omega
    · go_wp2
      go_ret
      have e : n.toNat = k := by omega
      rw [← E.out, e]
      exact ⟨rfl, rfl⟩
end Go.Proofs.YtdlaaollamgplacDoor
