/-
  CONTRACTS of the Go functions wire.greatest, wire.mayBits, wire.mayFirst and wire.Put, each by a walk over its text: what it returns, and what becomes of memory. No claim by itself.
-/
import Derived.Test.YtdlaaollamgpladProg
import Derived.Test.YtdlaaollamgpladMath
import Derived.WalkKit
import Derived.WalkLawsBesides
import Derived.WalkSpells
namespace Go.Proofs.Ytdlaaollamgplad
open Go.RowKit
set_option maxRecDepth 100000
theorem great (b : Int) (w : World) (h1 : 1 ≤ b) (h2 : b ≤ 32) :
    Calls Try.prog 34 #[.int .i64 b] w fun e w' => e = .returned (.int .i64 (gr b)) ∧ w = w' := by
  have hp : (2 : Int) ^ b.toNat ≤ 2 ^ 32 := by
    have : (2 : Nat) ^ b.toNat ≤ 2 ^ 32 := Nat.pow_le_pow_right (by decide) (by omega)
    exact_mod_cast this
  have hp0 : (0 : Int) < 2 ^ b.toNat := by
    have : (0 : Nat) < 2 ^ b.toNat := Nat.pos_of_ne_zero (by simp)
    exact_mod_cast this
  have e : wrap64 (wrap64 (2 ^ b.toNat) - 1) = gr b := by unfold gr wrap64; omega
  have E : Hid (wrap64 (wrap64 (2 ^ b.toNat) - 1) = gr b) := e
  clear e hp hp0
  go_enter Try.func34, Try.ntmps34
  go_wp2
  rw [E.out]
  go_ret
  exact ⟨rfl, rfl⟩
theorem info5w : (Try.prog.info? 5).map (fun i => (i.zero, i.size, i.bytes)) = some (some (.int .u8 0), 1, 1) := by kernel_rfl
theorem shape {w : World} {base : Nat} {v : Value} {L : List Int} (h : w.ownsRow base 5 1 v L.length (L.map (Value.int .u8))) (hn : 1 ≤ L.length) : ∃ g cap, v = .slice (some ⟨g, 0, none⟩) L.length cap ∧ base ≤ g ∧ L.length ≤ cap := by
  obtain ⟨_, ⟨_, h0⟩ | ⟨g, cap, cur, hv, hb, _, hc, _⟩⟩ := h
  · omega
  · exact ⟨g, cap, hv, hb, hc⟩
end Go.Proofs.Ytdlaaollamgplad
