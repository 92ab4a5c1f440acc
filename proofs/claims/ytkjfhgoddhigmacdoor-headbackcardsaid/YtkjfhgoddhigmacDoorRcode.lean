/-
  CONTRACTS of the Go functions tollref1.Bits and tollref1.Code, for texts of at most 2097152 bytes. No claim by itself.
-/
import Derived.Test.YtkjfhgoddhigmacDoorRbits
import Derived.Test.YtkjfhgoddhigmacDoorRow
namespace Go.Proofs.YtkjfhgoddhigmacDoor
open Go.RowKit
set_option maxRecDepth 100000
def slen : Value → Nat
  | .slice _ n _ => n
  | _ => 0
theorem slen_own {w : World} {base n : Nat} {v : Value} {xs : List Value} (h : w.ownsRow base 5 1 v n xs) : slen v = n ∧ ∃ a cap, v = .slice a n cap ∧ n ≤ cap := by
  obtain ⟨_, ⟨rfl, rfl⟩ | ⟨g, cap, cur, rfl, _, _, hc, _⟩⟩ := h
  · exact ⟨rfl, none, 0, rfl, Nat.le_refl _⟩
  · exact ⟨rfl, _, cap, rfl, hc⟩
theorem shape_n {w : World} {base n : Nat} {v : Value} {xs : List Value} (h : w.ownsRow base 5 1 v n xs) (hn : 1 ≤ n) : ∃ g cap, v = .slice (some ⟨g, 0, none⟩) n cap := by
  obtain ⟨_, ⟨_, h0⟩ | ⟨g, cap, cur, hv, _⟩⟩ := h
  · omega
  · exact ⟨g, cap, hv⟩
theorem own_mono {w : World} {base base' n : Nat} {v : Value} {xs : List Value} (h : w.ownsRow base 5 1 v n xs) (hb : base' ≤ base) : w.ownsRow base' 5 1 v n xs := by
  obtain ⟨h1, h2 | ⟨g, cap, cur, hv, hg, r⟩⟩ := h
  · exact ⟨h1, Or.inl h2⟩
  · exact ⟨h1, Or.inr ⟨g, cap, cur, hv, Nat.le_trans hb hg, r⟩⟩
end Go.Proofs.YtkjfhgoddhigmacDoor
