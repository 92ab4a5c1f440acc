/-
  CONTRACTS of the Go functions tollref1.bits and tollref1.Bits, for texts of at most 2097152 bytes. No claim by itself.
-/
import Derived.Test.YtkjfhgoddhigmacDoorM17
import Derived.Test.YtkjfhgoddhigmacDoorM10
import Derived.Test.YtkjfhgoddhigmacDoorM09
namespace Go.Proofs.YtkjfhgoddhigmacDoor
open Go.RowKit
theorem nums_len (s : ByteArray) : (nums s).length = s.size := by simp [nums]
theorem nums_at (s : ByteArray) (k : Nat) (h : k < s.size) : ∀ h, ((s[k]'h).toNat : Int) = (nums s).getD k 0 := by
  intro h'
  have hk : k < s.data.toList.length := by simpa using h
  simp only [nums, List.getD, List.getElem?_map, List.getElem?_eq_getElem hk, Option.map_some, Option.getD_some]
  rfl
theorem nums_byte (s : ByteArray) (k : Nat) : 0 ≤ (nums s).getD k 0 ∧ (nums s).getD k 0 < 256 := by
  by_cases h : k < s.data.toList.length
  · simp only [nums, List.getD, List.getElem?_map, List.getElem?_eq_getElem h, Option.map_some, Option.getD_some]
    have := (s.data.toList[k]).toNat_lt
    omega
  · simp only [nums, List.getD, List.getElem?_map, List.getElem?_eq_none (Nat.le_of_not_lt h), Option.map_none, Option.getD_none]
    omega
theorem info5 : (Tryd.prog.info? 5).map (fun i => (i.zero, i.size, i.bytes)) = some (some (.int .u8 0), 1, 1) := by kernel_rfl
theorem pow2_bd (k : Nat) (h : k ≤ 8) : 1 ≤ (2 : Int) ^ k ∧ (2 : Int) ^ k ≤ 256 := by
  have h1 : (2 : Nat) ^ k ≤ 2 ^ 8 := Nat.pow_le_pow_right (by decide) h
  have h2 : (0 : Nat) < 2 ^ k := Nat.pos_of_ne_zero (by simp)
  have e : ((2 ^ k : Nat) : Int) = (2 : Int) ^ k := by simp
  omega
theorem gr_pow (j : Nat) : gr (j : Int) + 1 = 2 ^ j := by rw [← gr_p2]; unfold p2; simp
end Go.Proofs.YtkjfhgoddhigmacDoor
/-
  CONTRACTS of the Go functions tollref1.Bits and tollref1.Code, for texts of at most 2097152 bytes. No claim by itself.
-/
namespace Go.Proofs.YtkjfhgoddhigmacDoor
open Go.RowKit
set_option maxRecDepth 100000
def slen : Value → Nat
  | .slice _ n _ => n
  | _ => 0
theorem slen_own {w : World} {base n : Nat} {v : Value} {xs : List Value} (h : w.ownsRow base 5 1 v n xs) : slen v = n ∧ ∃ a cap, v = .slice a n cap ∧ n ≤ cap := by
  obtain ⟨_, ⟨rfl, rfl⟩ | ⟨g, cap, cur, rfl, _, _, hc, _⟩⟩ := h
  · exact ⟨rfl, none, 0, rfl, Nat.le_refl _⟩
  · exact ⟨rfl, _, cap, rfl, hc⟩
theorem shape_n {w : World} {base n : Nat} {v : Value} {xs : List Value} (h : w.ownsRow base 5 1 v n xs) (hn : 1 ≤ n) : ∃ g cap, v = .slice (some ⟨g, 0, none⟩) n cap := by
  obtain ⟨_, ⟨_, h0⟩ | ⟨g, cap, cur, hv, _⟩⟩ := h
  · omega
  · exact ⟨g, cap, hv⟩
theorem own_mono {w : World} {base base' n : Nat} {v : Value} {xs : List Value} (h : w.ownsRow base 5 1 v n xs) (hb : base' ≤ base) : w.ownsRow base' 5 1 v n xs := by
  obtain ⟨h1, h2 | ⟨g, cap, cur, hv, hg, r⟩⟩ := h
  · exact ⟨h1, Or.inl h2⟩
  · exact ⟨h1, Or.inr ⟨g, cap, cur, hv, Nat.le_trans hb hg, r⟩⟩
end Go.Proofs.YtkjfhgoddhigmacDoor
