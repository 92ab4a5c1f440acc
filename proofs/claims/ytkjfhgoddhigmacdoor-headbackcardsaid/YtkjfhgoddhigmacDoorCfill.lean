/-
  CONTRACT of the Go function code.filled. No claim by itself.
-/
import Derived.Test.YtkjfhgoddhigmacDoorCbit
import Derived.Deep.QuietTactic
import Derived.BigQuiet
namespace Go.Proofs.YtkjfhgoddhigmacDoor
open Go.RowKit
theorem drewN_bel {B : Nat} {w w' : World} (h : Below B w w') : ∀ n, Below B w (w'.drewN n)
  | 0 => h
  | n + 1 => by
    have := drewN_bel h n
    exact ⟨this.os, this.tape, this.output, this.size, this.block⟩
theorem val_ones : ∀ (l : List Int), (∀ y ∈ l, y = 0 ∨ y = 1) → (val l = 2 ^ l.length - 1 ↔ (0 : Int) ∉ l)
  | [], _ => by simp [val]
  | y :: l, h => by
    have ih := val_ones l (fun z hz => h z (List.mem_cons_of_mem _ hz))
    have hb := val_bd l (fun z hz => h z (List.mem_cons_of_mem _ hz))
    have hp := two_pos l.length
    rw [val_cons, List.length_cons, Int.pow_succ, List.mem_cons]
    generalize val l = v at *
    generalize (2 : Int) ^ l.length = p at *
    rcases h y List.mem_cons_self with rfl | rfl
    · constructor
      · intro h1; omega
      · intro h1; exact absurd (Or.inl rfl) h1
    · constructor
      · intro h1 h2
        rcases h2 with h2 | h2
        · omega
        · exact (ih.1 (by omega)) h2
      · intro h1
        have := ih.2 (fun h2 => h1 (Or.inr h2))
        omega
/-- What is left only fills up. -/
def Fills (l : List Int) : Prop := l.length < 8 ∧ (0 : Int) ∉ l
theorem drop_len (Z : List Int) (at_ : Nat) : ((unpack Z).drop at_).length = 8 * Z.length - at_ := by rw [List.length_drop, unpack_len]
theorem some_all (Z : List Int) (at_ : Nat) : (some_ Z at_ (8 * Z.length - at_) = 2 ^ (8 * Z.length - at_) - 1 ↔ (0 : Int) ∉ (unpack Z).drop at_) := by
  have h := val_ones ((unpack Z).drop at_) (fun y hy => unpack_bit Z y (List.drop_subset _ _ hy))
  have e : ((unpack Z).drop at_).take (8 * Z.length - at_) = (unpack Z).drop at_ := List.take_of_length_le (by rw [drop_len]; exact Nat.le_refl _)
  rw [drop_len] at h
  unfold some_
  rw [e]
  exact h
theorem pow_bd8 (k : Nat) (h : k < 8) : 1 ≤ (2 : Int) ^ k ∧ (2 : Int) ^ k ≤ 128 := by
  have h1 : (2 : Nat) ^ k ≤ 2 ^ 7 := Nat.pow_le_pow_right (by decide) (by omega)
  have h2 : (0 : Nat) < 2 ^ k := Nat.pos_of_ne_zero (by simp)
  have e : ((2 ^ k : Nat) : Int) = (2 : Int) ^ k := by simp
  omega
set_option maxHeartbeats 2000000 in
theorem filled_any (a : Option Addr) (len cap : Nat) (Z : List Int) (w : World) (hA : Arg w a len cap Z) (hZ : Z.length = len) (hl : len ≤ 158329674399744) (at_ : Nat) (hat : at_ ≤ 8 * len) :
    Calls Tryd.prog 63 #[.slice a len cap, .int .i64 at_] w fun e w' => ∃ v, e = .returned (.bool v) ∧ (v = true ↔ Fills ((unpack Z).drop at_)) ∧ Below w.heap.size w w' := by
  have HA : Hid (∀ n, Arg (w.drewN n) a len cap Z) := fun n => hA.below (drewN_bel (Below.refl _ _) n)
  have HF : Hid (Fills ((unpack Z).drop at_) ↔ 8 * len - at_ < 8 ∧ some_ Z at_ (8 * len - at_) = 2 ^ (8 * len - at_) - 1) := by
    show _ ↔ _
    have h1 := some_all Z at_
    rw [hZ] at h1
    unfold Fills
    rw [drop_len, hZ, h1]
  clear hA
  obtain ⟨left, hleft⟩ : ∃ left : Nat, 8 * len - at_ = left := ⟨_, rfl⟩
  have hw1 : wrap64 (8 * (len : Int) - at_) = (left : Int) := by unfold wrap64; omega
  have e1 : (8 * (len : Int) - at_) = left := by omega
  rw [hleft] at HF
  by_cases h8 : left < 8
  · have hd : decide ((left : Int) < 8) = true := by simp; omega
    have hc : ∀ n, Calls Tryd.prog 65 #[.slice a len cap, .int .i64 at_, .int .i64 left] (w.drewN n) fun e w' => e = .returned (.int .i64 (some_ Z at_ left)) ∧ w' = w.drewN n := fun n =>
      (cbits_any a len cap Z _ (HA.out n) hl at_ left (by omega) (by omega)).mono fun _ _ h => ⟨h.1, h.2.symm⟩
    have hpb := pow_bd8 left h8
    generalize some_ Z at_ left = m at *
    obtain ⟨p, hp⟩ : ∃ p : Int, 2 ^ left = p := ⟨_, rfl⟩
    rw [hp] at hpb
    have hsh : wrap64 (2 ^ left) = p := by rw [hp]; unfold wrap64; omega
    obtain ⟨v, hv⟩ : ∃ v : Bool, (m == p - 1) = v := ⟨_, rfl⟩
    have HV : Hid (v = true ↔ Fills ((unpack Z).drop at_)) := by
      show _ ↔ _
      rw [HF.out, ← hv, beq_iff_eq, ← hp]
      exact ⟨fun h => ⟨h8, h⟩, fun h => h.2⟩
    clear HF
    go_enter Tryd.func63, Tryd.ntmps63
    go_wp2_with fail
    go_quiet ((go_at_call 65; exact Calls.quiet_of_same (hc _)))
    go_wp2
    go_ret
    refine ⟨v, ?_, HV.out, drewN_bel (Below.refl _ _) _⟩
    simp
  · have hd : decide ((left : Int) < 8) = false := by simp; omega
    have HV : Hid (¬ Fills ((unpack Z).drop at_)) := by
      show ¬ _
      rw [HF.out]; intro h; exact h8 h.1
    clear HF HA
    go_enter Tryd.func63, Tryd.ntmps63
    go_wp2_with fail
    go_quiet (fail)
    go_wp2
    go_ret
    exact ⟨false, rfl, by simp [HV.out], drewN_bel (Below.refl _ _) _⟩
end Go.Proofs.YtkjfhgoddhigmacDoor
