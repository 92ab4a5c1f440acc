/-
  CONTRACT of the Go function code.bits. No claim by itself.
-/
import Derived.Deep.QuietTactic
import Derived.BigQuiet
import Derived.Test.YtkjfhgoddhigmacDoorM22
namespace Go.Proofs.YtkjfhgoddhigmacDoor
open Go.RowKit
theorem bin_getD : ∀ (k : Nat) (x : Int) (t : Nat), t < k → (bin k x).getD t 0 = x / 2 ^ (k - 1 - t) % 2
  | 0, _, _, h => by omega
  | k + 1, x, 0, _ => by simp [bin]
  | k + 1, x, t + 1, h => by
    have ih := bin_getD k x t (by omega)
    show ((x / 2 ^ k % 2) :: bin k x).getD (t + 1) 0 = _
    rw [List.getD_cons_succ, ih, show k + 1 - 1 - (t + 1) = k - 1 - t from by omega]
theorem unpack_getD : ∀ (Z : List Int) (k : Nat), k < 8 * Z.length → (unpack Z).getD k 0 = Z.getD (k / 8) 0 / 2 ^ (7 - k % 8) % 2
  | [], k, h => by simp at h
  | c :: Z, k, h => by
    show (bin 8 c ++ unpack Z).getD k 0 = _
    by_cases hk : k < 8
    · have e1 : (bin 8 c ++ unpack Z).getD k 0 = (bin 8 c).getD k 0 := by
        simp [List.getD, List.getElem?_append, bin_len, hk]
      rw [e1, bin_getD 8 c k hk, Nat.div_eq_of_lt hk, Nat.mod_eq_of_lt hk]
      rfl
    · have ih := unpack_getD Z (k - 8) (by simp at h; omega)
      have e1 : (bin 8 c ++ unpack Z).getD k 0 = (unpack Z).getD (k - 8) 0 := by
        simp [List.getD, List.getElem?_append, bin_len, hk]
      have e2 : k / 8 = (k - 8) / 8 + 1 := by omega
      rw [e1, ih, e2, List.getD_cons_succ, show (k - 8) % 8 = k % 8 from by omega]
/-- The number of some bits of bytes. -/
def some_ (Z : List Int) (at_ n : Nat) : Int := val (((unpack Z).drop at_).take n)
theorem some_step (Z : List Int) (a j : Nat) (h : a + j < 8 * Z.length) : some_ Z a (j + 1) = some_ Z a j * 2 + (Z.getD ((a + j) / 8) 0 / 2 ^ (7 - (a + j) % 8) % 2) := by
  unfold some_
  have e : ((unpack Z).drop a).getD j 0 = (unpack Z).getD (a + j) 0 := by simp [List.getD]
  exact val_take ((unpack Z).drop a) j _ (by rw [List.length_drop, unpack_len]; omega) (by rw [e, unpack_getD Z _ h])
theorem some_bd (Z : List Int) (a j : Nat) (hj : j ≤ 8) : 0 ≤ some_ Z a j ∧ some_ Z a j < 256 := by
  unfold some_
  have h := val_bd (((unpack Z).drop a).take j) (fun y hy => unpack_bit Z y (List.drop_subset _ _ (List.take_subset _ _ hy)))
  have hl : (((unpack Z).drop a).take j).length ≤ 8 := by rw [List.length_take]; omega
  have hp : (2 : Nat) ^ (((unpack Z).drop a).take j).length ≤ 2 ^ 8 := Nat.pow_le_pow_right (by decide) hl
  have e : ((2 ^ (((unpack Z).drop a).take j).length : Nat) : Int) = (2 : Int) ^ (((unpack Z).drop a).take j).length := by simp
  omega
theorem bit_step (m c : Int) (p : Nat) (h0 : 0 ≤ m) (h1 : m < 256) (c0 : 0 ≤ c) (c1 : c < 256) : bits .or .i64 (m * 2) (wrap64 (bits .and .u8 (c / 2 ^ p) 1)) = m * 2 + c / 2 ^ p % 2 := by
  have hp := two_pos p
  have d0 : 0 ≤ c / 2 ^ p := Int.ediv_nonneg c0 (by omega)
  have d1 : c / 2 ^ p ≤ c := Int.ediv_le_self _ c0
  generalize c / 2 ^ p = d at *
  have e1 : bits .and .u8 d 1 = d % 2 := by
    rw [u8_and d 1 d0 (by omega) (by decide) (by decide), show (1 : Int).toNat = 1 from rfl, nat_mask1]; omega
  have e2 : wrap64 (d % 2) = d % 2 := by unfold wrap64; omega
  rw [e1, e2]
  exact i64_or_join 1 (m * 2) (d % 2) (by omega) (by omega) (by omega) (by omega) (by omega) (by omega)
set_option maxHeartbeats 2000000 in
theorem cbits_any (a : Option Addr) (len cap : Nat) (Z : List Int) (w : World) (hA : Arg w a len cap Z) (hl : len ≤ 158329674399744) (at_ n : Nat) (hn : n ≤ 8) (han : at_ + n ≤ 8 * len) :
    Calls Tryd.prog 65 #[.slice a len cap, .int .i64 at_, .int .i64 n] w fun e w' => e = .returned (.int .i64 (some_ Z at_ n)) ∧ w = w' := by
  have HS : Hid (∀ j, at_ + j < 8 * Z.length → some_ Z at_ (j + 1) = some_ Z at_ j * 2 + (Z.getD ((at_ + j) / 8) 0 / 2 ^ (7 - (at_ + j) % 8) % 2)) := some_step Z at_
  have HB : Hid (∀ j, j ≤ 8 → 0 ≤ some_ Z at_ j ∧ some_ Z at_ j < 256) := some_bd Z at_
  have H0 : Hid (some_ Z at_ 0 = 0) := by show some_ Z at_ 0 = 0; unfold some_; simp [val]
  have HR : Hid (Arg w a len cap Z) := hA
  clear hA
  generalize some_ Z at_ = S at *
  go_enter Tryd.func65, Tryd.ntmps65
  go_wp2
  go_loop [7, 11] (fun x i => ∃ k : Nat, i = .int .i64 k ∧ k ≤ n ∧ x = .int .i64 (S k)) (fun _ i => n - (intOf i).toNat)
  case atStart => exact ⟨0, rfl, by omega, by rw [H0.out]⟩
  case round =>
    obtain ⟨k, rfl, hk, rfl⟩ := hrel
    by_cases hlt : k < n
    · obtain ⟨h0, h1⟩ := HB.out k (by omega)
      rcases HR.out with ⟨hx, _⟩ | ⟨g, off, rfl, hr⟩
      · omega
      have hq : (at_ + k) / 8 < len := by omega
      have hE := HS.out k (by rw [hr.hlen]; omega)
      have hcell := hr.hcell _ hq
      have hby := hr.hbyte ((at_ + k) / 8)
      have hcap := hr.hcap
      have hmax := hr.hmax
      generalize Z.getD ((at_ + k) / 8) 0 = c at *
      generalize S k = m at *
      have hbs := bit_step m c (7 - (at_ + k) % 8) h0 h1 hby.1 hby.2
      clear HR hr
      go_wp2
      go_round
      case rel => exact ⟨k + 1, by go_num, by omega, by rw [hE]⟩
      case measure => simp [intOf]; omega
    · have e : k = n := by omega
      subst e
      go_wp2
      go_ret
      exact ⟨rfl, rfl⟩
end Go.Proofs.YtkjfhgoddhigmacDoor
/-
  CONTRACT of the Go function code.filled. No claim by itself.
-/
namespace Go.Proofs.YtkjfhgoddhigmacDoor
open Go.RowKit
theorem drewN_bel {B : Nat} {w w' : World} (h : Below B w w') : ∀ n, Below B w (w'.drewN n)
  | 0 => h
  | n + 1 => by
    have := drewN_bel h n
    exact ⟨this.os, this.tape, this.output, this.size, this.block⟩
theorem val_ones : ∀ (l : List Int), (∀ y ∈ l, y = 0 ∨ y = 1) → (val l = 2 ^ l.length - 1 ↔ (0 : Int) ∉ l)
  | [], _ => by simp [val]
  | y :: l, h => by
    have ih := val_ones l (fun z hz => h z (List.mem_cons_of_mem _ hz))
    have hb := val_bd l (fun z hz => h z (List.mem_cons_of_mem _ hz))
    have hp := two_pos l.length
    rw [val_cons, List.length_cons, Int.pow_succ, List.mem_cons]
    generalize val l = v at *
    generalize (2 : Int) ^ l.length = p at *
    rcases h y List.mem_cons_self with rfl | rfl
    · constructor
      · intro h1; omega
      · intro h1; exact absurd (Or.inl rfl) h1
    · constructor
      · intro h1 h2
        rcases h2 with h2 | h2
        · omega
        · exact (ih.1 (by omega)) h2
      · intro h1
        have := ih.2 (fun h2 => h1 (Or.inr h2))
        omega
/-- What is left only fills up. -/
def Fills (l : List Int) : Prop := l.length < 8 ∧ (0 : Int) ∉ l
theorem drop_len (Z : List Int) (at_ : Nat) : ((unpack Z).drop at_).length = 8 * Z.length - at_ := by rw [List.length_drop, unpack_len]
theorem some_all (Z : List Int) (at_ : Nat) : (some_ Z at_ (8 * Z.length - at_) = 2 ^ (8 * Z.length - at_) - 1 ↔ (0 : Int) ∉ (unpack Z).drop at_) := by
  have h := val_ones ((unpack Z).drop at_) (fun y hy => unpack_bit Z y (List.drop_subset _ _ hy))
  have e : ((unpack Z).drop at_).take (8 * Z.length - at_) = (unpack Z).drop at_ := List.take_of_length_le (by rw [drop_len]; exact Nat.le_refl _)
  rw [drop_len] at h
  unfold some_
  rw [e]
  exact h
theorem pow_bd8 (k : Nat) (h : k < 8) : 1 ≤ (2 : Int) ^ k ∧ (2 : Int) ^ k ≤ 128 := by
  have h1 : (2 : Nat) ^ k ≤ 2 ^ 7 := Nat.pow_le_pow_right (by decide) (by omega)
  have h2 : (0 : Nat) < 2 ^ k := Nat.pos_of_ne_zero (by simp)
  have e : ((2 ^ k : Nat) : Int) = (2 : Int) ^ k := by simp
  omega
set_option maxHeartbeats 2000000 in
theorem filled_any (a : Option Addr) (len cap : Nat) (Z : List Int) (w : World) (hA : Arg w a len cap Z) (hZ : Z.length = len) (hl : len ≤ 158329674399744) (at_ : Nat) (hat : at_ ≤ 8 * len) :
    Calls Tryd.prog 63 #[.slice a len cap, .int .i64 at_] w fun e w' => ∃ v, e = .returned (.bool v) ∧ (v = true ↔ Fills ((unpack Z).drop at_)) ∧ Below w.heap.size w w' := by
  have HA : Hid (∀ n, Arg (w.drewN n) a len cap Z) := fun n => hA.below (drewN_bel (Below.refl _ _) n)
  have HF : Hid (Fills ((unpack Z).drop at_) ↔ 8 * len - at_ < 8 ∧ some_ Z at_ (8 * len - at_) = 2 ^ (8 * len - at_) - 1) := by
    show _ ↔ _
    have h1 := some_all Z at_
    rw [hZ] at h1
    unfold Fills
    rw [drop_len, hZ, h1]
  clear hA
  obtain ⟨left, hleft⟩ : ∃ left : Nat, 8 * len - at_ = left := ⟨_, rfl⟩
  have hw1 : wrap64 (8 * (len : Int) - at_) = (left : Int) := by unfold wrap64; omega
  have e1 : (8 * (len : Int) - at_) = left := by omega
  rw [hleft] at HF
  by_cases h8 : left < 8
  · have hd : decide ((left : Int) < 8) = true := by simp; omega
    have hc : ∀ n, Calls Tryd.prog 65 #[.slice a len cap, .int .i64 at_, .int .i64 left] (w.drewN n) fun e w' => e = .returned (.int .i64 (some_ Z at_ left)) ∧ w' = w.drewN n := fun n =>
      (cbits_any a len cap Z _ (HA.out n) hl at_ left (by omega) (by omega)).mono fun _ _ h => ⟨h.1, h.2.symm⟩
    have hpb := pow_bd8 left h8
    generalize some_ Z at_ left = m at *
    obtain ⟨p, hp⟩ : ∃ p : Int, 2 ^ left = p := ⟨_, rfl⟩
    rw [hp] at hpb
    have hsh : wrap64 (2 ^ left) = p := by rw [hp]; unfold wrap64; omega
    obtain ⟨v, hv⟩ : ∃ v : Bool, (m == p - 1) = v := ⟨_, rfl⟩
    have HV : Hid (v = true ↔ Fills ((unpack Z).drop at_)) := by
      show _ ↔ _
      rw [HF.out, ← hv, beq_iff_eq, ← hp]
      exact ⟨fun h => ⟨h8, h⟩, fun h => h.2⟩
    clear HF
    go_enter Tryd.func63, Tryd.ntmps63
    go_wp2_with fail
    go_quiet ((go_at_call 65; exact Calls.quiet_of_same (hc _)))
    go_wp2
    go_ret
    refine ⟨v, ?_, HV.out, drewN_bel (Below.refl _ _) _⟩
    simp
  · have hd : decide ((left : Int) < 8) = false := by simp; omega
    have HV : Hid (¬ Fills ((unpack Z).drop at_)) := by
      show ¬ _
      rw [HF.out]; intro h; exact h8 h.1
    clear HF HA
    go_enter Tryd.func63, Tryd.ntmps63
    go_wp2_with fail
    go_quiet (fail)
    go_wp2
    go_ret
    exact ⟨false, rfl, by simp [HV.out], drewN_bel (Below.refl _ _) _⟩
end Go.Proofs.YtkjfhgoddhigmacDoor
