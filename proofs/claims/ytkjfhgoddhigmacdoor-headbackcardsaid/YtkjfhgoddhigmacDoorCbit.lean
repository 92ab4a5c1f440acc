/-
  CONTRACT of the Go function code.bits. No claim by itself.
-/
import Derived.Test.YtkjfhgoddhigmacDoorCspell
namespace Go.Proofs.YtkjfhgoddhigmacDoor
open Go.RowKit
theorem bin_getD : ∀ (k : Nat) (x : Int) (t : Nat), t < k → (bin k x).getD t 0 = x / 2 ^ (k - 1 - t) % 2
  | 0, _, _, h => by omega
  | k + 1, x, 0, _ => by simp [bin]
  | k + 1, x, t + 1, h => by
    have ih := bin_getD k x t (by omega)
    show ((x / 2 ^ k % 2) :: bin k x).getD (t + 1) 0 = _
    rw [List.getD_cons_succ, ih, show k + 1 - 1 - (t + 1) = k - 1 - t from by omega]
theorem unpack_getD : ∀ (Z : List Int) (k : Nat), k < 8 * Z.length → (unpack Z).getD k 0 = Z.getD (k / 8) 0 / 2 ^ (7 - k % 8) % 2
  | [], k, h => by simp at h
  | c :: Z, k, h => by
    show (bin 8 c ++ unpack Z).getD k 0 = _
    by_cases hk : k < 8
    · have e1 : (bin 8 c ++ unpack Z).getD k 0 = (bin 8 c).getD k 0 := by
        simp [List.getD, List.getElem?_append, bin_len, hk]
      rw [e1, bin_getD 8 c k hk, Nat.div_eq_of_lt hk, Nat.mod_eq_of_lt hk]
      rfl
    · have ih := unpack_getD Z (k - 8) (by simp at h; omega)
      have e1 : (bin 8 c ++ unpack Z).getD k 0 = (unpack Z).getD (k - 8) 0 := by
        simp [List.getD, List.getElem?_append, bin_len, hk]
      have e2 : k / 8 = (k - 8) / 8 + 1 := by omega
      rw [e1, ih, e2, List.getD_cons_succ, show (k - 8) % 8 = k % 8 from by omega]
/-- The number of some bits of bytes. -/
def some_ (Z : List Int) (at_ n : Nat) : Int := val (((unpack Z).drop at_).take n)
theorem some_step (Z : List Int) (a j : Nat) (h : a + j < 8 * Z.length) : some_ Z a (j + 1) = some_ Z a j * 2 + (Z.getD ((a + j) / 8) 0 / 2 ^ (7 - (a + j) % 8) % 2) := by
  unfold some_
  have e : ((unpack Z).drop a).getD j 0 = (unpack Z).getD (a + j) 0 := by simp [List.getD]
  exact val_take ((unpack Z).drop a) j _ (by rw [List.length_drop, unpack_len]; omega) (by rw [e, unpack_getD Z _ h])
theorem some_bd (Z : List Int) (a j : Nat) (hj : j ≤ 8) : 0 ≤ some_ Z a j ∧ some_ Z a j < 256 := by
  unfold some_
  have h := val_bd (((unpack Z).drop a).take j) (fun y hy => unpack_bit Z y (List.drop_subset _ _ (List.take_subset _ _ hy)))
  have hl : (((unpack Z).drop a).take j).length ≤ 8 := by rw [List.length_take]; omega
  have hp : (2 : Nat) ^ (((unpack Z).drop a).take j).length ≤ 2 ^ 8 := Nat.pow_le_pow_right (by decide) hl
  have e : ((2 ^ (((unpack Z).drop a).take j).length : Nat) : Int) = (2 : Int) ^ (((unpack Z).drop a).take j).length := by simp
  omega
theorem bit_step (m c : Int) (p : Nat) (h0 : 0 ≤ m) (h1 : m < 256) (c0 : 0 ≤ c) (c1 : c < 256) : bits .or .i64 (m * 2) (wrap64 (bits .and .u8 (c / 2 ^ p) 1)) = m * 2 + c / 2 ^ p % 2 := by
  have hp := two_pos p
  have d0 : 0 ≤ c / 2 ^ p := Int.ediv_nonneg c0 (by omega)
  have d1 : c / 2 ^ p ≤ c := Int.ediv_le_self _ c0
  generalize c / 2 ^ p = d at *
  have e1 : bits .and .u8 d 1 = d % 2 := by
    rw [u8_and d 1 d0 (by omega) (by decide) (by decide), show (1 : Int).toNat = 1 from rfl, nat_mask1]; omega
  have e2 : wrap64 (d % 2) = d % 2 := by unfold wrap64; omega
  rw [e1, e2]
  exact i64_or_join 1 (m * 2) (d % 2) (by omega) (by omega) (by omega) (by omega) (by omega) (by omega)
set_option maxHeartbeats 2000000 in
theorem cbits_any (a : Option Addr) (len cap : Nat) (Z : List Int) (w : World) (hA : Arg w a len cap Z) (hl : len ≤ 158329674399744) (at_ n : Nat) (hn : n ≤ 8) (han : at_ + n ≤ 8 * len) :
    Calls Tryd.prog 65 #[.slice a len cap, .int .i64 at_, .int .i64 n] w fun e w' => e = .returned (.int .i64 (some_ Z at_ n)) ∧ w = w' := by
  have HS : Hid (∀ j, at_ + j < 8 * Z.length → some_ Z at_ (j + 1) = some_ Z at_ j * 2 + (Z.getD ((at_ + j) / 8) 0 / 2 ^ (7 - (at_ + j) % 8) % 2)) := some_step Z at_
  have HB : Hid (∀ j, j ≤ 8 → 0 ≤ some_ Z at_ j ∧ some_ Z at_ j < 256) := some_bd Z at_
  have H0 : Hid (some_ Z at_ 0 = 0) := by show some_ Z at_ 0 = 0; unfold some_; simp [val]
  have HR : Hid (Arg w a len cap Z) := hA
  clear hA
  generalize some_ Z at_ = S at *
  go_enter Tryd.func65, Tryd.ntmps65
  go_wp2
  go_loop [7, 11] (fun x i => ∃ k : Nat, i = .int .i64 k ∧ k ≤ n ∧ x = .int .i64 (S k)) (fun _ i => n - (intOf i).toNat)
  case atStart => exact ⟨0, rfl, by omega, by rw [H0.out]⟩
  case round =>
    obtain ⟨k, rfl, hk, rfl⟩ := hrel
    by_cases hlt : k < n
    · obtain ⟨h0, h1⟩ := HB.out k (by omega)
      rcases HR.out with ⟨hx, _⟩ | ⟨g, off, rfl, hr⟩
      · omega
      have hq : (at_ + k) / 8 < len := by omega
      have hE := HS.out k (by rw [hr.hlen]; omega)
      have hcell := hr.hcell _ hq
      have hby := hr.hbyte ((at_ + k) / 8)
      have hcap := hr.hcap
      have hmax := hr.hmax
      generalize Z.getD ((at_ + k) / 8) 0 = c at *
      generalize S k = m at *
      have hbs := bit_step m c (7 - (at_ + k) % 8) h0 h1 hby.1 hby.2
      clear HR hr
      go_wp2
      go_round
      case rel => exact ⟨k + 1, by go_num, by omega, by rw [hE]⟩
      case measure => simp [intOf]; omega
    · have e : k = n := by omega
      subst e
      go_wp2
      go_ret
      exact ⟨rfl, rfl⟩
end Go.Proofs.YtkjfhgoddhigmacDoor
