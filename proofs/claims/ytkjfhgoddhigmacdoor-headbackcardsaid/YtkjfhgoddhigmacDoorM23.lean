/-
  PLAIN MATHEMATICS: bits that are cleared one by one. Nothing of the program stands here. No claim by itself.
-/
import Derived.Laws.CopyOwn
import Derived.Lib.MakeNoZero
import Derived.Test.YtkjfhgoddhigmacDoorM22
import Derived.Test.YtkjfhgoddhigmacDoorM10
namespace Go.Proofs.YtkjfhgoddhigmacDoor
open Go
theorem val_set : ∀ (l : List Int) (r : Nat), r < l.length → l.getD r 0 = 1 → val (l.set r 0) = val l - 2 ^ (l.length - 1 - r)
  | [], r, h, _ => by simp at h
  | y :: l, 0, _, h1 => by
    simp at h1
    rw [List.set_cons_zero, val_cons, val_cons, h1, List.length_cons]
    simp
    omega
  | y :: l, r + 1, h, h1 => by
    have ih := val_set l r (by simpa using h) (by simpa using h1)
    rw [List.set_cons_succ, val_cons, val_cons, ih, List.length_set, List.length_cons]
    rw [show l.length + 1 - 1 - (r + 1) = l.length - 1 - r from by omega]
    omega
theorem pack_set : ∀ (N : Nat) (X : List Int) (t : Nat), X.length = 8 * N → t < 8 * N → X.getD t 0 = 1 →
    pack N (X.set t 0) = (pack N X).set (t / 8) ((pack N X).getD (t / 8) 0 - 2 ^ (7 - t % 8))
  | 0, _, t, _, ht, _ => by omega
  | N + 1, X, t, hl, ht, h1 => by
    show val ((X.set t 0).take 8) :: pack N ((X.set t 0).drop 8) = (val (X.take 8) :: pack N (X.drop 8)).set (t / 8) ((val (X.take 8) :: pack N (X.drop 8)).getD (t / 8) 0 - 2 ^ (7 - t % 8))
    have hlt : (X.take 8).length = 8 := by rw [List.length_take]; omega
    by_cases h8 : t < 8
    · have e1 : t / 8 = 0 := by omega
      have e2 : t % 8 = t := by omega
      rw [List.take_set, List.drop_set, if_pos h8, e1, e2, List.set_cons_zero, List.getD_cons_zero]
      rw [val_set (X.take 8) t (by omega) (by rw [← h1]; simp [List.getD, h8]), hlt]
    · have ih := pack_set N (X.drop 8) (t - 8) (by rw [List.length_drop]; omega) (by omega) (by rw [← h1]; simp [List.getD, show 8 + (t - 8) = t from by omega])
      have e1 : t / 8 = (t - 8) / 8 + 1 := by omega
      have e2 : (t - 8) % 8 = t % 8 := by omega
      rw [List.take_set, List.drop_set, if_neg h8, List.set_eq_of_length_le (by omega), ih, e1, List.set_cons_succ, List.getD_cons_succ, e2]
theorem pack_getD : ∀ (N : Nat) (X : List Int) (j : Nat), j < N → (pack N X).getD j 0 = val ((X.drop (8 * j)).take 8)
  | 0, _, _, h => by omega
  | N + 1, X, 0, _ => by simp [pack]
  | N + 1, X, j + 1, h => by
    have ih := pack_getD N (X.drop 8) j (by omega)
    show (val (X.take 8) :: pack N (X.drop 8)).getD (j + 1) 0 = _
    rw [List.getD_cons_succ, ih, List.drop_drop, show 8 + 8 * j = 8 * (j + 1) from by omega]
theorem val_at (l : List Int) (hb : ∀ y ∈ l, y = 0 ∨ y = 1) (r : Nat) (h : r < l.length) : val l / 2 ^ (l.length - 1 - r) % 2 = l.getD r 0 := by
  have h1 := bin_val l hb
  have h2 : ∀ (k : Nat) (x : Int) (t : Nat), t < k → (bin k x).getD t 0 = x / 2 ^ (k - 1 - t) % 2 := by
    intro k
    induction k with
    | zero => intro x t h; omega
    | succ k ih =>
      intro x t h
      match t with
      | 0 => simp [bin]
      | t + 1 =>
        show ((x / 2 ^ k % 2) :: bin k x).getD (t + 1) 0 = _
        rw [List.getD_cons_succ, ih x t (by omega), show k + 1 - 1 - (t + 1) = k - 1 - t from by omega]
  rw [← h2 l.length (val l) r h, h1]
theorem bin_at (k : Nat) (x : Int) (t : Nat) (h : t < k) : (bin k x).getD t 0 = x / 2 ^ (k - 1 - t) % 2 := by
  induction k generalizing t with
  | zero => omega
  | succ k ih =>
    match t with
    | 0 => simp [bin]
    | t + 1 =>
      show ((x / 2 ^ k % 2) :: bin k x).getD (t + 1) 0 = _
      rw [List.getD_cons_succ, ih t (by omega), show k + 1 - 1 - (t + 1) = k - 1 - t from by omega]
theorem clear_fin : ∀ (r : Fin 8) (c : Fin 256), c.val / 2 ^ (7 - r.val) % 2 = 1 → c.val &&& (255 - 128 / 2 ^ r.val) = c.val - 2 ^ (7 - r.val) ∧ 2 ^ (7 - r.val) ≤ c.val := by decide +kernel
/-- A bit that is 1 is cleared. -/
theorem clear_bit (c : Int) (r : Nat) (h0 : 0 ≤ c) (h1 : c < 256) (hr : r < 8) (hb : c / 2 ^ (7 - r) % 2 = 1) : bits .andNot .u8 c (128 / 2 ^ r) = c - 2 ^ (7 - r) := by
  obtain ⟨a, rfl⟩ := Int.eq_ofNat_of_zero_le h0
  have hp : ((2 ^ (7 - r) : Nat) : Int) = (2 : Int) ^ (7 - r) := by simp
  have hp2 : ((128 / 2 ^ r : Nat) : Int) = (128 : Int) / 2 ^ r := by simp
  have hle : 128 / 2 ^ r < 256 := Nat.lt_of_le_of_lt (Nat.div_le_self _ _) (by decide)
  have hb2 : a / 2 ^ (7 - r) % 2 = 1 := by
    rw [← hp] at hb
    omega
  obtain ⟨k1, k2⟩ := clear_fin ⟨r, hr⟩ ⟨a, by omega⟩ hb2
  rw [← hp2, u8_andNot_nat a _ (by omega) hle, ← hp]
  simp only at k1 k2
  rw [k1]
  omega
/-- The bits that are written so far, all others 1. -/
def sofar (B : List Int) (N t : Nat) : List Int := B.take t ++ List.replicate (8 * N - t) 1
theorem sofar_len (B : List Int) (N t : Nat) (h : t ≤ B.length) (hN : B.length ≤ 8 * N) : (sofar B N t).length = 8 * N := by
  unfold sofar; rw [List.length_append, List.length_take, List.length_replicate]; omega
theorem sofar_bit (B : List Int) (hB : ∀ y ∈ B, y = 0 ∨ y = 1) (N t : Nat) : ∀ y ∈ sofar B N t, y = 0 ∨ y = 1 := by
  intro y hy
  unfold sofar at hy
  rcases List.mem_append.1 hy with hy | hy
  · exact hB y (List.take_subset _ _ hy)
  · right; exact List.eq_of_mem_replicate hy
theorem sofar_at (B : List Int) (N t : Nat) (h : t < B.length) (hN : B.length ≤ 8 * N) : (sofar B N t).getD t 0 = 1 := by
  unfold sofar
  have hl : (B.take t).length = t := by rw [List.length_take]; omega
  simp [List.getD, hl, show 0 < 8 * N - t from by omega]
theorem sofar_succ (B : List Int) (N t : Nat) (h : t < B.length) (hN : B.length ≤ 8 * N) : sofar B N (t + 1) = (sofar B N t).set t (B.getD t 0) := by
  unfold sofar
  have hl : (B.take t).length = t := by rw [List.length_take]; omega
  rw [take_snocZ B t _ h rfl, List.set_append_right t _ (by omega), hl, Nat.sub_self]
  obtain ⟨d, hd⟩ : ∃ d, 8 * N - t = d + 1 := ⟨8 * N - t - 1, by omega⟩
  rw [hd, List.replicate_succ, List.set_cons_zero, show 8 * N - (t + 1) = d from by omega, List.append_assoc]
  rfl
theorem sofar_one (B : List Int) (N t : Nat) (h : t < B.length) (hN : B.length ≤ 8 * N) (h1 : B.getD t 0 = 1) : sofar B N (t + 1) = sofar B N t := by
  rw [sofar_succ B N t h hN, h1]
  have hl := sofar_len B N t (by omega) hN
  have h2 := sofar_at B N t h hN
  have h3 : t < (sofar B N t).length := by omega
  apply List.ext_getElem?
  intro j
  by_cases hj : t = j
  · subst hj
    rw [List.getElem?_set_self h3]
    simp [List.getD, List.getElem?_eq_getElem h3] at h2
    rw [List.getElem?_eq_getElem h3, h2]
  · rw [List.getElem?_set_ne hj]
/-- The bytes so far. -/
def bytesF (B : List Int) (N t : Nat) : List Int := pack N (sofar B N t)
theorem bytesF_len (B : List Int) (N t : Nat) : (bytesF B N t).length = N := pack_len _ _
theorem bytesF_byte (B : List Int) (hB : ∀ y ∈ B, y = 0 ∨ y = 1) (N t j : Nat) : 0 ≤ (bytesF B N t).getD j 0 ∧ (bytesF B N t).getD j 0 < 256 := by
  by_cases hj : j < N
  · unfold bytesF
    rw [pack_getD N _ j hj]
    have h := val_bd (((sofar B N t).drop (8 * j)).take 8) (fun y hy => sofar_bit B hB N t y (List.drop_subset _ _ (List.take_subset _ _ hy)))
    have hl : (((sofar B N t).drop (8 * j)).take 8).length ≤ 8 := by rw [List.length_take]; omega
    have hp : (2 : Nat) ^ (((sofar B N t).drop (8 * j)).take 8).length ≤ 2 ^ 8 := Nat.pow_le_pow_right (by decide) hl
    have e : ((2 ^ (((sofar B N t).drop (8 * j)).take 8).length : Nat) : Int) = (2 : Int) ^ (((sofar B N t).drop (8 * j)).take 8).length := by simp
    omega
  · have e : (bytesF B N t).getD j 0 = 0 := by simp [List.getD, List.getElem?_eq_none (show (bytesF B N t).length ≤ j by rw [bytesF_len]; omega)]
    rw [e]; omega
theorem bytesF_one (B : List Int) (N t : Nat) (h : t < B.length) (hN : B.length ≤ 8 * N) (h1 : B.getD t 0 = 1) : bytesF B N (t + 1) = bytesF B N t := by
  unfold bytesF; rw [sofar_one B N t h hN h1]
theorem bytesF_zero (B : List Int) (hB : ∀ y ∈ B, y = 0 ∨ y = 1) (N t : Nat) (h : t < B.length) (hN : B.length ≤ 8 * N) (h0 : B.getD t 0 = 0) :
    bytesF B N (t + 1) = (bytesF B N t).set (t / 8) (bits .andNot .u8 ((bytesF B N t).getD (t / 8) 0) (128 / 2 ^ (t % 8))) := by
  have hl := sofar_len B N t (by omega) hN
  have hby := bytesF_byte B hB N t (t / 8)
  have hg : (bytesF B N t).getD (t / 8) 0 = val (((sofar B N t).drop (8 * (t / 8))).take 8) := by unfold bytesF; exact pack_getD N _ _ (by omega)
  have hl8 : (((sofar B N t).drop (8 * (t / 8))).take 8).length = 8 := by rw [List.length_take, List.length_drop, hl]; omega
  have hv := val_at (((sofar B N t).drop (8 * (t / 8))).take 8) (fun y hy => sofar_bit B hB N t y (List.drop_subset _ _ (List.take_subset _ _ hy))) (t % 8) (by omega)
  rw [hl8, ← hg] at hv
  have hone : (((sofar B N t).drop (8 * (t / 8))).take 8).getD (t % 8) 0 = 1 := by
    rw [← sofar_at B N t h hN]
    simp [List.getD, show t % 8 < 8 from by omega, show 8 * (t / 8) + t % 8 = t from by omega]
  rw [hone] at hv
  rw [clear_bit _ (t % 8) hby.1 hby.2 (by omega) hv]
  unfold bytesF
  rw [sofar_succ B N t h hN, h0]
  exact pack_set N _ t hl (by omega) (sofar_at B N t h hN)
theorem pack_ones : ∀ (N : Nat), pack N (List.replicate (8 * N) 1) = List.replicate N 255
  | 0 => rfl
  | N + 1 => by
    have ih := pack_ones N
    rw [pack, List.take_replicate, List.drop_replicate, show min 8 (8 * (N + 1)) = 8 from by omega, show 8 * (N + 1) - 8 = 8 * N from by omega, ih, List.replicate_succ]
    rfl
theorem bytesF_none (B : List Int) (N : Nat) : bytesF B N 0 = List.replicate N 255 := by
  unfold bytesF sofar
  simp only [List.take_zero, List.nil_append, Nat.sub_zero]
  exact pack_ones N
theorem bytesF_all (s : List Int) : bytesF (bitsL s) (((bitsL s).length + 7) / 8) (bitsL s).length = codeL s := by
  unfold bytesF sofar codeL fill
  rw [List.take_length, List.length_append, List.length_replicate]
  rw [show 8 * (((bitsL s).length + 7) / 8) - (bitsL s).length = (8 - (bitsL s).length % 8) % 8 from by omega]
  rw [show ((bitsL s).length + 7) / 8 = ((bitsL s).length + (8 - (bitsL s).length % 8) % 8) / 8 from by omega]
end Go.Proofs.YtkjfhgoddhigmacDoor
/-
  CONTRACTS of the Go functions bits.Mul64 and bits.Mul at 1 and a number below 4294967296. No claim by itself.
-/
namespace Go.Proofs.YtkjfhgoddhigmacDoor
open Go.RowKit
theorem u64_mask32 (y : Int) (h0 : 0 ≤ y) (h1 : y < 18446744073709551616) : bits .and .u64 y 4294967295 = y % 4294967296 := by
  obtain ⟨a, rfl⟩ := Int.eq_ofNat_of_zero_le h0
  rw [show (4294967295 : Int) = ((4294967295 : Nat) : Int) from rfl, u64_and_nat a _ (by omega) (by decide)]
  have := Nat.and_two_pow_sub_one_eq_mod a 32
  rw [show (2 : Nat) ^ 32 - 1 = 4294967295 from by decide] at this
  rw [this, show (2 : Nat) ^ 32 = 4294967296 from by decide]
  omega
set_option maxHeartbeats 2000000 in
theorem mul64_one (y : Nat) (h : y ≤ 281474976710656) (w : World) :
    Calls Tryd.prog 58 #[.int .u64 1, .int .u64 y] w fun e w' => e = .returned (.tuple #[.int .u64 0, .int .u64 y]) ∧ w = w' := by
  have e1 : bits .and .u64 1 4294967295 = 1 := u64_mask32 1 (by decide) (by decide)
  have e2 := u64_mask32 y (by omega) (by omega)
  have e3 : bits .and .u64 0 4294967295 = 0 := u64_mask32 0 (by decide) (by decide)
  obtain ⟨y0, hy0⟩ : ∃ y0 : Int, (y : Int) % 4294967296 = y0 := ⟨_, rfl⟩
  obtain ⟨y1, hy1⟩ : ∃ y1 : Int, (y : Int) / 4294967296 = y1 := ⟨_, rfl⟩
  rw [hy0] at e2
  have b0 : 0 ≤ y0 := by omega
  have b1 : y0 < 4294967296 := by omega
  have b2 : 0 ≤ y1 := by omega
  have b3 : y1 ≤ 65536 := by omega
  have e4 : y0 / 4294967296 = 0 := by omega
  have e5 : y1 / 4294967296 = 0 := by omega
  clear hy0
  go_enter Tryd.func58, Tryd.ntmps58
  go_wp2
  go_ret2
  exact ⟨rfl, rfl⟩
theorem mul_one_ (y : Nat) (h : y ≤ 281474976710656) (w : World) :
    Calls Tryd.prog 51 #[.int .u64 1, .int .u64 y] w fun e w' => e = .returned (.tuple #[.int .u64 0, .int .u64 y]) ∧ w = w' := by
  go_enter Tryd.func51, Tryd.ntmps51
  go_wp2_with fail
  refine (mul64_one y h _).mono ?_
  rintro _ _ ⟨rfl, rfl⟩
  go_wp2
  go_ret2
  exact ⟨rfl, rfl⟩
end Go.Proofs.YtkjfhgoddhigmacDoor
