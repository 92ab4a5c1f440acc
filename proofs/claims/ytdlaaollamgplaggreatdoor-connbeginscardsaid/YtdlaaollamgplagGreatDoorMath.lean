/-
  PLAIN MATHEMATICS for the proofs of this seat: what package wire's numbers look like as bytes. Nothing of the program stands here. No claim by itself.
-/
import Derived.Laws.BitsAllLaws
import Derived.Laws.Bits128
namespace Go.Proofs.YtdlaaollamgplagGreatDoor
open Go

theorem i64_wrap_nat (a : Nat) (ha : a < 9223372036854775808) : IntKind.i64.wrap (a : Int) = (a : Int) := by
  rw [IntKind.wrap_i64]; omega
theorem i64_and_nat (a b : Nat) (ha : a < 9223372036854775808) (hb : b < 9223372036854775808) : bits .and .i64 (a : Int) (b : Int) = ((a &&& b : Nat) : Int) := by
  have hx : a &&& b < 2 ^ 63 := Nat.and_lt_two_pow _ (by omega)
  show IntKind.i64.wrap ((BitVec.ofInt 64 (a : Int) &&& BitVec.ofInt 64 (b : Int)).toNat : Int) = _
  rw [BitVec.toNat_and, ofInt_u64 a (by omega), ofInt_u64 b (by omega)]
  exact i64_wrap_nat _ (by omega)
theorem i64_or_nat (a b : Nat) (ha : a < 9223372036854775808) (hb : b < 9223372036854775808) : bits .or .i64 (a : Int) (b : Int) = ((a ||| b : Nat) : Int) := by
  have hx : a ||| b < 2 ^ 63 := Nat.or_lt_two_pow (by omega) (by omega)
  show IntKind.i64.wrap ((BitVec.ofInt 64 (a : Int) ||| BitVec.ofInt 64 (b : Int)).toNat : Int) = _
  rw [BitVec.toNat_or, ofInt_u64 a (by omega), ofInt_u64 b (by omega)]
  exact i64_wrap_nat _ (by omega)

/-- The low k bits of a number that is not below 0. -/
theorem i64_and_mask (k : Nat) (hk : k ≤ 32) (x : Int) (h0 : 0 ≤ x) (h1 : x < 9223372036854775808) : bits .and .i64 x (2 ^ k - 1) = x % 2 ^ k := by
  obtain ⟨a, rfl⟩ := Int.eq_ofNat_of_zero_le h0
  have hp : (2 : Nat) ^ k ≤ 2 ^ 32 := Nat.pow_le_pow_right (by decide) hk
  have hp0 : 0 < (2 : Nat) ^ k := Nat.pos_of_ne_zero (by simp)
  have e : ((2 : Int) ^ k - 1) = ((2 ^ k - 1 : Nat) : Int) := by
    rw [Int.natCast_sub hp0]; simp
  rw [e, i64_and_nat a _ (by omega) (by omega), Nat.and_two_pow_sub_one_eq_mod]
  simp
/-- High bits and low bits, put together. -/
theorem i64_or_join (k : Nat) (x y : Int) (h0 : 0 ≤ x) (h1 : x < 9223372036854775808) (hx : x % 2 ^ k = 0) (h2 : 0 ≤ y) (h3 : y < 2 ^ k) (h4 : y < 9223372036854775808) : bits .or .i64 x y = x + y := by
  obtain ⟨a, rfl⟩ := Int.eq_ofNat_of_zero_le h0
  obtain ⟨b, rfl⟩ := Int.eq_ofNat_of_zero_le h2
  have hx' : a % 2 ^ k = 0 := by
    have : ((a % 2 ^ k : Nat) : Int) = 0 := by simpa using hx
    omega
  have hb' : b < 2 ^ k := by
    have : ((b : Nat) : Int) < ((2 ^ k : Nat) : Int) := by simpa using h3
    omega
  rw [i64_or_nat a b (by omega) (by omega), nat_join k a b hx' hb']
  simp

/-- The greatest number of so many bits. -/
def gr (b : Int) : Int := 2 ^ b.toNat - 1
theorem gr_cases (b : Int) (h1 : 1 ≤ b) (h2 : b ≤ 8) : (b = 1 ∧ gr b = 1) ∨ (b = 2 ∧ gr b = 3) ∨ (b = 3 ∧ gr b = 7) ∨ (b = 4 ∧ gr b = 15) ∨ (b = 5 ∧ gr b = 31) ∨ (b = 6 ∧ gr b = 63) ∨ (b = 7 ∧ gr b = 127) ∨ (b = 8 ∧ gr b = 255) := by
  obtain rfl | rfl | rfl | rfl | rfl | rfl | rfl | rfl : b = 1 ∨ b = 2 ∨ b = 3 ∨ b = 4 ∨ b = 5 ∨ b = 6 ∨ b = 7 ∨ b = 8 := by omega
  all_goals simp [gr]
theorem gr_bd (b : Int) (h1 : 1 ≤ b) (h2 : b ≤ 8) : 1 ≤ gr b ∧ gr b ≤ 255 := by
  have := gr_cases b h1 h2; omega
/-- What a number is more than that, seven bits a byte, the low ones first. -/
def rest : Nat → Int → List Int
  | 0, _ => []
  | k + 1, r => if r < 128 then [r] else (r % 128 + 128) :: rest k (r / 128)
/-- A number behind the high bits of a byte. -/
def putL (n b f : Int) : List Int := if n < gr b then [f + n] else (f + gr b) :: rest 5 (n - gr b)
/-- What Put takes. -/
def putOk (n b f : Int) : Prop := 0 ≤ n ∧ n ≤ 2147483647 ∧ 1 ≤ b ∧ b ≤ 8 ∧ 0 ≤ f ∧ f ≤ 255 ∧ f % (gr b + 1) = 0

theorem rest_len : ∀ (k : Nat) (r : Int), (rest k r).length ≤ k
  | 0, _ => by simp [rest]
  | k + 1, r => by
    unfold rest; split
    · simp
    · have := rest_len k (r / 128); simp; omega
theorem putL_len (n b f : Int) : 1 ≤ (putL n b f).length ∧ (putL n b f).length ≤ 6 := by
  unfold putL; split
  · simp
  · have := rest_len 5 (n - gr b); simp; omega
theorem rest_byte : ∀ (k : Nat) (r : Int), 0 ≤ r → ∀ x ∈ rest k r, 0 ≤ x ∧ x < 256
  | 0, _, _, x, hx => by simp [rest] at hx
  | k + 1, r, h0, x, hx => by
    unfold rest at hx; split at hx
    · simp at hx; omega
    · simp at hx
      rcases hx with rfl | hx
      · omega
      · exact rest_byte k (r / 128) (by omega) x hx
/-- 'first & m == 0': the low bits are free. -/
theorem free_and (b f : Int) (h1 : 1 ≤ b) (h2 : b ≤ 8) (h3 : 0 ≤ f) (h4 : f ≤ 255) : bits .and .i64 f (gr b) = f % (gr b + 1) := by
  have e := i64_and_mask b.toNat (by omega) f h3 (by omega)
  unfold gr; rw [e]; congr 1; omega
theorem join_or (b f y : Int) (h1 : 1 ≤ b) (h2 : b ≤ 8) (h3 : 0 ≤ f) (h4 : f ≤ 255) (h5 : f % (gr b + 1) = 0) (h6 : 0 ≤ y) (h7 : y ≤ gr b) : bits .or .i64 f y = f + y := by
  have hb := gr_bd b h1 h2
  have e : gr b + 1 = 2 ^ b.toNat := by unfold gr; omega
  rw [e] at h5
  exact i64_or_join b.toNat f y h3 (by omega) h5 h6 (by omega) (by omega)
theorem join_bd (b f : Int) (h1 : 1 ≤ b) (h2 : b ≤ 8) (h3 : 0 ≤ f) (h4 : f ≤ 255) (h5 : f % (gr b + 1) = 0) : f + gr b ≤ 255 := by
  have := gr_cases b h1 h2
  rcases this with ⟨_, e⟩ | ⟨_, e⟩ | ⟨_, e⟩ | ⟨_, e⟩ | ⟨_, e⟩ | ⟨_, e⟩ | ⟨_, e⟩ | ⟨_, e⟩ <;> rw [e] at h5 ⊢ <;> omega
theorem more_or (r : Int) (h0 : 0 ≤ r) (h1 : r < 9223372036854775808) : bits .or .i64 (bits .and .i64 r 127) 128 = r % 128 + 128 := by
  have e := i64_and_mask 7 (by decide) r h0 h1
  have e2 : bits .and .i64 r 127 = r % 128 := by simpa using e
  rw [e2]
  have hc : bits .or .i64 (r % 128) 128 = bits .or .i64 128 (r % 128) := by simp only [bits, BitVec.or_comm]
  rw [hc, i64_or_join 7 128 (r % 128) (by omega) (by omega) (by decide) (by omega) (by omega) (by omega)]
  omega

def fits (k : Nat) (r : Int) : Prop := 1 ≤ k ∧ r < 128 ^ k
theorem rest_step (k : Nat) (r : Int) (hf : fits k r) (h : 128 ≤ r) : ∃ j, k = j + 1 ∧ fits j (r / 128) ∧ rest k r = (r % 128 + 128) :: rest j (r / 128) := by
  obtain ⟨h1, h2⟩ := hf
  obtain ⟨j, rfl⟩ : ∃ j, k = j + 1 := ⟨k - 1, by omega⟩
  refine ⟨j, rfl, ⟨?_, ?_⟩, ?_⟩
  · rcases Nat.eq_zero_or_pos j with rfl | h
    · simp at h2; omega
    · exact h
  · rw [Int.pow_succ] at h2
    exact Int.ediv_lt_of_lt_mul (by decide) h2
  · show (if r < 128 then [r] else _) = _
    rw [if_neg (by omega)]
theorem rest_last (k : Nat) (r : Int) (hf : fits k r) (h : r < 128) : rest k r = [r] := by
  obtain ⟨h1, h2⟩ := hf
  obtain ⟨j, rfl⟩ : ∃ j, k = j + 1 := ⟨k - 1, by omega⟩
  show (if r < 128 then [r] else _) = _
  rw [if_pos h]
theorem putL_big (n b f : Int) (h : gr b ≤ n) : putL n b f = [f + gr b] ++ rest 5 (n - gr b) := by
  unfold putL; rw [if_neg (by omega)]; rfl
theorem putL_small (n b f : Int) (h : n < gr b) : putL n b f = [f + n] := by
  unfold putL; rw [if_pos h]

theorem rest_mono : ∀ (k : Nat) (r s : Int), r ≤ s → (rest k r).length ≤ (rest k s).length
  | 0, _, _, _ => Nat.le_refl _
  | k + 1, r, s, h => by
    unfold rest
    by_cases h1 : r < 128
    · rw [if_pos h1]; split <;> simp
    · rw [if_neg h1, if_neg (by omega)]
      have := rest_mono k (r / 128) (s / 128) (by omega)
      simpa using this
theorem putL_mono (a b m f : Int) (h : a ≤ b) : (putL a m f).length ≤ (putL b m f).length := by
  by_cases h1 : a < gr m
  · rw [putL_small a m f h1]; exact (putL_len b m f).1
  · rw [putL_big a m f (by omega), putL_big b m f (by omega)]
    have := rest_mono 5 (a - gr m) (b - gr m) (by omega)
    simpa using this
theorem gr_succ (m : Int) (h : 1 ≤ m) : gr m ≤ gr (m + 1) := by
  unfold gr
  have e : (m + 1).toNat = m.toNat + 1 := by omega
  have hp : (0 : Int) < 2 ^ m.toNat := by
    have : (0 : Nat) < 2 ^ m.toNat := Nat.pos_of_ne_zero (by simp)
    exact_mod_cast this
  rw [e, Int.pow_succ]; omega
theorem putL_wide (a m f : Int) (h : 1 ≤ m) : (putL a (m + 1) f).length ≤ (putL a m f).length := by
  have hg := gr_succ m h
  by_cases h1 : a < gr (m + 1)
  · rw [putL_small a _ f h1]; exact (putL_len a m f).1
  · rw [putL_big a _ f (by omega), putL_big a m f (by omega)]
    have := rest_mono 5 (a - gr (m + 1)) (a - gr m) (by omega)
    simpa using this

def p2 (k : Nat) : Int := 2 ^ k
theorem p2_succ (k : Nat) : p2 (k + 1) = p2 k * 2 := by unfold p2; rw [Int.pow_succ]
theorem p2_bd (k : Nat) (h : k ≤ 32) : 1 ≤ p2 k ∧ p2 k ≤ 4294967296 := by
  unfold p2
  have h1 : (2 : Nat) ^ k ≤ 2 ^ 32 := Nat.pow_le_pow_right (by decide) h
  have h2 : (0 : Nat) < 2 ^ k := Nat.pos_of_ne_zero (by simp)
  have e : ((2 ^ k : Nat) : Int) = (2 : Int) ^ k := by simp
  omega
theorem gr_p2 (b : Int) : p2 b.toNat = gr b + 1 := by unfold p2 gr; omega

/-- What Get reads behind a first byte whose low bits are full: the number, how many bytes, the fault. -/
def getR : List Int → Nat → Int → Int × Int × Int
  | [], _, _ => (0, 0, 8)
  | c :: cs, i, n =>
    if 2147483647 < n + c % 128 * 128 ^ i ∨ i = 4 ∧ 128 ≤ c then (0, 0, 10)
    else if 0 < i ∧ c = 0 then (0, 0, 2)
    else if c < 128 then (n + c % 128 * 128 ^ i, i + 2, 0)
    else getR cs (i + 1) (n + c % 128 * 128 ^ i)
/-- The number that bytes begin with: the number, how many bytes, the fault. -/
def getF (Z : List Int) (b : Int) : Int × Int × Int :=
  if b < 1 ∨ 8 < b then (0, 0, 1) else
  match Z with
  | [] => (0, 0, 8)
  | z :: zs => if z % (gr b + 1) < gr b then (z % (gr b + 1), 1, 0) else getR zs 0 (gr b)
theorem drop_at (Z : List Int) (k : Nat) (c : Int) (hk : k < Z.length) (hc : Z.getD k 0 = c) : Z.drop k = c :: Z.drop (k + 1) := by
  rw [List.drop_eq_getElem_cons hk]
  simp [List.getD, List.getElem?_eq_getElem hk] at hc
  rw [hc]
theorem getR_at (Z : List Int) (k : Nat) (r c : Int) (hk : k < Z.length) (hc : Z.getD k 0 = c) :
    getR (Z.drop k) k r = if 2147483647 < r + c % 128 * 128 ^ k ∨ k = 4 ∧ 128 ≤ c then (0, 0, 10)
      else if 0 < k ∧ c = 0 then (0, 0, 2) else if c < 128 then (r + c % 128 * 128 ^ k, (k : Int) + 2, 0) else getR (Z.drop (k + 1)) (k + 1) (r + c % 128 * 128 ^ k) := by
  rw [drop_at Z k c hk hc]; rfl
theorem getR_end (Z : List Int) (k : Nat) (r : Int) (hk : Z.length ≤ k) : getR (Z.drop k) k r = (0, 0, 8) := by
  rw [List.drop_of_length_le hk]; rfl
theorem pow128_bd (k : Nat) (hk : k ≤ 4) : 1 ≤ (128 : Int) ^ k ∧ (128 : Int) ^ k ≤ 268435456 := by
  have h1 : (128 : Nat) ^ k ≤ 128 ^ 4 := Nat.pow_le_pow_right (by decide) hk
  have h2 : (0 : Nat) < 128 ^ k := Nat.pos_of_ne_zero (by simp)
  have e : ((128 ^ k : Nat) : Int) = (128 : Int) ^ k := by simp
  omega
theorem part_bd (c : Int) (k : Nat) (hk : k ≤ 4) : 0 ≤ c % 128 * 128 ^ k ∧ c % 128 * 128 ^ k ≤ 34091302912 := by
  have h := pow128_bd k hk
  have h0 : 0 ≤ c % 128 := by omega
  have h1 : c % 128 ≤ 127 := by omega
  refine ⟨Int.mul_nonneg h0 (by omega), ?_⟩
  calc c % 128 * 128 ^ k ≤ 127 * 128 ^ k := Int.mul_le_mul_of_nonneg_right h1 (by omega)
    _ ≤ 127 * 268435456 := Int.mul_le_mul_of_nonneg_left h.2 (by decide)
    _ = 34091302912 := by decide
theorem low_and (c : Int) (h0 : 0 ≤ c) (h1 : c < 256) : bits .and .u8 c 127 = c % 128 := by
  rw [u8_and c 127 h0 h1 (by decide) (by decide)]
  have e : c.toNat &&& (127 : Int).toNat = c.toNat % 128 := Nat.and_two_pow_sub_one_eq_mod c.toNat 7
  rw [e]; omega
theorem pow7 (k : Nat) : (2 : Int) ^ (7 * k) = 128 ^ k := by
  rw [Int.pow_mul]; rfl
end Go.Proofs.YtdlaaollamgplagGreatDoor
