/-
  CONTRACT of slices.Insert at whatever a table keeps. No claim by itself.
-/
import Derived.Laws.BitsAllLaws
import Derived.Laws.Bits128
import Derived.Test.YtkjfhgoddhigmacGreatDoorM04
namespace Go.Proofs.YtkjfhgoddhigmacGreatDoor
open Go.RowKit
theorem off_grown {w w' : World} {r : Option Nat} (h : w.grownBy w' r) : Off (fun k => r = some k) w w' := ⟨h.os, h.tape, h.output, h.size, fun k hk hn => h.block k hk (fun e => hn e.symm)⟩
/-- slices.Insert of one field at the front of whatever a table keeps. -/
theorem ins_any (tb : Nat) (s : Value) (B : List (ByteArray × ByteArray)) (n v : ByteArray) (vb : Nat) (w : World) (hl : LRow w tb s B) (hv : w.heap[vb]? = some (.cells #[.string n, .string v] 60 (0, 0))) (hvs : s.ownBlock ≠ some vb) (hB : B.length ≤ 1048576) :
    Calls Tryz.prog 61 #[s, .int .i64 0, .slice (some ⟨vb, 0, none⟩) 1 1] w fun e w' => Off (fun k => s.ownBlock = some k) w w' ∧ ∃ g cap cur, e = .returned (.slice (some ⟨g, 0, none⟩) (B.length + 1) cap) ∧ (s.ownBlock = some g ∨ w.heap.size ≤ g) ∧ w'.heap[g]? = some (.cells cur 60 (0, 0)) ∧ B.length + 1 ≤ cap ∧ cap ≤ maxLen ∧ cur.size = cap * 2 ∧ cur.toList.take ((B.length + 1) * 2) = fcells ((n, v) :: B) := by
  rcases hl with ⟨rfl, rfl⟩ | ⟨g, cap, cur, rfl, a1, a2, hg, q1, q2, q3, q4⟩
  · refine (ins_nil n v vb w hv).mono ?_
    rintro e w' ⟨s', rfl, ho, hgr, hn, hb⟩
    refine ⟨off_grown hgr, ?_⟩
    obtain ⟨_, ⟨h2, _⟩ | ⟨g, cap, cur, rfl, _, k1, k2, k3, k4, k5⟩⟩ := ho
    · exact absurd h2 hn
    · simp [Value.ownBlock] at hb
      exact ⟨g, cap, cur, rfl, Or.inr (by omega), k1, k2, k3, k4, k5⟩
  · rcases Nat.eq_zero_or_pos B.length with h0 | h0
    · obtain rfl : B = [] := List.eq_nil_of_length_eq_zero h0
      refine (ins_end n v vb g cap w hv q2 ⟨rfl, Or.inr ⟨g, cap, cur, rfl, Nat.zero_le _, hg, q1, q2, q3, q4⟩⟩).mono ?_
      rintro e w' ⟨s', rfl, ho, hgr, hn, hb⟩
      refine ⟨off_grown hgr, ?_⟩
      obtain ⟨_, ⟨h2, _⟩ | ⟨g', cap', cur', rfl, _, k1, k2, k3, k4, k5⟩⟩ := ho
      · exact absurd h2 hn
      · refine ⟨g', cap', cur', rfl, ?_, k1, k2, k3, k4, k5⟩
        rcases hb with hb | hb
        · left; exact hb.symm
        · right; simp [Value.ownBlock] at hb; omega
    · by_cases hr : B.length + 1 ≤ cap
      · refine (ins_room n v vb g cap B cur w hv q2 (fun e => hvs (by rw [e]; rfl)) hg q3 q4 h0 hr).mono ?_
        rintro e w' ⟨rfl, hoff, cur', k1, k2, k3⟩
        exact ⟨hoff.mono (fun k hk => by rw [hk]; rfl), g, cap, cur', rfl, Or.inl rfl, k1, hr, q2, k2, k3⟩
      · refine (ins_grow n v vb g cap B cur w hv hg q4 h0 q1 (by omega) hB).mono ?_
        rintro e w' ⟨hb, G, rfl, k0, k1, cur', k2, k3, k4⟩
        exact ⟨Off.of_below hb, w.heap.size, G, cur', rfl, Or.inr (Nat.le_refl _), k2, k0, k1, k3, k4⟩
theorem keepN_zero (A : List (ByteArray × ByteArray)) : ∀ n, n ≤ A.length → keepN A 0 n = 0
  | 0, _ => rfl
  | n + 1, h => by
    have h1 := weight_len (A.take (n + 1))
    rw [List.length_take] at h1
    unfold keepN
    rw [if_pos (by omega)]
    exact keepN_zero A n (by omega)
theorem LRow.below {w w' : World} {tb : Nat} {s : Value} {B : List (ByteArray × ByteArray)} (h : LRow w tb s B) (hb : Below w.heap.size w w') : LRow w' tb s B := by
  rcases h with h | ⟨g, cap, cur, rfl, a1, a2, hg, r⟩
  · exact Or.inl h
  · exact Or.inr ⟨g, cap, cur, rfl, a1, a2, (hb.block g (lt_of_heap hg)).trans hg, r⟩
theorem LRow.lt {w : World} {tb : Nat} {s : Value} {B : List (ByteArray × ByteArray)} (h : LRow w tb s B) : ∀ k, s.ownBlock = some k → k < w.heap.size ∧ k ≠ tb ∧ 1 ≠ k := by
  intro k hk
  rcases h with ⟨rfl, _⟩ | ⟨g, cap, cur, rfl, a1, a2, hg, r⟩
  · simp [Value.ownBlock] at hk
  · simp [Value.ownBlock] at hk
    subst hk
    exact ⟨lt_of_heap hg, a2, a1⟩
end Go.Proofs.YtkjfhgoddhigmacGreatDoor
/-
  PLAIN MATHEMATICS for the proofs of this seat: what package wire's numbers look like as bytes. Nothing of the program stands here. No claim by itself.
-/
namespace Go.Proofs.YtkjfhgoddhigmacGreatDoor
open Go

theorem i64_wrap_nat (a : Nat) (ha : a < 9223372036854775808) : IntKind.i64.wrap (a : Int) = (a : Int) := by
  rw [IntKind.wrap_i64]; omega
theorem i64_and_nat (a b : Nat) (ha : a < 9223372036854775808) (hb : b < 9223372036854775808) : bits .and .i64 (a : Int) (b : Int) = ((a &&& b : Nat) : Int) := by
  have hx : a &&& b < 2 ^ 63 := Nat.and_lt_two_pow _ (by omega)
  show IntKind.i64.wrap ((BitVec.ofInt 64 (a : Int) &&& BitVec.ofInt 64 (b : Int)).toNat : Int) = _
  rw [BitVec.toNat_and, ofInt_u64 a (by omega), ofInt_u64 b (by omega)]
  exact i64_wrap_nat _ (by omega)
theorem i64_or_nat (a b : Nat) (ha : a < 9223372036854775808) (hb : b < 9223372036854775808) : bits .or .i64 (a : Int) (b : Int) = ((a ||| b : Nat) : Int) := by
  have hx : a ||| b < 2 ^ 63 := Nat.or_lt_two_pow (by omega) (by omega)
  show IntKind.i64.wrap ((BitVec.ofInt 64 (a : Int) ||| BitVec.ofInt 64 (b : Int)).toNat : Int) = _
  rw [BitVec.toNat_or, ofInt_u64 a (by omega), ofInt_u64 b (by omega)]
  exact i64_wrap_nat _ (by omega)

/-- The low k bits of a number that is not below 0. -/
theorem i64_and_mask (k : Nat) (hk : k ≤ 32) (x : Int) (h0 : 0 ≤ x) (h1 : x < 9223372036854775808) : bits .and .i64 x (2 ^ k - 1) = x % 2 ^ k := by
  obtain ⟨a, rfl⟩ := Int.eq_ofNat_of_zero_le h0
  have hp : (2 : Nat) ^ k ≤ 2 ^ 32 := Nat.pow_le_pow_right (by decide) hk
  have hp0 : 0 < (2 : Nat) ^ k := Nat.pos_of_ne_zero (by simp)
  have e : ((2 : Int) ^ k - 1) = ((2 ^ k - 1 : Nat) : Int) := by
    rw [Int.natCast_sub hp0]; simp
  rw [e, i64_and_nat a _ (by omega) (by omega), Nat.and_two_pow_sub_one_eq_mod]
  simp
/-- High bits and low bits, put together. -/
theorem i64_or_join (k : Nat) (x y : Int) (h0 : 0 ≤ x) (h1 : x < 9223372036854775808) (hx : x % 2 ^ k = 0) (h2 : 0 ≤ y) (h3 : y < 2 ^ k) (h4 : y < 9223372036854775808) : bits .or .i64 x y = x + y := by
  obtain ⟨a, rfl⟩ := Int.eq_ofNat_of_zero_le h0
  obtain ⟨b, rfl⟩ := Int.eq_ofNat_of_zero_le h2
  have hx' : a % 2 ^ k = 0 := by
    have : ((a % 2 ^ k : Nat) : Int) = 0 := by simpa using hx
    omega
  have hb' : b < 2 ^ k := by
    have : ((b : Nat) : Int) < ((2 ^ k : Nat) : Int) := by simpa using h3
    omega
  rw [i64_or_nat a b (by omega) (by omega), nat_join k a b hx' hb']
  simp

/-- The greatest number of so many bits. -/
def gr (b : Int) : Int := 2 ^ b.toNat - 1
theorem gr_cases (b : Int) (h1 : 1 ≤ b) (h2 : b ≤ 8) : (b = 1 ∧ gr b = 1) ∨ (b = 2 ∧ gr b = 3) ∨ (b = 3 ∧ gr b = 7) ∨ (b = 4 ∧ gr b = 15) ∨ (b = 5 ∧ gr b = 31) ∨ (b = 6 ∧ gr b = 63) ∨ (b = 7 ∧ gr b = 127) ∨ (b = 8 ∧ gr b = 255) := by
  obtain rfl | rfl | rfl | rfl | rfl | rfl | rfl | rfl : b = 1 ∨ b = 2 ∨ b = 3 ∨ b = 4 ∨ b = 5 ∨ b = 6 ∨ b = 7 ∨ b = 8 := by omega
  all_goals simp [gr]
theorem gr_bd (b : Int) (h1 : 1 ≤ b) (h2 : b ≤ 8) : 1 ≤ gr b ∧ gr b ≤ 255 := by
  have := gr_cases b h1 h2; omega
/-- What a number is more than that, seven bits a byte, the low ones first. -/
def rest : Nat → Int → List Int
  | 0, _ => []
  | k + 1, r => if r < 128 then [r] else (r % 128 + 128) :: rest k (r / 128)
/-- A number behind the high bits of a byte. -/
def putL (n b f : Int) : List Int := if n < gr b then [f + n] else (f + gr b) :: rest 5 (n - gr b)
/-- What Put takes. -/
def putOk (n b f : Int) : Prop := 0 ≤ n ∧ n ≤ 2147483647 ∧ 1 ≤ b ∧ b ≤ 8 ∧ 0 ≤ f ∧ f ≤ 255 ∧ f % (gr b + 1) = 0

theorem rest_len : ∀ (k : Nat) (r : Int), (rest k r).length ≤ k
  | 0, _ => by simp [rest]
  | k + 1, r => by
    unfold rest; split
    · simp
    · have := rest_len k (r / 128); simp; omega
theorem putL_len (n b f : Int) : 1 ≤ (putL n b f).length ∧ (putL n b f).length ≤ 6 := by
  unfold putL; split
  · simp
  · have := rest_len 5 (n - gr b); simp; omega
theorem rest_byte : ∀ (k : Nat) (r : Int), 0 ≤ r → ∀ x ∈ rest k r, 0 ≤ x ∧ x < 256
  | 0, _, _, x, hx => by simp [rest] at hx
  | k + 1, r, h0, x, hx => by
    unfold rest at hx; split at hx
    · simp at hx; omega
    · simp at hx
      rcases hx with rfl | hx
      · omega
      · exact rest_byte k (r / 128) (by omega) x hx
/-- 'first & m == 0': the low bits are free. -/
theorem free_and (b f : Int) (h1 : 1 ≤ b) (h2 : b ≤ 8) (h3 : 0 ≤ f) (h4 : f ≤ 255) : bits .and .i64 f (gr b) = f % (gr b + 1) := by
  have e := i64_and_mask b.toNat (by omega) f h3 (by omega)
  unfold gr; rw [e]; congr 1; omega
theorem join_or (b f y : Int) (h1 : 1 ≤ b) (h2 : b ≤ 8) (h3 : 0 ≤ f) (h4 : f ≤ 255) (h5 : f % (gr b + 1) = 0) (h6 : 0 ≤ y) (h7 : y ≤ gr b) : bits .or .i64 f y = f + y := by
  have hb := gr_bd b h1 h2
  have e : gr b + 1 = 2 ^ b.toNat := by unfold gr; omega
  rw [e] at h5
  exact i64_or_join b.toNat f y h3 (by omega) h5 h6 (by omega) (by omega)
theorem join_bd (b f : Int) (h1 : 1 ≤ b) (h2 : b ≤ 8) (h3 : 0 ≤ f) (h4 : f ≤ 255) (h5 : f % (gr b + 1) = 0) : f + gr b ≤ 255 := by
  have := gr_cases b h1 h2
  rcases this with ⟨_, e⟩ | ⟨_, e⟩ | ⟨_, e⟩ | ⟨_, e⟩ | ⟨_, e⟩ | ⟨_, e⟩ | ⟨_, e⟩ | ⟨_, e⟩ <;> rw [e] at h5 ⊢ <;> omega
theorem more_or (r : Int) (h0 : 0 ≤ r) (h1 : r < 9223372036854775808) : bits .or .i64 (bits .and .i64 r 127) 128 = r % 128 + 128 := by
  have e := i64_and_mask 7 (by decide) r h0 h1
  have e2 : bits .and .i64 r 127 = r % 128 := by simpa using e
  rw [e2]
  have hc : bits .or .i64 (r % 128) 128 = bits .or .i64 128 (r % 128) := by simp only [bits, BitVec.or_comm]
  rw [hc, i64_or_join 7 128 (r % 128) (by omega) (by omega) (by decide) (by omega) (by omega) (by omega)]
  omega

def fits (k : Nat) (r : Int) : Prop := 1 ≤ k ∧ r < 128 ^ k
theorem rest_step (k : Nat) (r : Int) (hf : fits k r) (h : 128 ≤ r) : ∃ j, k = j + 1 ∧ fits j (r / 128) ∧ rest k r = (r % 128 + 128) :: rest j (r / 128) := by
  obtain ⟨h1, h2⟩ := hf
  obtain ⟨j, rfl⟩ : ∃ j, k = j + 1 := ⟨k - 1, by omega⟩
  refine ⟨j, rfl, ⟨?_, ?_⟩, ?_⟩
  · rcases Nat.eq_zero_or_pos j with rfl | h
    · simp at h2; omega
    · exact h
  · rw [Int.pow_succ] at h2
    exact Int.ediv_lt_of_lt_mul (by decide) h2
  · show (if r < 128 then [r] else _) = _
    rw [if_neg (by omega)]
theorem rest_last (k : Nat) (r : Int) (hf : fits k r) (h : r < 128) : rest k r = [r] := by
  obtain ⟨h1, h2⟩ := hf
  obtain ⟨j, rfl⟩ : ∃ j, k = j + 1 := ⟨k - 1, by omega⟩
  show (if r < 128 then [r] else _) = _
  rw [if_pos h]
theorem putL_big (n b f : Int) (h : gr b ≤ n) : putL n b f = [f + gr b] ++ rest 5 (n - gr b) := by
  unfold putL; rw [if_neg (by omega)]; rfl
theorem putL_small (n b f : Int) (h : n < gr b) : putL n b f = [f + n] := by
  unfold putL; rw [if_pos h]

theorem rest_mono : ∀ (k : Nat) (r s : Int), r ≤ s → (rest k r).length ≤ (rest k s).length
  | 0, _, _, _ => Nat.le_refl _
  | k + 1, r, s, h => by
    unfold rest
    by_cases h1 : r < 128
    · rw [if_pos h1]; split <;> simp
    · rw [if_neg h1, if_neg (by omega)]
      have := rest_mono k (r / 128) (s / 128) (by omega)
      simpa using this
theorem putL_mono (a b m f : Int) (h : a ≤ b) : (putL a m f).length ≤ (putL b m f).length := by
  by_cases h1 : a < gr m
  · rw [putL_small a m f h1]; exact (putL_len b m f).1
  · rw [putL_big a m f (by omega), putL_big b m f (by omega)]
    have := rest_mono 5 (a - gr m) (b - gr m) (by omega)
    simpa using this
theorem gr_succ (m : Int) (h : 1 ≤ m) : gr m ≤ gr (m + 1) := by
  unfold gr
  have e : (m + 1).toNat = m.toNat + 1 := by omega
  have hp : (0 : Int) < 2 ^ m.toNat := by
    have : (0 : Nat) < 2 ^ m.toNat := Nat.pos_of_ne_zero (by simp)
    exact_mod_cast this
  rw [e, Int.pow_succ]; omega
theorem putL_wide (a m f : Int) (h : 1 ≤ m) : (putL a (m + 1) f).length ≤ (putL a m f).length := by
  have hg := gr_succ m h
  by_cases h1 : a < gr (m + 1)
  · rw [putL_small a _ f h1]; exact (putL_len a m f).1
  · rw [putL_big a _ f (by omega), putL_big a m f (by omega)]
    have := rest_mono 5 (a - gr (m + 1)) (a - gr m) (by omega)
    simpa using this

def p2 (k : Nat) : Int := 2 ^ k
theorem p2_succ (k : Nat) : p2 (k + 1) = p2 k * 2 := by unfold p2; rw [Int.pow_succ]
theorem p2_bd (k : Nat) (h : k ≤ 32) : 1 ≤ p2 k ∧ p2 k ≤ 4294967296 := by
  unfold p2
  have h1 : (2 : Nat) ^ k ≤ 2 ^ 32 := Nat.pow_le_pow_right (by decide) h
  have h2 : (0 : Nat) < 2 ^ k := Nat.pos_of_ne_zero (by simp)
  have e : ((2 ^ k : Nat) : Int) = (2 : Int) ^ k := by simp
  omega
theorem gr_p2 (b : Int) : p2 b.toNat = gr b + 1 := by unfold p2 gr; omega

/-- What Get reads behind a first byte whose low bits are full: the number, how many bytes, the fault. -/
def getR : List Int → Nat → Int → Int × Int × Int
  | [], _, _ => (0, 0, 8)
  | c :: cs, i, n =>
    if 2147483647 < n + c % 128 * 128 ^ i ∨ i = 4 ∧ 128 ≤ c then (0, 0, 10)
    else if 0 < i ∧ c = 0 then (0, 0, 2)
    else if c < 128 then (n + c % 128 * 128 ^ i, i + 2, 0)
    else getR cs (i + 1) (n + c % 128 * 128 ^ i)
/-- The number that bytes begin with: the number, how many bytes, the fault. -/
def getF (Z : List Int) (b : Int) : Int × Int × Int :=
  if b < 1 ∨ 8 < b then (0, 0, 1) else
  match Z with
  | [] => (0, 0, 8)
  | z :: zs => if z % (gr b + 1) < gr b then (z % (gr b + 1), 1, 0) else getR zs 0 (gr b)
theorem drop_at (Z : List Int) (k : Nat) (c : Int) (hk : k < Z.length) (hc : Z.getD k 0 = c) : Z.drop k = c :: Z.drop (k + 1) := by
  rw [List.drop_eq_getElem_cons hk]
  simp [List.getD, List.getElem?_eq_getElem hk] at hc
  rw [hc]
theorem getR_at (Z : List Int) (k : Nat) (r c : Int) (hk : k < Z.length) (hc : Z.getD k 0 = c) :
    getR (Z.drop k) k r = if 2147483647 < r + c % 128 * 128 ^ k ∨ k = 4 ∧ 128 ≤ c then (0, 0, 10)
      else if 0 < k ∧ c = 0 then (0, 0, 2) else if c < 128 then (r + c % 128 * 128 ^ k, (k : Int) + 2, 0) else getR (Z.drop (k + 1)) (k + 1) (r + c % 128 * 128 ^ k) := by
  rw [drop_at Z k c hk hc]; rfl
theorem getR_end (Z : List Int) (k : Nat) (r : Int) (hk : Z.length ≤ k) : getR (Z.drop k) k r = (0, 0, 8) := by
  rw [List.drop_of_length_le hk]; rfl
theorem pow128_bd (k : Nat) (hk : k ≤ 4) : 1 ≤ (128 : Int) ^ k ∧ (128 : Int) ^ k ≤ 268435456 := by
  have h1 : (128 : Nat) ^ k ≤ 128 ^ 4 := Nat.pow_le_pow_right (by decide) hk
  have h2 : (0 : Nat) < 128 ^ k := Nat.pos_of_ne_zero (by simp)
  have e : ((128 ^ k : Nat) : Int) = (128 : Int) ^ k := by simp
  omega
theorem part_bd (c : Int) (k : Nat) (hk : k ≤ 4) : 0 ≤ c % 128 * 128 ^ k ∧ c % 128 * 128 ^ k ≤ 34091302912 := by
  have h := pow128_bd k hk
  have h0 : 0 ≤ c % 128 := by omega
  have h1 : c % 128 ≤ 127 := by omega
  refine ⟨Int.mul_nonneg h0 (by omega), ?_⟩
  calc c % 128 * 128 ^ k ≤ 127 * 128 ^ k := Int.mul_le_mul_of_nonneg_right h1 (by omega)
    _ ≤ 127 * 268435456 := Int.mul_le_mul_of_nonneg_left h.2 (by decide)
    _ = 34091302912 := by decide
theorem low_and (c : Int) (h0 : 0 ≤ c) (h1 : c < 256) : bits .and .u8 c 127 = c % 128 := by
  rw [u8_and c 127 h0 h1 (by decide) (by decide)]
  have e : c.toNat &&& (127 : Int).toNat = c.toNat % 128 := Nat.and_two_pow_sub_one_eq_mod c.toNat 7
  rw [e]; omega
theorem pow7 (k : Nat) : (2 : Int) ^ (7 * k) = 128 ^ k := by
  rw [Int.pow_mul]; rfl
end Go.Proofs.YtkjfhgoddhigmacGreatDoor
/-
  PLAIN MATHEMATICS: texts as bits. Nothing of the program stands here. No claim by itself.
-/
namespace Go.Proofs.YtkjfhgoddhigmacGreatDoor
open Go
/-- The bytes that are often, in their order. -/
def oft : List Int := [101, 116, 97, 111, 105, 110, 115, 104, 114, 100, 108, 117, 99, 109, 102, 119, 121, 112, 118, 98, 103, 107, 120, 106, 113, 122, 45, 47, 46, 58, 48, 32]
def oidxFrom : List Int → Int → Int → Int
  | [], _, _ => -1
  | o :: os, i, c => if o = c then i else oidxFrom os (i + 1) c
/-- The number of a byte; -1: it has none. -/
def oidx (c : Int) : Int := oidxFrom oft 0 c
theorem oidxFrom_bd : ∀ (l : List Int) (i c : Int), 0 ≤ i → -1 ≤ oidxFrom l i c ∧ oidxFrom l i c < i + l.length
  | [], i, c, h => by simp [oidxFrom]; omega
  | o :: os, i, c, h => by
    have ih := oidxFrom_bd os (i + 1) c (by omega)
    unfold oidxFrom
    split
    · simp; omega
    · simp; omega
theorem oidx_bd (c : Int) : -1 ≤ oidx c ∧ oidx c < 32 := by
  have h := oidxFrom_bd oft 0 c (by decide)
  have e : (oft.length : Int) = 32 := by decide
  unfold oidx; omega
/-- So many bits of a number, the high ones first. -/
def bin : Nat → Int → List Int
  | 0, _ => []
  | k + 1, x => (x / 2 ^ k % 2) :: bin k x
theorem bin_len : ∀ (k : Nat) (x : Int), (bin k x).length = k
  | 0, _ => rfl
  | k + 1, x => by simp [bin, bin_len k x]
theorem bin_bit : ∀ (k : Nat) (x : Int), ∀ y ∈ bin k x, y = 0 ∨ y = 1
  | 0, _, y, h => by simp [bin] at h
  | k + 1, x, y, h => by
    simp only [bin, List.mem_cons] at h
    rcases h with rfl | h
    · omega
    · exact bin_bit k x y h
/-- A byte as bits. -/
def code1 (c : Int) : List Int := if 0 ≤ oidx c then 0 :: bin 5 (oidx c) else 1 :: bin 8 c
theorem code1_len (c : Int) : (code1 c).length = if 0 ≤ oidx c then 6 else 9 := by
  unfold code1; split <;> simp [bin_len]
theorem code1_bit (c : Int) : ∀ y ∈ code1 c, y = 0 ∨ y = 1 := by
  intro y h
  unfold code1 at h
  split at h
  · simp only [List.mem_cons] at h
    rcases h with rfl | h
    · left; rfl
    · exact bin_bit 5 _ y h
  · simp only [List.mem_cons] at h
    rcases h with rfl | h
    · right; rfl
    · exact bin_bit 8 _ y h
/-- A text as bits. -/
def bitsL (s : List Int) : List Int := s.flatMap code1
theorem bitsL_append (s t : List Int) : bitsL (s ++ t) = bitsL s ++ bitsL t := by simp [bitsL]
theorem bitsL_cons (c : Int) (s : List Int) : bitsL (c :: s) = code1 c ++ bitsL s := rfl
theorem bitsL_len : ∀ (s : List Int), 6 * s.length ≤ (bitsL s).length ∧ (bitsL s).length ≤ 9 * s.length
  | [] => by simp [bitsL]
  | c :: s => by
    have ih := bitsL_len s
    have h := code1_len c
    rw [bitsL_cons, List.length_append, List.length_cons]
    split at h <;> omega
theorem bitsL_bit (s : List Int) : ∀ y ∈ bitsL s, y = 0 ∨ y = 1 := by
  intro y h
  obtain ⟨c, _, hc⟩ := List.mem_flatMap.1 h
  exact code1_bit c y hc
theorem take_snocZ (Z : List Int) (k : Nat) (c : Int) (hk : k < Z.length) (hc : Z.getD k 0 = c) : Z.take (k + 1) = Z.take k ++ [c] := by
  rw [List.take_succ_eq_append_getElem hk]
  simp [List.getD, List.getElem?_eq_getElem hk] at hc
  rw [hc]
theorem bitsL_take (Z : List Int) (k : Nat) (c : Int) (hk : k < Z.length) (hc : Z.getD k 0 = c) : bitsL (Z.take (k + 1)) = bitsL (Z.take k) ++ code1 c := by
  rw [take_snocZ Z k c hk hc, bitsL_append]
  simp [bitsL]
/-- A number of bits, the high ones first. -/
def val (l : List Int) : Int := l.foldl (fun n y => n * 2 + y) 0
/-- Filled up with ones. -/
def fill (l : List Int) : List Int := l ++ List.replicate ((8 - l.length % 8) % 8) 1
/-- Whole bytes of bits. -/
def pack : Nat → List Int → List Int
  | 0, _ => []
  | k + 1, l => val (l.take 8) :: pack k (l.drop 8)
/-- A text as bytes. -/
def codeL (s : List Int) : List Int := pack ((fill (bitsL s)).length / 8) (fill (bitsL s))
/-- Bytes as bits. -/
def unpack (b : List Int) : List Int := b.flatMap (bin 8)
/-- The text of bits; none: there is none. -/
def decL : Nat → List Int → Option (List Int)
  | 0, _ => none
  | k + 1, l =>
    match l with
    | [] => some []
    | y :: r =>
      if y = 0 ∧ 5 ≤ r.length then
        match decL k (r.drop 5) with
        | some t => some (oft.getD (val (r.take 5)).toNat 0 :: t)
        | none => none
      else if y = 1 ∧ 8 ≤ r.length then
        if 0 ≤ oidx (val (r.take 8)) then none else
        match decL k (r.drop 8) with
        | some t => some (val (r.take 8) :: t)
        | none => none
      else if 7 < (y :: r).length ∨ (0 : Int) ∈ y :: r then none else some []
/-- The text of bytes; none: there is none. -/
def decF (b : List Int) : Option (List Int) := decL ((unpack b).length + 1) (unpack b)

theorem val_snoc (l : List Int) (y : Int) : val (l ++ [y]) = val l * 2 + y := by simp [val]
theorem val_take (l : List Int) (j : Nat) (y : Int) (hj : j < l.length) (hy : l.getD j 0 = y) : val (l.take (j + 1)) = val (l.take j) * 2 + y := by
  rw [take_snocZ l j y hj hy, val_snoc]
theorem val_bd : ∀ (l : List Int), (∀ y ∈ l, y = 0 ∨ y = 1) → 0 ≤ val l ∧ val l < 2 ^ l.length := by
  intro l
  generalize hn : l.length = n
  induction n generalizing l with
  | zero => intro _; rw [List.eq_nil_of_length_eq_zero hn]; simp [val]
  | succ n ih =>
    intro hb
    have hd : l = l.dropLast ++ [l.getLast (by intro h; simp [h] at hn)] := (List.dropLast_concat_getLast _).symm
    have h1 := ih l.dropLast (by simp [hn]) (fun y hy => hb y (List.dropLast_subset l hy))
    have h2 := hb (l.getLast (by intro h; simp [h] at hn)) (List.getLast_mem _)
    rw [hd, val_snoc, Int.pow_succ]
    omega
theorem pack_snoc : ∀ (k : Nat) (l : List Int), pack (k + 1) l = pack k l ++ [val ((l.drop (8 * k)).take 8)]
  | 0, l => by simp [pack]
  | k + 1, l => by
    have ih := pack_snoc k (l.drop 8)
    show val (l.take 8) :: pack (k + 1) (l.drop 8) = (val (l.take 8) :: pack k (l.drop 8)) ++ _
    rw [ih, List.drop_drop, show 8 + 8 * k = 8 * (k + 1) from by omega]
    rfl
theorem pack_len : ∀ (k : Nat) (l : List Int), (pack k l).length = k
  | 0, _ => rfl
  | k + 1, l => by simp [pack, pack_len k]
theorem fill_len (l : List Int) : (fill l).length = l.length + (8 - l.length % 8) % 8 := by simp [fill]
theorem fill_bit (l : List Int) (h : ∀ y ∈ l, y = 0 ∨ y = 1) : ∀ y ∈ fill l, y = 0 ∨ y = 1 := by
  intro y hy
  unfold fill at hy
  rcases List.mem_append.1 hy with hy | hy
  · exact h y hy
  · right; exact List.eq_of_mem_replicate hy
theorem bit_getD (l : List Int) (h : ∀ y ∈ l, y = 0 ∨ y = 1) (t : Nat) : l.getD t 0 = 0 ∨ l.getD t 0 = 1 := by
  by_cases ht : t < l.length
  · have hm : l.getD t 0 ∈ l := by rw [List.getD, List.getElem?_eq_getElem ht]; exact List.getElem_mem _
    exact h _ hm
  · left; simp [List.getD, List.getElem?_eq_none (Nat.le_of_not_lt ht)]

theorem decL_fuel : ∀ (k : Nat) (l : List Int), l.length < k → decL k l = decL (l.length + 1) l := by
  intro k
  induction k using Nat.strongRecOn with
  | ind k ih =>
    intro l hl
    match k, hl with
    | 0, hl => omega
    | k + 1, hl =>
      match l, hl with
      | [], _ => rfl
      | y :: r, hl =>
        have h5 : 5 ≤ r.length → decL k (r.drop 5) = decL (r.length + 1) (r.drop 5) := by
          intro h
          rw [ih k (by omega) (r.drop 5) (by simp at hl ⊢; omega)]
          rcases Nat.lt_or_ge (r.length + 1) (k + 1) with h1 | h1
          · rw [ih (r.length + 1) h1 (r.drop 5) (by simp; omega)]
          · have : r.length + 1 = k := by simp at hl; omega
            omega
        have h8 : 8 ≤ r.length → decL k (r.drop 8) = decL (r.length + 1) (r.drop 8) := by
          intro h
          rw [ih k (by omega) (r.drop 8) (by simp at hl ⊢; omega)]
          rcases Nat.lt_or_ge (r.length + 1) (k + 1) with h1 | h1
          · rw [ih (r.length + 1) h1 (r.drop 8) (by simp; omega)]
          · have : r.length + 1 = k := by simp at hl; omega
            omega
        show decL (k + 1) (y :: r) = decL ((r.length + 1) + 1) (y :: r)
        unfold decL
        by_cases c1 : y = 0 ∧ 5 ≤ r.length
        · simp only [if_pos c1, h5 c1.2]
        · simp only [if_neg c1]
          by_cases c2 : y = 1 ∧ 8 ≤ r.length
          · simp only [if_pos c2, h8 c2.2]
          · simp only [if_neg c2]
/-- The text of bits; none: there is none. -/
def dec (l : List Int) : Option (List Int) := decL (l.length + 1) l
theorem dec_nil : dec [] = some [] := rfl
theorem dec_often (y : Int) (r : List Int) (h : y = 0 ∧ 5 ≤ r.length) : dec (y :: r) = (dec (r.drop 5)).map (oft.getD (val (r.take 5)).toNat 0 :: ·) := by
  unfold dec
  show decL ((r.length + 1) + 1) (y :: r) = _
  rw [decL]
  simp only [if_pos h]
  rw [decL_fuel (r.length + 1) (r.drop 5) (by simp; omega)]
  cases decL ((r.drop 5).length + 1) (r.drop 5) <;> rfl
theorem dec_rare (y : Int) (r : List Int) (h : y = 1 ∧ 8 ≤ r.length) (ho : ¬ 0 ≤ oidx (val (r.take 8))) : dec (y :: r) = (dec (r.drop 8)).map (val (r.take 8) :: ·) := by
  unfold dec
  show decL ((r.length + 1) + 1) (y :: r) = _
  rw [decL]
  simp only [if_neg (show ¬ (y = 0 ∧ 5 ≤ r.length) by omega), if_pos h, if_neg ho]
  rw [decL_fuel (r.length + 1) (r.drop 8) (by simp; omega)]
  cases decL ((r.drop 8).length + 1) (r.drop 8) <;> rfl
theorem dec_wrong (y : Int) (r : List Int) (h : y = 1 ∧ 8 ≤ r.length) (ho : 0 ≤ oidx (val (r.take 8))) : dec (y :: r) = none := by
  unfold dec
  show decL ((r.length + 1) + 1) (y :: r) = _
  rw [decL]
  simp only [if_neg (show ¬ (y = 0 ∧ 5 ≤ r.length) by omega), if_pos h, if_pos ho]
theorem dec_end (y : Int) (r : List Int) (h1 : ¬ (y = 0 ∧ 5 ≤ r.length)) (h2 : ¬ (y = 1 ∧ 8 ≤ r.length)) : dec (y :: r) = if 7 < (y :: r).length ∨ (0 : Int) ∈ y :: r then none else some [] := by
  unfold dec
  show decL ((r.length + 1) + 1) (y :: r) = _
  rw [decL]
  simp only [if_neg h1, if_neg h2]
theorem decF_dec (b : List Int) : decF b = dec (unpack b) := rfl
theorem unpack_len : ∀ (b : List Int), (unpack b).length = 8 * b.length
  | [] => rfl
  | c :: b => by
    have ih := unpack_len b
    show (bin 8 c ++ unpack b).length = _
    rw [List.length_append, bin_len, ih, List.length_cons]; omega
theorem unpack_bit (b : List Int) : ∀ y ∈ unpack b, y = 0 ∨ y = 1 := by
  intro y h
  obtain ⟨c, _, hc⟩ := List.mem_flatMap.1 h
  exact bin_bit 8 c y hc
theorem unpack_take (Z : List Int) (k : Nat) (c : Int) (hk : k < Z.length) (hc : Z.getD k 0 = c) : unpack (Z.take (k + 1)) = unpack (Z.take k) ++ bin 8 c := by
  rw [take_snocZ Z k c hk hc]
  simp [unpack]
end Go.Proofs.YtkjfhgoddhigmacGreatDoor
