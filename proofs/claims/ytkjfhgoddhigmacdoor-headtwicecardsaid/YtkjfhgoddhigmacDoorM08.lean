/-
  PLAIN MATHEMATICS: texts as bits. Nothing of the program stands here. No claim by itself.
-/
import Derived.Test.YtkjfhgoddhigmacDoorM07
namespace Go.Proofs.YtkjfhgoddhigmacDoor
open Go
/-- The bytes that are often, in their order. -/
def oft : List Int := [101, 116, 97, 111, 105, 110, 115, 104, 114, 100, 108, 117, 99, 109, 102, 119, 121, 112, 118, 98, 103, 107, 120, 106, 113, 122, 45, 47, 46, 58, 48, 32]
def oidxFrom : List Int → Int → Int → Int
  | [], _, _ => -1
  | o :: os, i, c => if o = c then i else oidxFrom os (i + 1) c
/-- The number of a byte; -1: it has none. -/
def oidx (c : Int) : Int := oidxFrom oft 0 c
theorem oidxFrom_bd : ∀ (l : List Int) (i c : Int), 0 ≤ i → -1 ≤ oidxFrom l i c ∧ oidxFrom l i c < i + l.length
  | [], i, c, h => by simp [oidxFrom]; omega
  | o :: os, i, c, h => by
    have ih := oidxFrom_bd os (i + 1) c (by omega)
    unfold oidxFrom
    split
    · simp; omega
    · simp; omega
theorem oidx_bd (c : Int) : -1 ≤ oidx c ∧ oidx c < 32 := by
  have h := oidxFrom_bd oft 0 c (by decide)
  have e : (oft.length : Int) = 32 := by decide
  unfold oidx; omega
/-- So many bits of a number, the high ones first. -/
def bin : Nat → Int → List Int
  | 0, _ => []
  | k + 1, x => (x / 2 ^ k % 2) :: bin k x
theorem bin_len : ∀ (k : Nat) (x : Int), (bin k x).length = k
  | 0, _ => rfl
  | k + 1, x => by simp [bin, bin_len k x]
theorem bin_bit : ∀ (k : Nat) (x : Int), ∀ y ∈ bin k x, y = 0 ∨ y = 1
  | 0, _, y, h => by simp [bin] at h
  | k + 1, x, y, h => by
    simp only [bin, List.mem_cons] at h
    rcases h with rfl | h
    · omega
    · exact bin_bit k x y h
/-- A byte as bits. -/
def code1 (c : Int) : List Int := if 0 ≤ oidx c then 0 :: bin 5 (oidx c) else 1 :: bin 8 c
theorem code1_len (c : Int) : (code1 c).length = if 0 ≤ oidx c then 6 else 9 := by
  unfold code1; split <;> simp [bin_len]
theorem code1_bit (c : Int) : ∀ y ∈ code1 c, y = 0 ∨ y = 1 := by
  intro y h
  unfold code1 at h
  split at h
  · simp only [List.mem_cons] at h
    rcases h with rfl | h
    · left; rfl
    · exact bin_bit 5 _ y h
  · simp only [List.mem_cons] at h
    rcases h with rfl | h
    · right; rfl
    · exact bin_bit 8 _ y h
/-- A text as bits. -/
def bitsL (s : List Int) : List Int := s.flatMap code1
theorem bitsL_append (s t : List Int) : bitsL (s ++ t) = bitsL s ++ bitsL t := by simp [bitsL]
theorem bitsL_cons (c : Int) (s : List Int) : bitsL (c :: s) = code1 c ++ bitsL s := rfl
theorem bitsL_len : ∀ (s : List Int), 6 * s.length ≤ (bitsL s).length ∧ (bitsL s).length ≤ 9 * s.length
  | [] => by simp [bitsL]
  | c :: s => by
    have ih := bitsL_len s
    have h := code1_len c
    rw [bitsL_cons, List.length_append, List.length_cons]
    split at h <;> omega
theorem bitsL_bit (s : List Int) : ∀ y ∈ bitsL s, y = 0 ∨ y = 1 := by
  intro y h
  obtain ⟨c, _, hc⟩ := List.mem_flatMap.1 h
  exact code1_bit c y hc
theorem take_snocZ (Z : List Int) (k : Nat) (c : Int) (hk : k < Z.length) (hc : Z.getD k 0 = c) : Z.take (k + 1) = Z.take k ++ [c] := by
  rw [List.take_succ_eq_append_getElem hk]
  simp [List.getD, List.getElem?_eq_getElem hk] at hc
  rw [hc]
theorem bitsL_take (Z : List Int) (k : Nat) (c : Int) (hk : k < Z.length) (hc : Z.getD k 0 = c) : bitsL (Z.take (k + 1)) = bitsL (Z.take k) ++ code1 c := by
  rw [take_snocZ Z k c hk hc, bitsL_append]
  simp [bitsL]
/-- A number of bits, the high ones first. -/
def val (l : List Int) : Int := l.foldl (fun n y => n * 2 + y) 0
/-- Filled up with ones. -/
def fill (l : List Int) : List Int := l ++ List.replicate ((8 - l.length % 8) % 8) 1
/-- Whole bytes of bits. -/
def pack : Nat → List Int → List Int
  | 0, _ => []
  | k + 1, l => val (l.take 8) :: pack k (l.drop 8)
/-- A text as bytes. -/
def codeL (s : List Int) : List Int := pack ((fill (bitsL s)).length / 8) (fill (bitsL s))
/-- Bytes as bits. -/
def unpack (b : List Int) : List Int := b.flatMap (bin 8)
/-- The text of bits; none: there is none. -/
def decL : Nat → List Int → Option (List Int)
  | 0, _ => none
  | k + 1, l =>
    match l with
    | [] => some []
    | y :: r =>
      if y = 0 ∧ 5 ≤ r.length then
        match decL k (r.drop 5) with
        | some t => some (oft.getD (val (r.take 5)).toNat 0 :: t)
        | none => none
      else if y = 1 ∧ 8 ≤ r.length then
        if 0 ≤ oidx (val (r.take 8)) then none else
        match decL k (r.drop 8) with
        | some t => some (val (r.take 8) :: t)
        | none => none
      else if 7 < (y :: r).length ∨ (0 : Int) ∈ y :: r then none else some []
/-- The text of bytes; none: there is none. -/
def decF (b : List Int) : Option (List Int) := decL ((unpack b).length + 1) (unpack b)

theorem val_snoc (l : List Int) (y : Int) : val (l ++ [y]) = val l * 2 + y := by simp [val]
theorem val_take (l : List Int) (j : Nat) (y : Int) (hj : j < l.length) (hy : l.getD j 0 = y) : val (l.take (j + 1)) = val (l.take j) * 2 + y := by
  rw [take_snocZ l j y hj hy, val_snoc]
theorem val_bd : ∀ (l : List Int), (∀ y ∈ l, y = 0 ∨ y = 1) → 0 ≤ val l ∧ val l < 2 ^ l.length := by
  intro l
  generalize hn : l.length = n
  induction n generalizing l with
  | zero => intro _; rw [List.eq_nil_of_length_eq_zero hn]; simp [val]
  | succ n ih =>
    intro hb
    have hd : l = l.dropLast ++ [l.getLast (by intro h; simp [h] at hn)] := (List.dropLast_concat_getLast _).symm
    have h1 := ih l.dropLast (by simp [hn]) (fun y hy => hb y (List.dropLast_subset l hy))
    have h2 := hb (l.getLast (by intro h; simp [h] at hn)) (List.getLast_mem _)
    rw [hd, val_snoc, Int.pow_succ]
    omega
theorem pack_snoc : ∀ (k : Nat) (l : List Int), pack (k + 1) l = pack k l ++ [val ((l.drop (8 * k)).take 8)]
  | 0, l => by simp [pack]
  | k + 1, l => by
    have ih := pack_snoc k (l.drop 8)
    show val (l.take 8) :: pack (k + 1) (l.drop 8) = (val (l.take 8) :: pack k (l.drop 8)) ++ _
    rw [ih, List.drop_drop, show 8 + 8 * k = 8 * (k + 1) from by omega]
    rfl
theorem pack_len : ∀ (k : Nat) (l : List Int), (pack k l).length = k
  | 0, _ => rfl
  | k + 1, l => by simp [pack, pack_len k]
theorem fill_len (l : List Int) : (fill l).length = l.length + (8 - l.length % 8) % 8 := by simp [fill]
theorem fill_bit (l : List Int) (h : ∀ y ∈ l, y = 0 ∨ y = 1) : ∀ y ∈ fill l, y = 0 ∨ y = 1 := by
  intro y hy
  unfold fill at hy
  rcases List.mem_append.1 hy with hy | hy
  · exact h y hy
  · right; exact List.eq_of_mem_replicate hy
theorem bit_getD (l : List Int) (h : ∀ y ∈ l, y = 0 ∨ y = 1) (t : Nat) : l.getD t 0 = 0 ∨ l.getD t 0 = 1 := by
  by_cases ht : t < l.length
  · have hm : l.getD t 0 ∈ l := by rw [List.getD, List.getElem?_eq_getElem ht]; exact List.getElem_mem _
    exact h _ hm
  · left; simp [List.getD, List.getElem?_eq_none (Nat.le_of_not_lt ht)]

theorem decL_fuel : ∀ (k : Nat) (l : List Int), l.length < k → decL k l = decL (l.length + 1) l := by
  intro k
  induction k using Nat.strongRecOn with
  | ind k ih =>
    intro l hl
    match k, hl with
    | 0, hl => omega
    | k + 1, hl =>
      match l, hl with
      | [], _ => rfl
      | y :: r, hl =>
        have h5 : 5 ≤ r.length → decL k (r.drop 5) = decL (r.length + 1) (r.drop 5) := by
          intro h
          rw [ih k (by omega) (r.drop 5) (by simp at hl ⊢; omega)]
          rcases Nat.lt_or_ge (r.length + 1) (k + 1) with h1 | h1
          · rw [ih (r.length + 1) h1 (r.drop 5) (by simp; omega)]
          · have : r.length + 1 = k := by simp at hl; omega
            omega
        have h8 : 8 ≤ r.length → decL k (r.drop 8) = decL (r.length + 1) (r.drop 8) := by
          intro h
          rw [ih k (by omega) (r.drop 8) (by simp at hl ⊢; omega)]
          rcases Nat.lt_or_ge (r.length + 1) (k + 1) with h1 | h1
          · rw [ih (r.length + 1) h1 (r.drop 8) (by simp; omega)]
          · have : r.length + 1 = k := by simp at hl; omega
            omega
        show decL (k + 1) (y :: r) = decL ((r.length + 1) + 1) (y :: r)
        unfold decL
        by_cases c1 : y = 0 ∧ 5 ≤ r.length
        · simp only [if_pos c1, h5 c1.2]
        · simp only [if_neg c1]
          by_cases c2 : y = 1 ∧ 8 ≤ r.length
          · simp only [if_pos c2, h8 c2.2]
          · simp only [if_neg c2]
/-- The text of bits; none: there is none. -/
def dec (l : List Int) : Option (List Int) := decL (l.length + 1) l
theorem dec_nil : dec [] = some [] := rfl
theorem dec_often (y : Int) (r : List Int) (h : y = 0 ∧ 5 ≤ r.length) : dec (y :: r) = (dec (r.drop 5)).map (oft.getD (val (r.take 5)).toNat 0 :: ·) := by
  unfold dec
  show decL ((r.length + 1) + 1) (y :: r) = _
  rw [decL]
  simp only [if_pos h]
  rw [decL_fuel (r.length + 1) (r.drop 5) (by simp; omega)]
  cases decL ((r.drop 5).length + 1) (r.drop 5) <;> rfl
theorem dec_rare (y : Int) (r : List Int) (h : y = 1 ∧ 8 ≤ r.length) (ho : ¬ 0 ≤ oidx (val (r.take 8))) : dec (y :: r) = (dec (r.drop 8)).map (val (r.take 8) :: ·) := by
  unfold dec
  show decL ((r.length + 1) + 1) (y :: r) = _
  rw [decL]
  simp only [if_neg (show ¬ (y = 0 ∧ 5 ≤ r.length) by omega), if_pos h, if_neg ho]
  rw [decL_fuel (r.length + 1) (r.drop 8) (by simp; omega)]
  cases decL ((r.drop 8).length + 1) (r.drop 8) <;> rfl
theorem dec_wrong (y : Int) (r : List Int) (h : y = 1 ∧ 8 ≤ r.length) (ho : 0 ≤ oidx (val (r.take 8))) : dec (y :: r) = none := by
  unfold dec
  show decL ((r.length + 1) + 1) (y :: r) = _
  rw [decL]
  simp only [if_neg (show ¬ (y = 0 ∧ 5 ≤ r.length) by omega), if_pos h, if_pos ho]
theorem dec_end (y : Int) (r : List Int) (h1 : ¬ (y = 0 ∧ 5 ≤ r.length)) (h2 : ¬ (y = 1 ∧ 8 ≤ r.length)) : dec (y :: r) = if 7 < (y :: r).length ∨ (0 : Int) ∈ y :: r then none else some [] := by
  unfold dec
  show decL ((r.length + 1) + 1) (y :: r) = _
  rw [decL]
  simp only [if_neg h1, if_neg h2]
theorem decF_dec (b : List Int) : decF b = dec (unpack b) := rfl
theorem unpack_len : ∀ (b : List Int), (unpack b).length = 8 * b.length
  | [] => rfl
  | c :: b => by
    have ih := unpack_len b
    show (bin 8 c ++ unpack b).length = _
    rw [List.length_append, bin_len, ih, List.length_cons]; omega
theorem unpack_bit (b : List Int) : ∀ y ∈ unpack b, y = 0 ∨ y = 1 := by
  intro y h
  obtain ⟨c, _, hc⟩ := List.mem_flatMap.1 h
  exact bin_bit 8 c y hc
theorem unpack_take (Z : List Int) (k : Nat) (c : Int) (hk : k < Z.length) (hc : Z.getD k 0 = c) : unpack (Z.take (k + 1)) = unpack (Z.take k) ++ bin 8 c := by
  rw [take_snocZ Z k c hk hc]
  simp [unpack]
end Go.Proofs.YtkjfhgoddhigmacDoor
/-
  PLAIN MATHEMATICS: every text comes back. Nothing of the program stands here. No claim by itself.
-/
namespace Go.Proofs.YtkjfhgoddhigmacDoor
open Go
theorem two_pos (k : Nat) : (0 : Int) < 2 ^ k := by
  have h2 : (0 : Nat) < 2 ^ k := Nat.pos_of_ne_zero (by simp)
  have e : ((2 ^ k : Nat) : Int) = (2 : Int) ^ k := by simp
  omega
theorem foldl_val : ∀ (l : List Int) (a : Int), l.foldl (fun n y => n * 2 + y) a = a * 2 ^ l.length + val l
  | [], a => by simp [val]
  | y :: l, a => by
    have h1 := foldl_val l (a * 2 + y)
    have h2 := foldl_val l (0 * 2 + y)
    show l.foldl (fun n y => n * 2 + y) (a * 2 + y) = a * 2 ^ (l.length + 1) + l.foldl (fun n y => n * 2 + y) (0 * 2 + y)
    rw [h1, h2, Int.pow_succ, Int.add_mul, Int.mul_assoc, Int.mul_comm 2 (2 ^ l.length)]
    simp
    omega
theorem val_cons (y : Int) (l : List Int) : val (y :: l) = y * 2 ^ l.length + val l := by
  have h := foldl_val l (0 * 2 + y)
  show l.foldl (fun n y => n * 2 + y) (0 * 2 + y) = _
  rw [h]; simp
theorem mod_succ (x : Int) (k : Nat) : x % 2 ^ (k + 1) = x / 2 ^ k % 2 * 2 ^ k + x % 2 ^ k := by
  have hp := two_pos k
  have h1 : x = 2 ^ k * (x / 2 ^ k) + x % 2 ^ k := (Int.mul_ediv_add_emod x _).symm
  have h2 : 0 ≤ x % 2 ^ k := Int.emod_nonneg _ (by omega)
  have h3 : x % 2 ^ k < 2 ^ k := Int.emod_lt_of_pos _ hp
  generalize hq : x / 2 ^ k = q at *
  generalize x % 2 ^ k = r at *
  have h4 : q = 2 * (q / 2) + q % 2 := by omega
  have h5 : x = q % 2 * 2 ^ k + r + 2 ^ (k + 1) * (q / 2) := by
    rw [h1, Int.pow_succ]
    have e1 : (2 : Int) ^ k * q = 2 ^ k * (2 * (q / 2)) + 2 ^ k * (q % 2) := by rw [← Int.mul_add, ← h4]
    have e2 : (2 : Int) ^ k * (2 * (q / 2)) = 2 ^ k * 2 * (q / 2) := by rw [Int.mul_assoc]
    have e3 : (2 : Int) ^ k * (q % 2) = q % 2 * 2 ^ k := Int.mul_comm _ _
    omega
  have h6 : q % 2 = 0 ∨ q % 2 = 1 := by omega
  have h7 : 0 ≤ q % 2 * 2 ^ k + r ∧ q % 2 * 2 ^ k + r < 2 ^ (k + 1) := by
    rw [Int.pow_succ]
    rcases h6 with h | h <;> rw [h] <;> omega
  rw [h5, Int.add_mul_emod_self_left]
  exact Int.emod_eq_of_lt h7.1 h7.2
theorem val_bin : ∀ (k : Nat) (x : Int), val (bin k x) = x % 2 ^ k
  | 0, x => by simp [bin, val]
  | k + 1, x => by rw [bin, val_cons, bin_len, val_bin k x, mod_succ]
theorem val_bin_lt (k : Nat) (x : Int) (h0 : 0 ≤ x) (h1 : x < 2 ^ k) : val (bin k x) = x := by
  rw [val_bin]; exact Int.emod_eq_of_lt h0 h1
theorem bin_add : ∀ (j k : Nat) (a v : Int), j ≤ k → bin j (a * 2 ^ k + v) = bin j v
  | 0, _, _, _, _ => rfl
  | j + 1, k, a, v, h => by
    have ih := bin_add j k a v (by omega)
    have hp := two_pos j
    have e : (a * 2 ^ k + v) / 2 ^ j % 2 = v / 2 ^ j % 2 := by
      obtain ⟨d, rfl⟩ : ∃ d, k = j + 1 + d := ⟨k - (j + 1), by omega⟩
      have e1 : a * 2 ^ (j + 1 + d) = 2 ^ j * (2 * (a * 2 ^ d)) := by
        rw [Int.pow_add, Int.pow_succ, Int.mul_assoc, ← Int.mul_assoc a, Int.mul_comm a, Int.mul_assoc, Int.mul_left_comm a]
      rw [e1, Int.add_comm, Int.add_mul_ediv_left _ _ (by omega)]
      omega
    show (a * 2 ^ k + v) / 2 ^ j % 2 :: bin j (a * 2 ^ k + v) = _
    rw [e, ih]; rfl
theorem bin_val : ∀ (l : List Int), (∀ y ∈ l, y = 0 ∨ y = 1) → bin l.length (val l) = l
  | [], _ => rfl
  | y :: l, h => by
    have ih := bin_val l (fun z hz => h z (List.mem_cons_of_mem _ hz))
    have hy := h y List.mem_cons_self
    have hb := val_bd l (fun z hz => h z (List.mem_cons_of_mem _ hz))
    have hp := two_pos l.length
    show (val (y :: l) / 2 ^ l.length % 2) :: bin l.length (val (y :: l)) = y :: l
    rw [val_cons, bin_add l.length l.length y (val l) (Nat.le_refl _), ih]
    congr 1
    rw [Int.mul_comm, Int.add_comm, Int.add_mul_ediv_left _ _ (by omega), Int.ediv_eq_zero_of_lt hb.1 hb.2]
    omega
theorem oidxFrom_at : ∀ (l : List Int) (i c : Int), 0 ≤ i → 0 ≤ oidxFrom l i c → l.getD (oidxFrom l i c - i).toNat 0 = c ∧ i ≤ oidxFrom l i c
  | [], i, c, h, h0 => by simp [oidxFrom] at h0
  | o :: os, i, c, h, h0 => by
    unfold oidxFrom at h0 ⊢
    by_cases hc : o = c
    · simp only [if_pos hc] at h0 ⊢
      simp [hc]
    · simp only [if_neg hc] at h0 ⊢
      have ih := oidxFrom_at os (i + 1) c (by omega) h0
      refine ⟨?_, by omega⟩
      have e : (oidxFrom os (i + 1) c - i).toNat = (oidxFrom os (i + 1) c - (i + 1)).toNat + 1 := by omega
      rw [e, List.getD_cons_succ]
      exact ih.1
theorem oft_oidx (c : Int) (h : 0 ≤ oidx c) : oft.getD (oidx c).toNat 0 = c := by
  have h1 := (oidxFrom_at oft 0 c (by decide) h).1
  rw [Int.sub_zero] at h1
  exact h1
theorem oidx_oft (j : Nat) (h : j < 32) : oidx (oft.getD j 0) = j := by
  have h1 : ∀ j : Fin 32, oidx (oft.getD j.val 0) = (j.val : Int) := by decide
  exact h1 ⟨j, h⟩
/-- EVERY TEXT COMES BACK, of its bits, with at most seven ones behind them. -/
theorem dec_bits : ∀ (s : List Int) (m : Nat), (∀ c ∈ s, 0 ≤ c ∧ c < 256) → m ≤ 7 → dec (bitsL s ++ List.replicate m 1) = some s
  | [], m, _, hm => by
    match m with
    | 0 => rfl
    | m + 1 =>
      show dec (1 :: List.replicate m 1) = some []
      rw [dec_end 1 _ (by omega) (by simp; omega), if_neg]
      simp
      omega
  | c :: s, m, hb, hm => by
    have ih := dec_bits s m (fun c hc => hb c (List.mem_cons_of_mem _ hc)) hm
    have hc := hb c List.mem_cons_self
    have ob := oidx_bd c
    rw [bitsL_cons, List.append_assoc]
    generalize bitsL s ++ List.replicate m 1 = R at ih
    unfold code1
    by_cases ho : 0 ≤ oidx c
    · rw [if_pos ho]
      show dec (0 :: (bin 5 (oidx c) ++ R)) = _
      rw [dec_often 0 _ ⟨rfl, by rw [List.length_append, bin_len]; omega⟩]
      have e1 : (bin 5 (oidx c) ++ R).take 5 = bin 5 (oidx c) := List.take_left' (bin_len _ _)
      have e2 : (bin 5 (oidx c) ++ R).drop 5 = R := List.drop_left' (bin_len _ _)
      rw [e1, e2, ih, val_bin_lt 5 _ ho (by simpa using ob.2), oft_oidx c ho]
      rfl
    · rw [if_neg ho]
      show dec (1 :: (bin 8 c ++ R)) = _
      have e1 : (bin 8 c ++ R).take 8 = bin 8 c := List.take_left' (bin_len _ _)
      have e2 : (bin 8 c ++ R).drop 8 = R := List.drop_left' (bin_len _ _)
      have e3 : val (bin 8 c) = c := val_bin_lt 8 c hc.1 (by simpa using hc.2)
      rw [dec_rare 1 _ ⟨rfl, by rw [List.length_append, bin_len]; omega⟩ (by rw [e1, e3]; exact ho), e1, e2, ih, e3]
      rfl
theorem unpack_pack : ∀ (k : Nat) (l : List Int), l.length = 8 * k → (∀ y ∈ l, y = 0 ∨ y = 1) → unpack (pack k l) = l
  | 0, l, h, _ => by
    have e : l = [] := List.eq_nil_of_length_eq_zero (by omega)
    subst e; rfl
  | k + 1, l, h, hb => by
    have ih := unpack_pack k (l.drop 8) (by rw [List.length_drop]; omega) (fun y hy => hb y (List.drop_subset _ _ hy))
    have ht : (l.take 8).length = 8 := by rw [List.length_take]; omega
    have h1 := bin_val (l.take 8) (fun y hy => hb y (List.take_subset _ _ hy))
    rw [ht] at h1
    show bin 8 (val (l.take 8)) ++ unpack (pack k (l.drop 8)) = l
    rw [h1, ih, List.take_append_drop]
theorem pack_unpack : ∀ (b : List Int), (∀ c ∈ b, 0 ≤ c ∧ c < 256) → pack b.length (unpack b) = b
  | [], _ => rfl
  | c :: b, h => by
    have ih := pack_unpack b (fun c hc => h c (List.mem_cons_of_mem _ hc))
    have hc := h c List.mem_cons_self
    show val ((bin 8 c ++ unpack b).take 8) :: pack b.length ((bin 8 c ++ unpack b).drop 8) = c :: b
    rw [List.take_left' (bin_len _ _), List.drop_left' (bin_len _ _), ih, val_bin_lt 8 c hc.1 (by simpa using hc.2)]
/-- EVERY TEXT COMES BACK. -/
theorem dec_code (s : List Int) (hb : ∀ c ∈ s, 0 ≤ c ∧ c < 256) : decF (codeL s) = some s := by
  have hl := fill_len (bitsL s)
  have h8 : (fill (bitsL s)).length = 8 * ((fill (bitsL s)).length / 8) := by omega
  rw [decF_dec]
  unfold codeL
  rw [unpack_pack _ _ h8 (fill_bit _ (bitsL_bit s))]
  exact dec_bits s _ hb (by omega)
theorem code_len (s : List Int) : (codeL s).length = ((bitsL s).length + 7) / 8 := by
  unfold codeL
  rw [pack_len, fill_len]; omega
theorem all_ones : ∀ (l : List Int), (∀ y ∈ l, y = 0 ∨ y = 1) → (0 : Int) ∉ l → l = List.replicate l.length 1
  | [], _, _ => rfl
  | y :: l, h, h0 => by
    have ih := all_ones l (fun z hz => h z (List.mem_cons_of_mem _ hz)) (fun hz => h0 (List.mem_cons_of_mem _ hz))
    have hy : y = 1 := by
      rcases h y List.mem_cons_self with rfl | h1
      · exact absurd List.mem_cons_self h0
      · exact h1
    rw [List.length_cons, List.replicate_succ, ← ih, hy]
/-- What bits are read as is written as these, but for what fills up. -/
theorem bits_dec : ∀ (n : Nat) (l : List Int), l.length ≤ n → (∀ y ∈ l, y = 0 ∨ y = 1) → ∀ v, dec l = some v → ∃ m, m ≤ 7 ∧ l = bitsL v ++ List.replicate m 1
  | n, [], _, _, v, h => by
    rw [dec_nil] at h
    obtain rfl := Option.some.inj h
    exact ⟨0, by decide, rfl⟩
  | 0, y :: r, hn, _, _, _ => by simp at hn
  | n + 1, y :: r, hn, hb, v, h => by
    simp at hn
    have hbr : ∀ z ∈ r, z = 0 ∨ z = 1 := fun z hz => hb z (List.mem_cons_of_mem _ hz)
    by_cases c1 : y = 0 ∧ 5 ≤ r.length
    · rw [dec_often y r c1] at h
      obtain ⟨t, ht, rfl⟩ := Option.map_eq_some_iff.1 h
      obtain ⟨m, hm, e⟩ := bits_dec n (r.drop 5) (by rw [List.length_drop]; omega) (fun z hz => hbr z (List.drop_subset _ _ hz)) t ht
      have hl : (r.take 5).length = 5 := by rw [List.length_take]; omega
      have hvb := val_bd (r.take 5) (fun z hz => hbr z (List.take_subset _ _ hz))
      have hbv := bin_val (r.take 5) (fun z hz => hbr z (List.take_subset _ _ hz))
      rw [hl] at hvb hbv
      have hv : val (r.take 5) < 32 := by simpa using hvb.2
      have ho : oidx (oft.getD (val (r.take 5)).toNat 0) = val (r.take 5) := by
        rw [oidx_oft _ (by omega)]; omega
      refine ⟨m, hm, ?_⟩
      rw [bitsL_cons, List.append_assoc, ← e]
      unfold code1
      rw [ho, if_pos hvb.1, hbv, c1.1]
      show 0 :: r = 0 :: (r.take 5 ++ r.drop 5)
      rw [List.take_append_drop]
    · by_cases c2 : y = 1 ∧ 8 ≤ r.length
      · by_cases ho : 0 ≤ oidx (val (r.take 8))
        · rw [dec_wrong y r c2 ho] at h; cases h
        · rw [dec_rare y r c2 ho] at h
          obtain ⟨t, ht, rfl⟩ := Option.map_eq_some_iff.1 h
          obtain ⟨m, hm, e⟩ := bits_dec n (r.drop 8) (by rw [List.length_drop]; omega) (fun z hz => hbr z (List.drop_subset _ _ hz)) t ht
          have hl : (r.take 8).length = 8 := by rw [List.length_take]; omega
          have hbv := bin_val (r.take 8) (fun z hz => hbr z (List.take_subset _ _ hz))
          rw [hl] at hbv
          refine ⟨m, hm, ?_⟩
          rw [bitsL_cons, List.append_assoc, ← e]
          unfold code1
          rw [if_neg ho, hbv, c2.1]
          show 1 :: r = 1 :: (r.take 8 ++ r.drop 8)
          rw [List.take_append_drop]
      · rw [dec_end y r c1 c2] at h
        by_cases c3 : 7 < (y :: r).length ∨ (0 : Int) ∈ y :: r
        · rw [if_pos c3] at h; cases h
        · rw [if_neg c3] at h
          obtain rfl := Option.some.inj h
          refine ⟨(y :: r).length, by omega, ?_⟩
          exact all_ones (y :: r) hb (fun hz => c3 (Or.inr hz))
/-- What any bytes are read as is written as these. -/
theorem code_dec (b v : List Int) (hb : ∀ c ∈ b, 0 ≤ c ∧ c < 256) (h : decF b = some v) : codeL v = b := by
  rw [decF_dec] at h
  obtain ⟨m, hm, e⟩ := bits_dec _ (unpack b) (Nat.le_refl _) (unpack_bit b) v h
  have hl := congrArg List.length e
  rw [unpack_len, List.length_append, List.length_replicate] at hl
  have em : m = (8 - (bitsL v).length % 8) % 8 := by omega
  have ef : fill (bitsL v) = unpack b := by
    unfold fill; rw [← em]; exact e.symm
  unfold codeL
  rw [ef, unpack_len, Nat.mul_div_cancel_left _ (by decide)]
  exact pack_unpack b hb
end Go.Proofs.YtkjfhgoddhigmacDoor
