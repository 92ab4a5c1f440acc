/-
  PLAIN MATHEMATICS: texts as bits. Nothing of the program stands here. No claim by itself.
-/
import Derived.Test.YtdlaaollamgplagGreatDoorMath
namespace Go.Proofs.YtdlaaollamgplagGreatDoor
open Go
/-- The bytes that are often, in their order. -/
def oft : List Int := [101, 116, 97, 111, 105, 110, 115, 104, 114, 100, 108, 117, 99, 109, 102, 119, 121, 112, 118, 98, 103, 107, 120, 106, 113, 122, 45, 47, 46, 58, 48, 32]
def oidxFrom : List Int → Int → Int → Int
  | [], _, _ => -1
  | o :: os, i, c => if o = c then i else oidxFrom os (i + 1) c
/-- The number of a byte; -1: it has none. -/
def oidx (c : Int) : Int := oidxFrom oft 0 c
theorem oidxFrom_bd : ∀ (l : List Int) (i c : Int), 0 ≤ i → -1 ≤ oidxFrom l i c ∧ oidxFrom l i c < i + l.length
  | [], i, c, h => by simp [oidxFrom]; omega
  | o :: os, i, c, h => by
    have ih := oidxFrom_bd os (i + 1) c (by omega)
    unfold oidxFrom
    split
    · simp; omega
    · simp; omega
theorem oidx_bd (c : Int) : -1 ≤ oidx c ∧ oidx c < 32 := by
  have h := oidxFrom_bd oft 0 c (by decide)
  have e : (oft.length : Int) = 32 := by decide
  unfold oidx; omega
/-- So many bits of a number, the high ones first. -/
def bin : Nat → Int → List Int
  | 0, _ => []
  | k + 1, x => (x / 2 ^ k % 2) :: bin k x
theorem bin_len : ∀ (k : Nat) (x : Int), (bin k x).length = k
  | 0, _ => rfl
  | k + 1, x => by simp [bin, bin_len k x]
theorem bin_bit : ∀ (k : Nat) (x : Int), ∀ y ∈ bin k x, y = 0 ∨ y = 1
  | 0, _, y, h => by simp [bin] at h
  | k + 1, x, y, h => by
    simp only [bin, List.mem_cons] at h
    rcases h with rfl | h
    · omega
    · exact bin_bit k x y h
/-- A byte as bits. -/
def code1 (c : Int) : List Int := if 0 ≤ oidx c then 0 :: bin 5 (oidx c) else 1 :: bin 8 c
theorem code1_len (c : Int) : (code1 c).length = if 0 ≤ oidx c then 6 else 9 := by
  unfold code1; split <;> simp [bin_len]
theorem code1_bit (c : Int) : ∀ y ∈ code1 c, y = 0 ∨ y = 1 := by
  intro y h
  unfold code1 at h
  split at h
  · simp only [List.mem_cons] at h
    rcases h with rfl | h
    · left; rfl
    · exact bin_bit 5 _ y h
  · simp only [List.mem_cons] at h
    rcases h with rfl | h
    · right; rfl
    · exact bin_bit 8 _ y h
/-- A text as bits. -/
def bitsL (s : List Int) : List Int := s.flatMap code1
theorem bitsL_append (s t : List Int) : bitsL (s ++ t) = bitsL s ++ bitsL t := by simp [bitsL]
theorem bitsL_cons (c : Int) (s : List Int) : bitsL (c :: s) = code1 c ++ bitsL s := rfl
theorem bitsL_len : ∀ (s : List Int), 6 * s.length ≤ (bitsL s).length ∧ (bitsL s).length ≤ 9 * s.length
  | [] => by simp [bitsL]
  | c :: s => by
    have ih := bitsL_len s
    have h := code1_len c
    rw [bitsL_cons, List.length_append, List.length_cons]
    split at h <;> omega
theorem bitsL_bit (s : List Int) : ∀ y ∈ bitsL s, y = 0 ∨ y = 1 := by
  intro y h
  obtain ⟨c, _, hc⟩ := List.mem_flatMap.1 h
  exact code1_bit c y hc
theorem take_snocZ (Z : List Int) (k : Nat) (c : Int) (hk : k < Z.length) (hc : Z.getD k 0 = c) : Z.take (k + 1) = Z.take k ++ [c] := by
  rw [List.take_succ_eq_append_getElem hk]
  simp [List.getD, List.getElem?_eq_getElem hk] at hc
  rw [hc]
theorem bitsL_take (Z : List Int) (k : Nat) (c : Int) (hk : k < Z.length) (hc : Z.getD k 0 = c) : bitsL (Z.take (k + 1)) = bitsL (Z.take k) ++ code1 c := by
  rw [take_snocZ Z k c hk hc, bitsL_append]
  simp [bitsL]
/-- A number of bits, the high ones first. -/
def val (l : List Int) : Int := l.foldl (fun n y => n * 2 + y) 0
/-- Filled up with ones. -/
def fill (l : List Int) : List Int := l ++ List.replicate ((8 - l.length % 8) % 8) 1
/-- Whole bytes of bits. -/
def pack : Nat → List Int → List Int
  | 0, _ => []
  | k + 1, l => val (l.take 8) :: pack k (l.drop 8)
/-- A text as bytes. -/
def codeL (s : List Int) : List Int := pack ((fill (bitsL s)).length / 8) (fill (bitsL s))
/-- Bytes as bits. -/
def unpack (b : List Int) : List Int := b.flatMap (bin 8)
/-- The text of bits; none: there is none. -/
def decL : Nat → List Int → Option (List Int)
  | 0, _ => none
  | k + 1, l =>
    match l with
    | [] => some []
    | y :: r =>
      if y = 0 ∧ 5 ≤ r.length then
        match decL k (r.drop 5) with
        | some t => some (oft.getD (val (r.take 5)).toNat 0 :: t)
        | none => none
      else if y = 1 ∧ 8 ≤ r.length then
        if 0 ≤ oidx (val (r.take 8)) then none else
        match decL k (r.drop 8) with
        | some t => some (val (r.take 8) :: t)
        | none => none
      else if 7 < (y :: r).length ∨ (0 : Int) ∈ y :: r then none else some []
/-- The text of bytes; none: there is none. -/
def decF (b : List Int) : Option (List Int) := decL ((unpack b).length + 1) (unpack b)

theorem val_snoc (l : List Int) (y : Int) : val (l ++ [y]) = val l * 2 + y := by simp [val]
theorem val_take (l : List Int) (j : Nat) (y : Int) (hj : j < l.length) (hy : l.getD j 0 = y) : val (l.take (j + 1)) = val (l.take j) * 2 + y := by
  rw [take_snocZ l j y hj hy, val_snoc]
theorem val_bd : ∀ (l : List Int), (∀ y ∈ l, y = 0 ∨ y = 1) → 0 ≤ val l ∧ val l < 2 ^ l.length := by
  intro l
  generalize hn : l.length = n
  induction n generalizing l with
  | zero => intro _; rw [List.eq_nil_of_length_eq_zero hn]; simp [val]
  | succ n ih =>
    intro hb
    have hd : l = l.dropLast ++ [l.getLast (by intro h; simp [h] at hn)] := (List.dropLast_concat_getLast _).symm
    have h1 := ih l.dropLast (by simp [hn]) (fun y hy => hb y (List.dropLast_subset l hy))
    have h2 := hb (l.getLast (by intro h; simp [h] at hn)) (List.getLast_mem _)
    rw [hd, val_snoc, Int.pow_succ]
    omega
theorem pack_snoc : ∀ (k : Nat) (l : List Int), pack (k + 1) l = pack k l ++ [val ((l.drop (8 * k)).take 8)]
  | 0, l => by simp [pack]
  | k + 1, l => by
    have ih := pack_snoc k (l.drop 8)
    show val (l.take 8) :: pack (k + 1) (l.drop 8) = (val (l.take 8) :: pack k (l.drop 8)) ++ _
    rw [ih, List.drop_drop, show 8 + 8 * k = 8 * (k + 1) from by omega]
    rfl
theorem pack_len : ∀ (k : Nat) (l : List Int), (pack k l).length = k
  | 0, _ => rfl
  | k + 1, l => by simp [pack, pack_len k]
theorem fill_len (l : List Int) : (fill l).length = l.length + (8 - l.length % 8) % 8 := by simp [fill]
theorem fill_bit (l : List Int) (h : ∀ y ∈ l, y = 0 ∨ y = 1) : ∀ y ∈ fill l, y = 0 ∨ y = 1 := by
  intro y hy
  unfold fill at hy
  rcases List.mem_append.1 hy with hy | hy
  · exact h y hy
  · right; exact List.eq_of_mem_replicate hy
theorem bit_getD (l : List Int) (h : ∀ y ∈ l, y = 0 ∨ y = 1) (t : Nat) : l.getD t 0 = 0 ∨ l.getD t 0 = 1 := by
  by_cases ht : t < l.length
  · have hm : l.getD t 0 ∈ l := by rw [List.getD, List.getElem?_eq_getElem ht]; exact List.getElem_mem _
    exact h _ hm
  · left; simp [List.getD, List.getElem?_eq_none (Nat.le_of_not_lt ht)]

theorem decL_fuel : ∀ (k : Nat) (l : List Int), l.length < k → decL k l = decL (l.length + 1) l := by
  intro k
  induction k using Nat.strongRecOn with
  | ind k ih =>
    intro l hl
    match k, hl with
    | 0, hl => omega
    | k + 1, hl =>
      match l, hl with
      | [], _ => rfl
      | y :: r, hl =>
        have h5 : 5 ≤ r.length → decL k (r.drop 5) = decL (r.length + 1) (r.drop 5) := by
          intro h
          rw [ih k (by omega) (r.drop 5) (by simp at hl ⊢; omega)]
          rcases Nat.lt_or_ge (r.length + 1) (k + 1) with h1 | h1
          · rw [ih (r.length + 1) h1 (r.drop 5) (by simp; omega)]
          · have : r.length + 1 = k := by simp at hl; omega
            omega
        have h8 : 8 ≤ r.length → decL k (r.drop 8) = decL (r.length + 1) (r.drop 8) := by
          intro h
          rw [ih k (by omega) (r.drop 8) (by simp at hl ⊢; omega)]
          rcases Nat.lt_or_ge (r.length + 1) (k + 1) with h1 | h1
          · rw [ih (r.length + 1) h1 (r.drop 8) (by simp; omega)]
          · have : r.length + 1 = k := by simp at hl; omega
            omega
        show decL (k + 1) (y :: r) = decL ((r.length + 1) + 1) (y :: r)
        unfold decL
        by_cases c1 : y = 0 ∧ 5 ≤ r.length
        · simp only [if_pos c1, h5 c1.2]
        · simp only [if_neg c1]
          by_cases c2 : y = 1 ∧ 8 ≤ r.length
          · simp only [if_pos c2, h8 c2.2]
          · simp only [if_neg c2]
/-- The text of bits; none: there is none. -/
def dec (l : List Int) : Option (List Int) := decL (l.length + 1) l
theorem dec_nil : dec [] = some [] := rfl
theorem dec_often (y : Int) (r : List Int) (h : y = 0 ∧ 5 ≤ r.length) : dec (y :: r) = (dec (r.drop 5)).map (oft.getD (val (r.take 5)).toNat 0 :: ·) := by
  unfold dec
  show decL ((r.length + 1) + 1) (y :: r) = _
  rw [decL]
  simp only [if_pos h]
  rw [decL_fuel (r.length + 1) (r.drop 5) (by simp; omega)]
  cases decL ((r.drop 5).length + 1) (r.drop 5) <;> rfl
theorem dec_rare (y : Int) (r : List Int) (h : y = 1 ∧ 8 ≤ r.length) (ho : ¬ 0 ≤ oidx (val (r.take 8))) : dec (y :: r) = (dec (r.drop 8)).map (val (r.take 8) :: ·) := by
  unfold dec
  show decL ((r.length + 1) + 1) (y :: r) = _
  rw [decL]
  simp only [if_neg (show ¬ (y = 0 ∧ 5 ≤ r.length) by omega), if_pos h, if_neg ho]
  rw [decL_fuel (r.length + 1) (r.drop 8) (by simp; omega)]
  cases decL ((r.drop 8).length + 1) (r.drop 8) <;> rfl
theorem dec_wrong (y : Int) (r : List Int) (h : y = 1 ∧ 8 ≤ r.length) (ho : 0 ≤ oidx (val (r.take 8))) : dec (y :: r) = none := by
  unfold dec
  show decL ((r.length + 1) + 1) (y :: r) = _
  rw [decL]
  simp only [if_neg (show ¬ (y = 0 ∧ 5 ≤ r.length) by omega), if_pos h, if_pos ho]
theorem dec_end (y : Int) (r : List Int) (h1 : ¬ (y = 0 ∧ 5 ≤ r.length)) (h2 : ¬ (y = 1 ∧ 8 ≤ r.length)) : dec (y :: r) = if 7 < (y :: r).length ∨ (0 : Int) ∈ y :: r then none else some [] := by
  unfold dec
  show decL ((r.length + 1) + 1) (y :: r) = _
  rw [decL]
  simp only [if_neg h1, if_neg h2]
theorem decF_dec (b : List Int) : decF b = dec (unpack b) := rfl
theorem unpack_len : ∀ (b : List Int), (unpack b).length = 8 * b.length
  | [] => rfl
  | c :: b => by
    have ih := unpack_len b
    show (bin 8 c ++ unpack b).length = _
    rw [List.length_append, bin_len, ih, List.length_cons]; omega
theorem unpack_bit (b : List Int) : ∀ y ∈ unpack b, y = 0 ∨ y = 1 := by
  intro y h
  obtain ⟨c, _, hc⟩ := List.mem_flatMap.1 h
  exact bin_bit 8 c y hc
theorem unpack_take (Z : List Int) (k : Nat) (c : Int) (hk : k < Z.length) (hc : Z.getD k 0 = c) : unpack (Z.take (k + 1)) = unpack (Z.take k) ++ bin 8 c := by
  rw [take_snocZ Z k c hk hc]
  simp [unpack]
end Go.Proofs.YtdlaaollamgplagGreatDoor
