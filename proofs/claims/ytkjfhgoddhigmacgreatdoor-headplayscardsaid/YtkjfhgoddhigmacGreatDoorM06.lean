/-
  PLAIN MATHEMATICS: every text comes back. Nothing of the program stands here. No claim by itself.
-/
import Derived.WalkKit
import Derived.WalkLawsBesides
import Derived.WalkSpells
import Derived.Laws.BytesArg
import Derived.Test.YtkjfhgoddhigmacGreatDoorM05
import Derived.Test.YtkjfhgoddhigmacGreatDoorProg
namespace Go.Proofs.YtkjfhgoddhigmacGreatDoor
open Go
theorem two_pos (k : Nat) : (0 : Int) < 2 ^ k := by
  have h2 : (0 : Nat) < 2 ^ k := Nat.pos_of_ne_zero (by simp)
  have e : ((2 ^ k : Nat) : Int) = (2 : Int) ^ k := by simp
  omega
theorem foldl_val : ∀ (l : List Int) (a : Int), l.foldl (fun n y => n * 2 + y) a = a * 2 ^ l.length + val l
  | [], a => by simp [val]
  | y :: l, a => by
    have h1 := foldl_val l (a * 2 + y)
    have h2 := foldl_val l (0 * 2 + y)
    show l.foldl (fun n y => n * 2 + y) (a * 2 + y) = a * 2 ^ (l.length + 1) + l.foldl (fun n y => n * 2 + y) (0 * 2 + y)
    rw [h1, h2, Int.pow_succ, Int.add_mul, Int.mul_assoc, Int.mul_comm 2 (2 ^ l.length)]
    simp
    omega
theorem val_cons (y : Int) (l : List Int) : val (y :: l) = y * 2 ^ l.length + val l := by
  have h := foldl_val l (0 * 2 + y)
  show l.foldl (fun n y => n * 2 + y) (0 * 2 + y) = _
  rw [h]; simp
theorem mod_succ (x : Int) (k : Nat) : x % 2 ^ (k + 1) = x / 2 ^ k % 2 * 2 ^ k + x % 2 ^ k := by
  have hp := two_pos k
  have h1 : x = 2 ^ k * (x / 2 ^ k) + x % 2 ^ k := (Int.mul_ediv_add_emod x _).symm
  have h2 : 0 ≤ x % 2 ^ k := Int.emod_nonneg _ (by omega)
  have h3 : x % 2 ^ k < 2 ^ k := Int.emod_lt_of_pos _ hp
  generalize hq : x / 2 ^ k = q at *
  generalize x % 2 ^ k = r at *
  have h4 : q = 2 * (q / 2) + q % 2 := by omega
  have h5 : x = q % 2 * 2 ^ k + r + 2 ^ (k + 1) * (q / 2) := by
    rw [h1, Int.pow_succ]
    have e1 : (2 : Int) ^ k * q = 2 ^ k * (2 * (q / 2)) + 2 ^ k * (q % 2) := by rw [← Int.mul_add, ← h4]
    have e2 : (2 : Int) ^ k * (2 * (q / 2)) = 2 ^ k * 2 * (q / 2) := by rw [Int.mul_assoc]
    have e3 : (2 : Int) ^ k * (q % 2) = q % 2 * 2 ^ k := Int.mul_comm _ _
    omega
  have h6 : q % 2 = 0 ∨ q % 2 = 1 := by omega
  have h7 : 0 ≤ q % 2 * 2 ^ k + r ∧ q % 2 * 2 ^ k + r < 2 ^ (k + 1) := by
    rw [Int.pow_succ]
    rcases h6 with h | h <;> rw [h] <;> omega
  rw [h5, Int.add_mul_emod_self_left]
  exact Int.emod_eq_of_lt h7.1 h7.2
theorem val_bin : ∀ (k : Nat) (x : Int), val (bin k x) = x % 2 ^ k
  | 0, x => by simp [bin, val]
  | k + 1, x => by rw [bin, val_cons, bin_len, val_bin k x, mod_succ]
theorem val_bin_lt (k : Nat) (x : Int) (h0 : 0 ≤ x) (h1 : x < 2 ^ k) : val (bin k x) = x := by
  rw [val_bin]; exact Int.emod_eq_of_lt h0 h1
theorem bin_add : ∀ (j k : Nat) (a v : Int), j ≤ k → bin j (a * 2 ^ k + v) = bin j v
  | 0, _, _, _, _ => rfl
  | j + 1, k, a, v, h => by
    have ih := bin_add j k a v (by omega)
    have hp := two_pos j
    have e : (a * 2 ^ k + v) / 2 ^ j % 2 = v / 2 ^ j % 2 := by
      obtain ⟨d, rfl⟩ : ∃ d, k = j + 1 + d := ⟨k - (j + 1), by omega⟩
      have e1 : a * 2 ^ (j + 1 + d) = 2 ^ j * (2 * (a * 2 ^ d)) := by
        rw [Int.pow_add, Int.pow_succ, Int.mul_assoc, ← Int.mul_assoc a, Int.mul_comm a, Int.mul_assoc, Int.mul_left_comm a]
      rw [e1, Int.add_comm, Int.add_mul_ediv_left _ _ (by omega)]
      omega
    show (a * 2 ^ k + v) / 2 ^ j % 2 :: bin j (a * 2 ^ k + v) = _
    rw [e, ih]; rfl
theorem bin_val : ∀ (l : List Int), (∀ y ∈ l, y = 0 ∨ y = 1) → bin l.length (val l) = l
  | [], _ => rfl
  | y :: l, h => by
    have ih := bin_val l (fun z hz => h z (List.mem_cons_of_mem _ hz))
    have hy := h y List.mem_cons_self
    have hb := val_bd l (fun z hz => h z (List.mem_cons_of_mem _ hz))
    have hp := two_pos l.length
    show (val (y :: l) / 2 ^ l.length % 2) :: bin l.length (val (y :: l)) = y :: l
    rw [val_cons, bin_add l.length l.length y (val l) (Nat.le_refl _), ih]
    congr 1
    rw [Int.mul_comm, Int.add_comm, Int.add_mul_ediv_left _ _ (by omega), Int.ediv_eq_zero_of_lt hb.1 hb.2]
    omega
theorem oidxFrom_at : ∀ (l : List Int) (i c : Int), 0 ≤ i → 0 ≤ oidxFrom l i c → l.getD (oidxFrom l i c - i).toNat 0 = c ∧ i ≤ oidxFrom l i c
  | [], i, c, h, h0 => by simp [oidxFrom] at h0
  | o :: os, i, c, h, h0 => by
    unfold oidxFrom at h0 ⊢
    by_cases hc : o = c
    · simp only [if_pos hc] at h0 ⊢
      simp [hc]
    · simp only [if_neg hc] at h0 ⊢
      have ih := oidxFrom_at os (i + 1) c (by omega) h0
      refine ⟨?_, by omega⟩
      have e : (oidxFrom os (i + 1) c - i).toNat = (oidxFrom os (i + 1) c - (i + 1)).toNat + 1 := by omega
      rw [e, List.getD_cons_succ]
      exact ih.1
theorem oft_oidx (c : Int) (h : 0 ≤ oidx c) : oft.getD (oidx c).toNat 0 = c := by
  have h1 := (oidxFrom_at oft 0 c (by decide) h).1
  rw [Int.sub_zero] at h1
  exact h1
theorem oidx_oft (j : Nat) (h : j < 32) : oidx (oft.getD j 0) = j := by
  have h1 : ∀ j : Fin 32, oidx (oft.getD j.val 0) = (j.val : Int) := by decide
  exact h1 ⟨j, h⟩
/-- EVERY TEXT COMES BACK, of its bits, with at most seven ones behind them. -/
theorem dec_bits : ∀ (s : List Int) (m : Nat), (∀ c ∈ s, 0 ≤ c ∧ c < 256) → m ≤ 7 → dec (bitsL s ++ List.replicate m 1) = some s
  | [], m, _, hm => by
    match m with
    | 0 => rfl
    | m + 1 =>
      show dec (1 :: List.replicate m 1) = some []
      rw [dec_end 1 _ (by omega) (by simp; omega), if_neg]
      simp
      omega
  | c :: s, m, hb, hm => by
    have ih := dec_bits s m (fun c hc => hb c (List.mem_cons_of_mem _ hc)) hm
    have hc := hb c List.mem_cons_self
    have ob := oidx_bd c
    rw [bitsL_cons, List.append_assoc]
    generalize bitsL s ++ List.replicate m 1 = R at ih
    unfold code1
    by_cases ho : 0 ≤ oidx c
    · rw [if_pos ho]
      show dec (0 :: (bin 5 (oidx c) ++ R)) = _
      rw [dec_often 0 _ ⟨rfl, by rw [List.length_append, bin_len]; omega⟩]
      have e1 : (bin 5 (oidx c) ++ R).take 5 = bin 5 (oidx c) := List.take_left' (bin_len _ _)
      have e2 : (bin 5 (oidx c) ++ R).drop 5 = R := List.drop_left' (bin_len _ _)
      rw [e1, e2, ih, val_bin_lt 5 _ ho (by simpa using ob.2), oft_oidx c ho]
      rfl
    · rw [if_neg ho]
      show dec (1 :: (bin 8 c ++ R)) = _
      have e1 : (bin 8 c ++ R).take 8 = bin 8 c := List.take_left' (bin_len _ _)
      have e2 : (bin 8 c ++ R).drop 8 = R := List.drop_left' (bin_len _ _)
      have e3 : val (bin 8 c) = c := val_bin_lt 8 c hc.1 (by simpa using hc.2)
      rw [dec_rare 1 _ ⟨rfl, by rw [List.length_append, bin_len]; omega⟩ (by rw [e1, e3]; exact ho), e1, e2, ih, e3]
      rfl
theorem unpack_pack : ∀ (k : Nat) (l : List Int), l.length = 8 * k → (∀ y ∈ l, y = 0 ∨ y = 1) → unpack (pack k l) = l
  | 0, l, h, _ => by
    have e : l = [] := List.eq_nil_of_length_eq_zero (by omega)
    subst e; rfl
  | k + 1, l, h, hb => by
    have ih := unpack_pack k (l.drop 8) (by rw [List.length_drop]; omega) (fun y hy => hb y (List.drop_subset _ _ hy))
    have ht : (l.take 8).length = 8 := by rw [List.length_take]; omega
    have h1 := bin_val (l.take 8) (fun y hy => hb y (List.take_subset _ _ hy))
    rw [ht] at h1
    show bin 8 (val (l.take 8)) ++ unpack (pack k (l.drop 8)) = l
    rw [h1, ih, List.take_append_drop]
theorem pack_unpack : ∀ (b : List Int), (∀ c ∈ b, 0 ≤ c ∧ c < 256) → pack b.length (unpack b) = b
  | [], _ => rfl
  | c :: b, h => by
    have ih := pack_unpack b (fun c hc => h c (List.mem_cons_of_mem _ hc))
    have hc := h c List.mem_cons_self
    show val ((bin 8 c ++ unpack b).take 8) :: pack b.length ((bin 8 c ++ unpack b).drop 8) = c :: b
    rw [List.take_left' (bin_len _ _), List.drop_left' (bin_len _ _), ih, val_bin_lt 8 c hc.1 (by simpa using hc.2)]
/-- EVERY TEXT COMES BACK. -/
theorem dec_code (s : List Int) (hb : ∀ c ∈ s, 0 ≤ c ∧ c < 256) : decF (codeL s) = some s := by
  have hl := fill_len (bitsL s)
  have h8 : (fill (bitsL s)).length = 8 * ((fill (bitsL s)).length / 8) := by omega
  rw [decF_dec]
  unfold codeL
  rw [unpack_pack _ _ h8 (fill_bit _ (bitsL_bit s))]
  exact dec_bits s _ hb (by omega)
theorem code_len (s : List Int) : (codeL s).length = ((bitsL s).length + 7) / 8 := by
  unfold codeL
  rw [pack_len, fill_len]; omega
theorem all_ones : ∀ (l : List Int), (∀ y ∈ l, y = 0 ∨ y = 1) → (0 : Int) ∉ l → l = List.replicate l.length 1
  | [], _, _ => rfl
  | y :: l, h, h0 => by
    have ih := all_ones l (fun z hz => h z (List.mem_cons_of_mem _ hz)) (fun hz => h0 (List.mem_cons_of_mem _ hz))
    have hy : y = 1 := by
      rcases h y List.mem_cons_self with rfl | h1
      · exact absurd List.mem_cons_self h0
      · exact h1
    rw [List.length_cons, List.replicate_succ, ← ih, hy]
/-- What bits are read as is written as these, but for what fills up. -/
theorem bits_dec : ∀ (n : Nat) (l : List Int), l.length ≤ n → (∀ y ∈ l, y = 0 ∨ y = 1) → ∀ v, dec l = some v → ∃ m, m ≤ 7 ∧ l = bitsL v ++ List.replicate m 1
  | n, [], _, _, v, h => by
    rw [dec_nil] at h
    obtain rfl := Option.some.inj h
    exact ⟨0, by decide, rfl⟩
  | 0, y :: r, hn, _, _, _ => by simp at hn
  | n + 1, y :: r, hn, hb, v, h => by
    simp at hn
    have hbr : ∀ z ∈ r, z = 0 ∨ z = 1 := fun z hz => hb z (List.mem_cons_of_mem _ hz)
    by_cases c1 : y = 0 ∧ 5 ≤ r.length
    · rw [dec_often y r c1] at h
      obtain ⟨t, ht, rfl⟩ := Option.map_eq_some_iff.1 h
      obtain ⟨m, hm, e⟩ := bits_dec n (r.drop 5) (by rw [List.length_drop]; omega) (fun z hz => hbr z (List.drop_subset _ _ hz)) t ht
      have hl : (r.take 5).length = 5 := by rw [List.length_take]; omega
      have hvb := val_bd (r.take 5) (fun z hz => hbr z (List.take_subset _ _ hz))
      have hbv := bin_val (r.take 5) (fun z hz => hbr z (List.take_subset _ _ hz))
      rw [hl] at hvb hbv
      have hv : val (r.take 5) < 32 := by simpa using hvb.2
      have ho : oidx (oft.getD (val (r.take 5)).toNat 0) = val (r.take 5) := by
        rw [oidx_oft _ (by omega)]; omega
      refine ⟨m, hm, ?_⟩
      rw [bitsL_cons, List.append_assoc, ← e]
      unfold code1
      rw [ho, if_pos hvb.1, hbv, c1.1]
      show 0 :: r = 0 :: (r.take 5 ++ r.drop 5)
      rw [List.take_append_drop]
    · by_cases c2 : y = 1 ∧ 8 ≤ r.length
      · by_cases ho : 0 ≤ oidx (val (r.take 8))
        · rw [dec_wrong y r c2 ho] at h; cases h
        · rw [dec_rare y r c2 ho] at h
          obtain ⟨t, ht, rfl⟩ := Option.map_eq_some_iff.1 h
          obtain ⟨m, hm, e⟩ := bits_dec n (r.drop 8) (by rw [List.length_drop]; omega) (fun z hz => hbr z (List.drop_subset _ _ hz)) t ht
          have hl : (r.take 8).length = 8 := by rw [List.length_take]; omega
          have hbv := bin_val (r.take 8) (fun z hz => hbr z (List.take_subset _ _ hz))
          rw [hl] at hbv
          refine ⟨m, hm, ?_⟩
          rw [bitsL_cons, List.append_assoc, ← e]
          unfold code1
          rw [if_neg ho, hbv, c2.1]
          show 1 :: r = 1 :: (r.take 8 ++ r.drop 8)
          rw [List.take_append_drop]
      · rw [dec_end y r c1 c2] at h
        by_cases c3 : 7 < (y :: r).length ∨ (0 : Int) ∈ y :: r
        · rw [if_pos c3] at h; cases h
        · rw [if_neg c3] at h
          obtain rfl := Option.some.inj h
          refine ⟨(y :: r).length, by omega, ?_⟩
          exact all_ones (y :: r) hb (fun hz => c3 (Or.inr hz))
/-- What any bytes are read as is written as these. -/
theorem code_dec (b v : List Int) (hb : ∀ c ∈ b, 0 ≤ c ∧ c < 256) (h : decF b = some v) : codeL v = b := by
  rw [decF_dec] at h
  obtain ⟨m, hm, e⟩ := bits_dec _ (unpack b) (Nat.le_refl _) (unpack_bit b) v h
  have hl := congrArg List.length e
  rw [unpack_len, List.length_append, List.length_replicate] at hl
  have em : m = (8 - (bitsL v).length % 8) % 8 := by omega
  have ef : fill (bitsL v) = unpack b := by
    unfold fill; rw [← em]; exact e.symm
  unfold codeL
  rw [ef, unpack_len, Nat.mul_div_cancel_left _ (by decide)]
  exact pack_unpack b hb
end Go.Proofs.YtkjfhgoddhigmacGreatDoor
/-
  TEXTS AS BYTES, and bytes as texts: mathematics. No claim by itself.
-/
namespace Go.Proofs.YtkjfhgoddhigmacGreatDoor
/-- A text's bytes. -/
def txtL (s : List Int) : List Int := if (codeL s).length < s.length then putL (codeL s).length 7 128 ++ codeL s else putL s.length 7 0 ++ s
/-- What is read of so many bytes, once they are decoded. -/
def rtE (Z : List Int) (m : Nat) : Option (List Int) → List Int × Int × Int
  | none => ([], 0, 2)
  | some s => if 400 < s.length then ([], 0, 4) else if txtL s = Z.take m then (s, (m : Int), 0) else ([], 0, 2)
theorem rtE_long (Z s : List Int) (m : Nat) (h : 400 < s.length) : rtE Z m (some s) = ([], 0, 4) := by
  show (if _ then _ else _) = _; rw [if_pos h]
theorem rtE_ok (Z s : List Int) (m : Nat) (h : s.length ≤ 400) (e : txtL s = Z.take m) : rtE Z m (some s) = (s, (m : Int), 0) := by
  show (if _ then _ else _) = _; rw [if_neg (by omega), if_pos e]
theorem rtE_bad (Z s : List Int) (m : Nat) (h : s.length ≤ 400) (e : ¬ txtL s = Z.take m) : rtE Z m (some s) = ([], 0, 2) := by
  show (if _ then _ else _) = _; rw [if_neg (by omega), if_neg e]
/-- What is read where so many bytes follow behind so many. -/
def rtB (Z : List Int) (n u : Nat) : List Int × Int × Int := rtE Z (u + n) (if 127 < Z.getD 0 0 then decF ((Z.drop u).take n) else some ((Z.drop u).take n))
/-- The text that bytes begin with: the text, how many bytes, the fault. -/
def rtF (Z : List Int) : List Int × Int × Int :=
  if (getF Z 7).2.2 ≠ 0 then ([], 0, (getF Z 7).2.2) else if 400 < (getF Z 7).1 then ([], 0, 4)
  else if (Z.length : Int) - (getF Z 7).2.1 < (getF Z 7).1 then ([], 0, 8) else rtB Z (getF Z 7).1.toNat (getF Z 7).2.1.toNat
theorem getR_bd : ∀ (Z : List Int) (i : Nat) (n : Int), 0 ≤ n → (getR Z i n).2.2 = 0 → 0 ≤ (getR Z i n).1 ∧ (i : Int) + 2 ≤ (getR Z i n).2.1 ∧ (getR Z i n).2.1 ≤ i + 1 + Z.length
  | [], _, _, _, h => by simp [getR] at h
  | c :: cs, i, n, hn, h => by
    unfold getR at h ⊢
    split at h
    · simp at h
    · rename_i h1
      rw [if_neg h1]
      split at h
      · simp at h
      · rename_i h2
        rw [if_neg h2]
        have hp : 0 ≤ c % 128 * 128 ^ i := Int.mul_nonneg (by omega) (Int.pow_nonneg (by decide))
        split at h
        · rename_i h3
          rw [if_pos h3]
          refine ⟨by show 0 ≤ n + _; omega, by show (i : Int) + 2 ≤ (i : Int) + 2; omega, ?_⟩
          show (i : Int) + 2 ≤ _
          simp; omega
        · rename_i h3
          rw [if_neg h3]
          have ih := getR_bd cs (i + 1) (n + c % 128 * 128 ^ i) (by omega) h
          simp at ih ⊢
          omega
theorem getF_bd (Z : List Int) (b : Int) (h1 : 1 ≤ b) (h2 : b ≤ 8) (h : (getF Z b).2.2 = 0) : 0 ≤ (getF Z b).1 ∧ 1 ≤ (getF Z b).2.1 ∧ (getF Z b).2.1 ≤ Z.length := by
  have gb := gr_bd b h1 h2
  unfold getF at h ⊢
  rw [if_neg (by omega)] at h ⊢
  match Z, h with
  | [], h => simp at h
  | z :: zs, h =>
    simp only at h ⊢
    split at h
    · rename_i h3
      rw [if_pos h3]
      refine ⟨by show 0 ≤ z % (gr b + 1); exact Int.emod_nonneg _ (by omega), by show (1 : Int) ≤ 1; omega, ?_⟩
      show (1 : Int) ≤ _
      simp; omega
    · rename_i h3
      rw [if_neg h3]
      have := getR_bd zs 0 (gr b) (by omega) h
      simp at this ⊢
      omega
theorem getR_used : ∀ (Z : List Int) (i : Nat) (n : Int), 0 ≤ (getR Z i n).2.1 ∧ (getR Z i n).2.1 ≤ i + 1 + Z.length
  | [], _, _ => by simp [getR]; omega
  | c :: cs, i, n => by
    unfold getR
    split
    · simp; omega
    · split
      · simp; omega
      · split
        · simp; omega
        · have ih := getR_used cs (i + 1) (n + c % 128 * 128 ^ i)
          simp at ih ⊢
          omega
theorem getF_used (Z : List Int) (b : Int) : 0 ≤ (getF Z b).2.1 ∧ (getF Z b).2.1 ≤ Z.length := by
  unfold getF
  split
  · simp
  · match Z with
    | [] => simp
    | z :: zs =>
      simp only
      split
      · simp; omega
      · have := getR_used zs 0 (gr b)
        simp at this ⊢
        omega
theorem getF_nil : getF [] 7 = (0, 0, 8) := by decide
theorem txt_len (s : List Int) (h : s.length ≤ 400) : 1 ≤ (txtL s).length ∧ (txtL s).length ≤ 406 := by
  unfold txtL
  split
  · have h1 := putL_len ((codeL s).length : Int) 7 128
    rw [List.length_append]; omega
  · have h1 := putL_len (s.length : Int) 7 0
    rw [List.length_append]; omega
end Go.Proofs.YtkjfhgoddhigmacGreatDoor
/-
  ROWS OF BYTES: what is known of them, later too. No claim by itself.
-/
namespace Go.Proofs.YtkjfhgoddhigmacGreatDoor
open Go.RowKit
/-- The numbers in a row of bytes. -/
structure Row (w : World) (g off len cap : Nat) (Z : List Int) : Prop where
  hlen : Z.length = len
  hcap : len ≤ cap
  hmax : cap ≤ maxLen
  hcell : ∀ t, t < len → w.cell? ⟨g, off + t, none⟩ = some (.int .u8 (Z.getD t 0))
  hbyte : ∀ t, 0 ≤ Z.getD t 0 ∧ Z.getD t 0 < 256
theorem Row.below {w w' : World} {g off len cap : Nat} {Z : List Int} (h : Row w g off len cap Z) (hb : Below w.heap.size w w') : Row w' g off len cap Z := by
  refine ⟨h.hlen, h.hcap, h.hmax, fun t ht => ?_, h.hbyte⟩
  have hc := h.hcell t ht
  have hlt : g < w.heap.size := by
    rcases Nat.lt_or_ge g w.heap.size with h1 | h1
    · exact h1
    · simp [World.cell?, Array.getElem?_eq_none h1] at hc
  exact (hb.cell (p := ⟨g, off + t, none⟩) hlt).trans hc
theorem own_below {w w' : World} {base n : Nat} {v : Value} {xs : List Value} (h : w.ownsRow base 5 1 v n xs) (hb : Below w.heap.size w w') : w'.ownsRow base 5 1 v n xs := by
  obtain ⟨h1, h2 | ⟨g, cap, cur, hv, hg, hc, r⟩⟩ := h
  · exact ⟨h1, Or.inl h2⟩
  · have hlt : g < w.heap.size := by
      rcases Nat.lt_or_ge g w.heap.size with h3 | h3
      · exact h3
      · rw [Array.getElem?_eq_none h3] at hc; simp at hc
    exact ⟨h1, Or.inr ⟨g, cap, cur, hv, hg, by rw [hb.block g hlt]; exact hc, r⟩⟩
theorem row_of {w : World} {base l cap g : Nat} {L : List Int} (hl : L.length = l) (h : w.ownsRow base 5 1 (.slice (some ⟨g, 0, none⟩) l cap) l (L.map (Value.int .u8))) (hb : ∀ x ∈ L, 0 ≤ x ∧ x < 256) : Row w g 0 l cap L := by
  have hcap : l ≤ cap ∧ cap ≤ maxLen := by
    obtain ⟨_, ⟨hv, _⟩ | ⟨g', cap', cur, hv, _, _, hc, hm, _⟩⟩ := h
    · cases hv
    · cases hv; exact ⟨hc, hm⟩
  refine ⟨hl, hcap.1, hcap.2, fun t ht => ?_, fun t => ?_⟩
  · have hc := h.cellAt t (by omega)
    rw [Nat.zero_add, hc]
    simp [List.getElem?_eq_getElem (show t < L.length by omega)]
  · by_cases ht : t < L.length
    · have hmem : L.getD t 0 ∈ L := by
        rw [List.getD, List.getElem?_eq_getElem ht]
        exact List.getElem_mem _
      exact hb _ hmem
    · have e : L.getD t 0 = 0 := by simp [List.getD, List.getElem?_eq_none (show L.length ≤ t by omega)]
      rw [e]; decide
theorem Row.take {w : World} {g off len cap : Nat} {Z : List Int} (h : Row w g off len cap Z) (s : Nat) (hs : s ≤ len) : Row w g off s cap (Z.take s) := by
  have hl := h.hlen
  have hc := h.hcap
  refine ⟨by simp; omega, by omega, h.hmax, fun t ht => ?_, fun t => ?_⟩
  · have e : (Z.take s).getD t 0 = Z.getD t 0 := by simp [List.getD, ht]
    rw [e]; exact h.hcell t (by omega)
  · by_cases ht : t < s
    · have e : (Z.take s).getD t 0 = Z.getD t 0 := by simp [List.getD, ht]
      rw [e]; exact h.hbyte t
    · have e : (Z.take s).getD t 0 = 0 := by simp [List.getD, List.getElem?_take, ht]
      rw [e]; decide
end Go.Proofs.YtkjfhgoddhigmacGreatDoor
