/-
  PLAIN MATHEMATICS for the proofs of this seat: what is written is read. Nothing of the program stands here. No claim by itself.
-/
import Derived.Test.YtcdppodkabilmaaDoorMath2
namespace Go.Proofs.YtcdppodkabilmaaDoor
open Go
theorem split128 (r P : Int) : r % 128 * P + r / 128 * (P * 128) = r * P := by
  have h : r = 128 * (r / 128) + r % 128 := by omega
  have e1 : r / 128 * (P * 128) = 128 * (r / 128) * P := by rw [Int.mul_comm P 128, ← Int.mul_assoc, Int.mul_comm (r / 128) 128]
  have e2 : r % 128 * P + 128 * (r / 128) * P = (r % 128 + 128 * (r / 128)) * P := by rw [Int.add_mul]
  rw [e1, e2]
  congr 1
  omega
theorem pow_pos (i : Nat) : (0 : Int) < 128 ^ i := by
  have h2 : (0 : Nat) < 128 ^ i := Nat.pos_of_ne_zero (by simp)
  have e : ((128 ^ i : Nat) : Int) = (128 : Int) ^ i := by simp
  omega
/-- What is written behind a full first byte is read, whatever stands behind it. -/
theorem getR_rest (Z : List Int) : ∀ (k i : Nat) (r acc : Int), fits k r → 0 ≤ r → i + k = 5 → 0 ≤ acc → acc + r * 128 ^ i ≤ 2147483647 → (i = 0 ∨ 0 < r) →
    getR (rest k r ++ Z) i acc = (acc + r * 128 ^ i, (i : Int) + 1 + (rest k r).length, 0)
  | 0, _, _, _, hf, _, _, _, _, _ => absurd hf.1 (by decide)
  | k + 1, i, r, acc, hf, h0, hi, ha, hm, hz => by
    have hP := pow_pos i
    by_cases hr : r < 128
    · rw [rest_last (k + 1) r hf hr]
      have e : r % 128 = r := by omega
      show getR (r :: Z) i acc = _
      unfold getR
      rw [e, if_neg (by omega), if_neg (by omega), if_pos hr]
      simp
      omega
    · obtain ⟨j, hj, hfj, hs⟩ := rest_step (k + 1) r hf (by omega)
      obtain rfl : k = j := by omega
      rw [hs]
      have hsp := split128 r (128 ^ i)
      have hq : 0 ≤ r / 128 * (128 ^ i * 128) := Int.mul_nonneg (by omega) (by omega)
      have hd : 0 ≤ r % 128 * 128 ^ i := Int.mul_nonneg (by omega) (by omega)
      have hi4 : ¬ i = 4 := by
        intro h
        have hk0 : k = 0 := by omega
        subst hk0
        exact absurd hfj.1 (by decide)
      have ih := getR_rest Z k (i + 1) (r / 128) (acc + r % 128 * 128 ^ i) hfj (by omega) (by omega) (by omega) (by rw [Int.pow_succ]; omega) (Or.inr (by omega))
      show getR ((r % 128 + 128) :: (rest k (r / 128) ++ Z)) i acc = _
      unfold getR
      have e : (r % 128 + 128) % 128 = r % 128 := by omega
      rw [e, if_neg (by omega), if_neg (by omega), if_neg (by omega), ih, Int.pow_succ]
      simp only [List.length_cons, Prod.mk.injEq, and_true]
      constructor
      · omega
      · push_cast; omega
/-- Cut off anywhere, it is not whole. -/
theorem getR_cut : ∀ (k i : Nat) (r acc : Int) (j : Nat), fits k r → 0 ≤ r → i + k = 5 → 0 ≤ acc → acc + r * 128 ^ i ≤ 2147483647 → j < (rest k r).length →
    getR ((rest k r).take j) i acc = (0, 0, 8)
  | 0, _, _, _, _, hf, _, _, _, _, _ => absurd hf.1 (by decide)
  | k + 1, i, r, acc, j, hf, h0, hi, ha, hm, hj => by
    have hP := pow_pos i
    match j with
    | 0 => rfl
    | j + 1 =>
      by_cases hr : r < 128
      · rw [rest_last (k + 1) r hf hr] at hj
        simp at hj
      · obtain ⟨j', hj', hfj, hs⟩ := rest_step (k + 1) r hf (by omega)
        obtain rfl : k = j' := by omega
        rw [hs] at hj ⊢
        have hsp := split128 r (128 ^ i)
        have hq : 0 ≤ r / 128 * (128 ^ i * 128) := Int.mul_nonneg (by omega) (by omega)
        have hd : 0 ≤ r % 128 * 128 ^ i := Int.mul_nonneg (by omega) (by omega)
        have hi4 : ¬ i = 4 := by
          intro h
          have hk0 : k = 0 := by omega
          subst hk0
          exact absurd hfj.1 (by decide)
        have ih := getR_cut k (i + 1) (r / 128) (acc + r % 128 * 128 ^ i) j hfj (by omega) (by omega) (by omega) (by rw [Int.pow_succ]; omega) (by simpa using hj)
        show getR ((r % 128 + 128) :: (rest k (r / 128)).take j) i acc = _
        unfold getR
        have e : (r % 128 + 128) % 128 = r % 128 := by omega
        rw [e, if_neg (by omega), if_neg (by omega), if_neg (by omega), ih]
theorem fits_of (r : Int) (h : r ≤ 2147483647) : fits 5 r := ⟨by decide, by omega⟩
/-- WHAT IS WRITTEN IS READ. -/
theorem get_put (n b : Int) (Z : List Int) (hok : putOk n b 0) : getF (putL n b 0 ++ Z) b = (n, ((putL n b 0).length : Int), 0) := by
  obtain ⟨n0, n1, b1, b2, _, _, _⟩ := hok
  have gb := gr_bd b b1 b2
  by_cases h : n < gr b
  · rw [putL_small n b 0 h]
    have e : (0 + n) % (gr b + 1) = n := by rw [Int.zero_add]; exact Int.emod_eq_of_lt n0 (by omega)
    show getF ((0 + n) :: Z) b = _
    unfold getF
    rw [if_neg (by omega)]
    simp only [e, if_pos h]
    rfl
  · rw [putL_big n b 0 (by omega)]
    have e : (0 + gr b) % (gr b + 1) = gr b := by rw [Int.zero_add]; exact Int.emod_eq_of_lt (by omega) (by omega)
    have hg := getR_rest Z 5 0 (n - gr b) (gr b) (fits_of _ (by omega)) (by omega) rfl (by omega) (by simp; omega) (Or.inl rfl)
    show getF ((0 + gr b) :: (rest 5 (n - gr b) ++ Z)) b = _
    unfold getF
    rw [if_neg (by omega)]
    simp only [e, if_neg (Int.lt_irrefl _), hg]
    simp
    omega
theorem get_cut (n b : Int) (j : Nat) (hok : putOk n b 0) (hj : j < (putL n b 0).length) : getF ((putL n b 0).take j) b = (0, 0, 8) := by
  obtain ⟨n0, n1, b1, b2, _, _, _⟩ := hok
  have gb := gr_bd b b1 b2
  match j with
  | 0 =>
    show getF [] b = _
    unfold getF
    rw [if_neg (by omega)]
  | j + 1 =>
    by_cases h : n < gr b
    · rw [putL_small n b 0 h] at hj
      simp at hj
    · rw [putL_big n b 0 (by omega)] at hj ⊢
      have e : (0 + gr b) % (gr b + 1) = gr b := by rw [Int.zero_add]; exact Int.emod_eq_of_lt (by omega) (by omega)
      have hg := getR_cut 5 0 (n - gr b) (gr b) j (fits_of _ (by omega)) (by omega) rfl (by omega) (by simp; omega) (by simpa using hj)
      show getF ((0 + gr b) :: (rest 5 (n - gr b)).take j) b = _
      unfold getF
      rw [if_neg (by omega)]
      simp only [e, if_neg (Int.lt_irrefl _), hg]
/-- What is read behind a full first byte is written as these bytes. -/
theorem getR_back : ∀ (zs : List Int) (i : Nat) (acc m u : Int), (∀ t, 0 ≤ zs.getD t 0 ∧ zs.getD t 0 < 256) → i ≤ 4 → 0 ≤ acc → getR zs i acc = (m, u, 0) →
    ∃ (r : Int) (l : Nat), 0 ≤ r ∧ m = acc + r * 128 ^ i ∧ m ≤ 2147483647 ∧ fits (5 - i) r ∧ (i = 0 ∨ 0 < r) ∧ u = (i : Int) + 1 + l ∧ l ≤ zs.length ∧ rest (5 - i) r = zs.take l
  | [], _, _, _, _, _, _, _, h => by simp [getR] at h
  | c :: cs, i, acc, m, u, hb, hi, ha, h => by
    have hP := pow_pos i
    have hc : 0 ≤ c ∧ c < 256 := by simpa using hb 0
    have hbs : ∀ t, 0 ≤ cs.getD t 0 ∧ cs.getD t 0 < 256 := fun t => by simpa using hb (t + 1)
    unfold getR at h
    by_cases h1 : 2147483647 < acc + c % 128 * 128 ^ i ∨ i = 4 ∧ 128 ≤ c
    · rw [if_pos h1] at h; simp at h
    · rw [if_neg h1] at h
      by_cases h2 : 0 < i ∧ c = 0
      · rw [if_pos h2] at h; simp at h
      · rw [if_neg h2] at h
        by_cases h3 : c < 128
        · rw [if_pos h3] at h
          simp only [Prod.mk.injEq, and_true] at h
          obtain ⟨rfl, rfl⟩ := h
          have e : c % 128 = c := by omega
          have hf : fits (5 - i) c := ⟨by omega, by
            have h5 : (128 : Nat) ^ 1 ≤ 128 ^ (5 - i) := Nat.pow_le_pow_right (by decide) (by omega)
            have h6 : ((128 ^ (5 - i) : Nat) : Int) = (128 : Int) ^ (5 - i) := by simp
            omega⟩
          exact ⟨c, 1, hc.1, by rw [e], by omega, hf, by omega, by omega, by simp, by rw [rest_last _ _ hf h3]; rfl⟩
        · rw [if_neg h3] at h
          have hd : 0 ≤ c % 128 * 128 ^ i := Int.mul_nonneg (by omega) (by omega)
          obtain ⟨r, l, r0, e1, e2, hf, hz, e3, hl, e4⟩ := getR_back cs (i + 1) (acc + c % 128 * 128 ^ i) m u hbs (by omega) (by omega) h
          have rp : 0 < r := by omega
          have e5 : 5 - i = (5 - (i + 1)) + 1 := by omega
          have hq : (r * 128 + c % 128) / 128 = r := by omega
          have hm : (r * 128 + c % 128) % 128 = c % 128 := by omega
          have hsp := split128 (r * 128 + c % 128) (128 ^ i)
          rw [hq, hm] at hsp
          have hff : fits (5 - i) (r * 128 + c % 128) := by
            refine ⟨by omega, ?_⟩
            rw [e5, Int.pow_succ]
            have := hf.2
            omega
          refine ⟨r * 128 + c % 128, l + 1, by omega, ?_, e2, hff, Or.inr (by omega), by push_cast at e3 ⊢; omega, by simp; omega, ?_⟩
          · rw [e1, Int.pow_succ]; omega
          · obtain ⟨j, hj, _, hs⟩ := rest_step (5 - i) (r * 128 + c % 128) hff (by omega)
            have ej : j = 5 - (i + 1) := by omega
            rw [hs, hq, hm, ej, e4]
            simp
            omega
/-- WHAT IS READ IS WRITTEN AS THESE BYTES, with their high bits. -/
theorem put_get (z : Int) (zs : List Int) (b m u : Int) (hb : ∀ t, 0 ≤ (z :: zs).getD t 0 ∧ (z :: zs).getD t 0 < 256) (h : getF (z :: zs) b = (m, u, 0)) :
    putOk m b (z / (gr b + 1) * (gr b + 1)) ∧ ∃ l : Nat, u = l ∧ l ≤ (z :: zs).length ∧ putL m b (z / (gr b + 1) * (gr b + 1)) = (z :: zs).take l := by
  have hz : 0 ≤ z ∧ z < 256 := by simpa using hb 0
  have hbs : ∀ t, 0 ≤ zs.getD t 0 ∧ zs.getD t 0 < 256 := fun t => by simpa using hb (t + 1)
  unfold getF at h
  by_cases c1 : b < 1 ∨ 8 < b
  · rw [if_pos c1] at h; simp at h
  · rw [if_neg c1] at h
    have b1 : 1 ≤ b := by omega
    have b2 : b ≤ 8 := by omega
    have gb := gr_bd b b1 b2
    have hdiv : z / (gr b + 1) * (gr b + 1) + z % (gr b + 1) = z := by rw [Int.mul_comm]; exact Int.mul_ediv_add_emod z _
    have hm0 := Int.emod_nonneg z (show gr b + 1 ≠ 0 by omega)
    have hm1 := Int.emod_lt_of_pos z (show 0 < gr b + 1 by omega)
    have hf0 : 0 ≤ z / (gr b + 1) * (gr b + 1) := Int.mul_nonneg (Int.ediv_nonneg hz.1 (by omega)) (by omega)
    have hfm : z / (gr b + 1) * (gr b + 1) % (gr b + 1) = 0 := Int.mul_emod_left _ _
    simp only at h
    by_cases c2 : z % (gr b + 1) < gr b
    · rw [if_pos c2] at h
      simp only [Prod.mk.injEq, and_true] at h
      obtain ⟨rfl, rfl⟩ := h
      refine ⟨⟨hm0, by omega, b1, b2, hf0, by omega, hfm⟩, 1, rfl, by simp, ?_⟩
      rw [putL_small _ _ _ c2, hdiv]; rfl
    · rw [if_neg c2] at h
      obtain ⟨r, l, r0, e1, e2, hf, _, e3, hl, e4⟩ := getR_back zs 0 (gr b) m u hbs (by omega) (by omega) h
      simp at e1 e3 e4
      refine ⟨⟨by omega, e2, b1, b2, hf0, by omega, hfm⟩, l + 1, by omega, by simp; omega, ?_⟩
      rw [putL_big _ _ _ (by omega), show m - gr b = r from by omega, e4, show z / (gr b + 1) * (gr b + 1) + gr b = z from by omega]
      rfl
theorem read_big (m : Int) (h0 : 0 ≤ m) (h1 : m ≤ 2147483647) : readF (bigL 4 m) 4 = (m, 0) := by
  have e : word ((bigL 4 m).take 4) = m := by
    simp [bigL, word]
    omega
  unfold readF
  have el : ((bigL 4 m).length : Int) = 4 := by rw [bigL_len]; rfl
  have et : (4 : Int).toNat = 4 := rfl
  rw [if_neg (by omega), if_neg (by omega), et, e, if_neg (by omega)]
end Go.Proofs.YtcdppodkabilmaaDoor
