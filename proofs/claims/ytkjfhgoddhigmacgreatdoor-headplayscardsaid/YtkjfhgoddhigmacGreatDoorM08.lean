/-
  WHAT A CODER HOLDS, whatever its memory looks like. No claim by itself.
-/
import Derived.Laws.AppendOwn
import Derived.Deep.AppendLies
import Derived.Laws.BytesArg
import Derived.Test.YtkjfhgoddhigmacGreatDoorM05
import Derived.Test.YtkjfhgoddhigmacGreatDoorM07
import Derived.Test.YtkjfhgoddhigmacGreatDoorM06
namespace Go.Proofs.YtkjfhgoddhigmacGreatDoor
open Go.RowKit
/-- What a coder holds: both tables, the size at first, the sizes that were asked for, whether it is of no use for reading. -/
structure CSt where
  mo : Int
  mi : Int
  most : Int
  AO : List (ByteArray × ByteArray)
  AI : List (ByteArray × ByteArray)
  sz : List Int
  bad : Bool
/-- What may be. -/
structure CFit (st : CSt) : Prop where
  out : Fit st.mo st.AO
  inn : Fit st.mi st.AI
  hmost : 0 ≤ st.most ∧ st.most ≤ 4096
  hsz : ∀ x ∈ st.sz, 0 ≤ x ∧ x ≤ 4096
  hlen : st.sz.length ≤ 1048576
theorem own_kept {w w' : World} {base e size n : Nat} {v : Value} {xs : List Value} (h : w.ownsRow base e size v n xs) (hk : ∀ k, v.ownBlock = some k → w'.heap[k]? = w.heap[k]?) : w'.ownsRow base e size v n xs := by
  obtain ⟨h1, h2 | ⟨g, cap, cur, hv, hg, hc, r⟩⟩ := h
  · exact ⟨h1, Or.inl h2⟩
  · exact ⟨h1, Or.inr ⟨g, cap, cur, hv, hg, (hk g (by rw [hv]; rfl)).trans hc, r⟩⟩
end Go.Proofs.YtkjfhgoddhigmacGreatDoor
/-
  BYTES AS FIELDS: mathematics. No claim by itself.
-/
namespace Go.Proofs.YtkjfhgoddhigmacGreatDoor
open Go
theorem rtF_bd (Z : List Int) (h : (rtF Z).2.2 = 0) : 1 ≤ (rtF Z).2.1 ∧ (rtF Z).2.1 ≤ Z.length := by
  have hb := getF_bd Z 7 (by decide) (by decide)
  unfold rtF at h ⊢
  split at h
  · rename_i h1
    exact absurd h h1
  · rename_i h1
    rw [if_neg h1]
    have h1' : (getF Z 7).2.2 = 0 := by simpa using h1
    obtain ⟨b1, b2, b3⟩ := hb h1'
    split at h
    · simp at h
    · rename_i h2
      rw [if_neg h2]
      split at h
      · simp at h
      · rename_i h3
        rw [if_neg h3]
        unfold rtB at h ⊢
        generalize (if 127 < Z.getD 0 0 then decF ((Z.drop (getF Z 7).2.1.toNat).take (getF Z 7).1.toNat) else some ((Z.drop (getF Z 7).2.1.toNat).take (getF Z 7).1.toNat)) = d at h ⊢
        match d with
        | none => simp [rtE] at h
        | some s =>
          by_cases q1 : 400 < s.length
          · rw [rtE_long _ _ _ q1] at h; simp at h
          · by_cases q2 : txtL s = Z.take ((getF Z 7).2.1.toNat + (getF Z 7).1.toNat)
            · rw [rtE_ok _ _ _ (by omega) q2]
              show 1 ≤ (((getF Z 7).2.1.toNat + (getF Z 7).1.toNat : Nat) : Int) ∧ (((getF Z 7).2.1.toNat + (getF Z 7).1.toNat : Nat) : Int) ≤ _
              omega
            · rw [rtE_bad _ _ _ (by omega) q2] at h; simp at h
/-- A field whose name is known, where its value is read. -/
def litV (Z : List Int) (name : ByteArray) (p : Nat) : (ByteArray × ByteArray) × Int × Int :=
  if (rtF (Z.drop p)).2.2 ≠ 0 then (fnone, 0, (rtF (Z.drop p)).2.2) else ((name, strOfNums (rtF (Z.drop p)).1), (p : Int) + (rtF (Z.drop p)).2.1, 0)
/-- A field that is not one of the table: the field, how many bytes, the fault. -/
def litF (A : List (ByteArray × ByteArray)) (Z : List Int) (bits : Int) : (ByteArray × ByteArray) × Int × Int :=
  if (getF Z bits).2.2 ≠ 0 then (fnone, 0, (getF Z bits).2.2)
  else if ((12 + A.length : Nat) : Int) < (getF Z bits).1 then (fnone, 0, 5)
  else if 0 < (getF Z bits).1 then litV Z ((alwaysL ++ A).getD ((getF Z bits).1 - 1).toNat fnone).1 (getF Z bits).2.1.toNat
  else if (rtF (Z.drop (getF Z bits).2.1.toNat)).2.2 ≠ 0 then (fnone, 0, (rtF (Z.drop (getF Z bits).2.1.toNat)).2.2)
  else litV Z (strOfNums (rtF (Z.drop (getF Z bits).2.1.toNat)).1) ((getF Z bits).2.1.toNat + (rtF (Z.drop (getF Z bits).2.1.toNat)).2.1.toNat)
end Go.Proofs.YtkjfhgoddhigmacGreatDoor
/-
  WHAT IS WRITTEN IS READ, numbers with high bits ahead and texts: mathematics. No claim by itself.
-/
namespace Go.Proofs.YtkjfhgoddhigmacGreatDoor
theorem hsplit128 (r P : Int) : r % 128 * P + r / 128 * (P * 128) = r * P := by
  have h : r = 128 * (r / 128) + r % 128 := by omega
  have e1 : r / 128 * (P * 128) = 128 * (r / 128) * P := by rw [Int.mul_comm P 128, ← Int.mul_assoc, Int.mul_comm (r / 128) 128]
  have e2 : r % 128 * P + 128 * (r / 128) * P = (r % 128 + 128 * (r / 128)) * P := by rw [Int.add_mul]
  rw [e1, e2]
  congr 1
  omega
theorem hpow_pos (i : Nat) : (0 : Int) < 128 ^ i := by
  have h2 : (0 : Nat) < 128 ^ i := Nat.pos_of_ne_zero (by simp)
  have e : ((128 ^ i : Nat) : Int) = (128 : Int) ^ i := by simp
  omega
theorem hgetR_rest (Z : List Int) : ∀ (k i : Nat) (r acc : Int), fits k r → 0 ≤ r → i + k = 5 → 0 ≤ acc → acc + r * 128 ^ i ≤ 2147483647 → (i = 0 ∨ 0 < r) →
    getR (rest k r ++ Z) i acc = (acc + r * 128 ^ i, (i : Int) + 1 + (rest k r).length, 0)
  | 0, _, _, _, hf, _, _, _, _, _ => absurd hf.1 (by decide)
  | k + 1, i, r, acc, hf, h0, hi, ha, hm, hz => by
    have hP := hpow_pos i
    by_cases hr : r < 128
    · rw [rest_last (k + 1) r hf hr]
      have e : r % 128 = r := by omega
      show getR (r :: Z) i acc = _
      unfold getR
      rw [e, if_neg (by omega), if_neg (by omega), if_pos hr]
      simp
      omega
    · obtain ⟨j, hj, hfj, hs⟩ := rest_step (k + 1) r hf (by omega)
      obtain rfl : k = j := by omega
      rw [hs]
      have hsp := hsplit128 r (128 ^ i)
      have hq : 0 ≤ r / 128 * (128 ^ i * 128) := Int.mul_nonneg (by omega) (by omega)
      have hd : 0 ≤ r % 128 * 128 ^ i := Int.mul_nonneg (by omega) (by omega)
      have hi4 : ¬ i = 4 := by
        intro h
        have hk0 : k = 0 := by omega
        subst hk0
        exact absurd hfj.1 (by decide)
      have ih := hgetR_rest Z k (i + 1) (r / 128) (acc + r % 128 * 128 ^ i) hfj (by omega) (by omega) (by omega) (by rw [Int.pow_succ]; omega) (Or.inr (by omega))
      show getR ((r % 128 + 128) :: (rest k (r / 128) ++ Z)) i acc = _
      unfold getR
      have e : (r % 128 + 128) % 128 = r % 128 := by omega
      rw [e, if_neg (by omega), if_neg (by omega), if_neg (by omega), ih, Int.pow_succ]
      simp only [List.length_cons, Prod.mk.injEq, and_true]
      constructor
      · omega
      · push_cast; omega
/-- A number is read as it was written, whatever the high bits, whatever stands behind. -/
theorem hget_put (n b f : Int) (Z : List Int) (hok : putOk n b f) : getF (putL n b f ++ Z) b = (n, ((putL n b f).length : Int), 0) := by
  obtain ⟨n0, n1, b1, b2, f0, f1, f2⟩ := hok
  have gb := gr_bd b b1 b2
  by_cases h : n < gr b
  · rw [putL_small n b f h]
    have e : (f + n) % (gr b + 1) = n := by rw [Int.add_emod, f2, Int.zero_add, Int.emod_emod]; exact Int.emod_eq_of_lt n0 (by omega)
    show getF ((f + n) :: Z) b = _
    unfold getF
    rw [if_neg (by omega)]
    simp only [e, if_pos h]
    rfl
  · rw [putL_big n b f (by omega)]
    have e : (f + gr b) % (gr b + 1) = gr b := by rw [Int.add_emod, f2, Int.zero_add, Int.emod_emod]; exact Int.emod_eq_of_lt (by omega) (by omega)
    have hg := hgetR_rest Z 5 0 (n - gr b) (gr b) ⟨by decide, by omega⟩ (by omega) rfl (by omega) (by simp; omega) (Or.inl rfl)
    show getF ((f + gr b) :: (rest 5 (n - gr b) ++ Z)) b = _
    unfold getF
    rw [if_neg (by omega)]
    simp only [e, if_neg (Int.lt_irrefl _), hg]
    simp
    omega
/-- The first byte of a number that is written. -/
theorem hput_first (n b f : Int) (h0 : 0 ≤ n) (h1 : 1 ≤ b) (h2 : b ≤ 8) : ∃ z zs, putL n b f = z :: zs ∧ f ≤ z ∧ z ≤ f + gr b := by
  have gb := gr_bd b h1 h2
  unfold putL
  split
  · exact ⟨_, _, rfl, by omega, by omega⟩
  · exact ⟨_, _, rfl, by omega, by omega⟩
/-- A TEXT IS READ AS IT WAS WRITTEN, whatever stands behind. -/
theorem htxt_back (s Z : List Int) (hs : s.length ≤ 400) (hb : ∀ c ∈ s, 0 ≤ c ∧ c < 256) : rtF (txtL s ++ Z) = (s, ((txtL s).length : Int), 0) := by
  by_cases hc : (codeL s).length < s.length
  · have hT : txtL s = putL (codeL s).length 7 128 ++ codeL s := by unfold txtL; rw [if_pos hc]
    have hok : putOk ((codeL s).length : Int) 7 128 := ⟨by omega, by omega, by decide, by decide, by decide, by decide, by decide⟩
    have hg := hget_put _ 7 128 (codeL s ++ Z) hok
    obtain ⟨z, zs, hz, hz1, hz2⟩ := hput_first ((codeL s).length : Int) 7 128 (by omega) (by decide) (by decide)
    have hd := dec_code s hb
    have hTT : txtL s = txtL s := rfl
    rw [hT, List.append_assoc]
    unfold rtF
    rw [hg, if_neg (by simp), if_neg (by show ¬ (400 : Int) < ((codeL s).length : Int); omega), if_neg (by
      show ¬ ((((putL (codeL s).length 7 128 ++ (codeL s ++ Z)).length : Nat) : Int) - ((putL (codeL s).length 7 128).length : Int) < ((codeL s).length : Int))
      simp only [List.length_append]; push_cast; omega)]
    show rtB _ ((codeL s).length : Int).toNat ((putL (codeL s).length 7 128).length : Int).toNat = _
    rw [Int.toNat_natCast, Int.toNat_natCast]
    unfold rtB
    rw [if_pos (by rw [hz]; simp; omega), List.drop_left, List.take_left, hd, rtE_ok _ _ _ hs (by rw [← List.append_assoc, List.take_append_of_le_length (by simp), hT]; rw [List.take_of_length_le (by simp)])]
    simp
  · have hT : txtL s = putL s.length 7 0 ++ s := by unfold txtL; rw [if_neg hc]
    have hok : putOk (s.length : Int) 7 0 := ⟨by omega, by omega, by decide, by decide, by decide, by decide, by decide⟩
    have hg := hget_put _ 7 0 (s ++ Z) hok
    obtain ⟨z, zs, hz, hz1, hz2⟩ := hput_first (s.length : Int) 7 0 (by omega) (by decide) (by decide)
    have g7 : gr 7 = 127 := by decide
    rw [hT, List.append_assoc]
    unfold rtF
    rw [hg, if_neg (by simp), if_neg (by show ¬ (400 : Int) < (s.length : Int); omega), if_neg (by
      show ¬ ((((putL s.length 7 0 ++ (s ++ Z)).length : Nat) : Int) - ((putL s.length 7 0).length : Int) < (s.length : Int))
      simp only [List.length_append]; push_cast; omega)]
    show rtB _ (s.length : Int).toNat ((putL s.length 7 0).length : Int).toNat = _
    rw [Int.toNat_natCast, Int.toNat_natCast]
    unfold rtB
    rw [if_neg (by rw [hz]; simp; omega), List.drop_left, List.take_left, rtE_ok _ _ _ hs (by rw [← List.append_assoc, List.take_append_of_le_length (by simp), hT]; rw [List.take_of_length_le (by simp)])]
    simp
end Go.Proofs.YtkjfhgoddhigmacGreatDoor
