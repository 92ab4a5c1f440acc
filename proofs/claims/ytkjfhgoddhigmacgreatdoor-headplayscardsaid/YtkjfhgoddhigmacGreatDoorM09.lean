/-
  PLAIN MATHEMATICS: texts' bytes as numbers, and what readings give. Nothing of the program stands here but the shape of a text. No claim by itself.
-/
import Derived.Test.YtkjfhgoddhigmacGreatDoorM06
import Derived.Test.YtkjfhgoddhigmacGreatDoorM07
import Derived.Test.YtkjfhgoddhigmacGreatDoorM08
namespace Go.Proofs.YtkjfhgoddhigmacGreatDoor
open Go
theorem nums_len0 (s : ByteArray) : (nums s).length = s.size := by simp [nums]
theorem nums_mem (s : ByteArray) : ∀ c ∈ nums s, 0 ≤ c ∧ c < 256 := by
  intro c hc
  obtain ⟨u, _, rfl⟩ := List.mem_map.1 hc
  have := u.toNat_lt
  omega
theorem str_nums (s : ByteArray) : strOfNums (nums s) = s := by
  unfold strOfNums nums
  rw [List.map_map]
  have e : ((fun n : Int => UInt8.ofNat n.toNat) ∘ fun c : UInt8 => (c.toNat : Int)) = id := by
    funext c
    simp
  rw [e]
  simp
theorem nums_str (l : List Int) (h : ∀ c ∈ l, 0 ≤ c ∧ c < 256) : nums (strOfNums l) = l := by
  unfold nums strOfNums
  simp only [List.map_map]
  have e : ∀ c ∈ l, ((fun c : UInt8 => (c.toNat : Int)) ∘ fun n : Int => UInt8.ofNat n.toNat) c = c := by
    intro c hc
    have := h c hc
    simp [UInt8.toNat_ofNat']
    omega
  rw [List.map_congr_left e]
  simp
theorem nums_append (s t : ByteArray) : nums (s ++ t) = nums s ++ nums t := by
  simp [nums]
theorem str_size (l : List Int) : (strOfNums l).size = l.length := strOfNums_size l
theorem oft_byte (j : Nat) : 0 ≤ oft.getD j 0 ∧ oft.getD j 0 < 256 := by
  by_cases h : j < 32
  · have h1 : ∀ j : Fin 32, 0 ≤ oft.getD j.val 0 ∧ oft.getD j.val 0 < 256 := by decide
    exact h1 ⟨j, h⟩
  · have e : oft.getD j 0 = 0 := by
      rw [List.getD, List.getElem?_eq_none (by show 32 ≤ j; omega)]; rfl
    rw [e]; decide
theorem dec_byte : ∀ (n : Nat) (l : List Int), l.length ≤ n → (∀ y ∈ l, y = 0 ∨ y = 1) → ∀ v, dec l = some v → ∀ c ∈ v, 0 ≤ c ∧ c < 256
  | n, [], _, _, v, h => by
    rw [dec_nil] at h
    obtain rfl := Option.some.inj h
    intro c hc; cases hc
  | 0, y :: r, hn, _, _, _ => by simp at hn
  | n + 1, y :: r, hn, hb, v, h => by
    simp at hn
    have hbr : ∀ z ∈ r, z = 0 ∨ z = 1 := fun z hz => hb z (List.mem_cons_of_mem _ hz)
    by_cases c1 : y = 0 ∧ 5 ≤ r.length
    · rw [dec_often y r c1] at h
      obtain ⟨t, ht, rfl⟩ := Option.map_eq_some_iff.1 h
      have ih := dec_byte n (r.drop 5) (by rw [List.length_drop]; omega) (fun z hz => hbr z (List.drop_subset _ _ hz)) t ht
      intro c hc
      rcases List.mem_cons.1 hc with rfl | hc
      · exact oft_byte _
      · exact ih c hc
    · by_cases c2 : y = 1 ∧ 8 ≤ r.length
      · by_cases ho : 0 ≤ oidx (val (r.take 8))
        · rw [dec_wrong y r c2 ho] at h; cases h
        · rw [dec_rare y r c2 ho] at h
          obtain ⟨t, ht, rfl⟩ := Option.map_eq_some_iff.1 h
          have ih := dec_byte n (r.drop 8) (by rw [List.length_drop]; omega) (fun z hz => hbr z (List.drop_subset _ _ hz)) t ht
          have hl : (r.take 8).length = 8 := by rw [List.length_take]; omega
          have hvb := val_bd (r.take 8) (fun z hz => hbr z (List.take_subset _ _ hz))
          rw [hl] at hvb
          intro c hc
          rcases List.mem_cons.1 hc with rfl | hc
          · exact ⟨hvb.1, by simpa using hvb.2⟩
          · exact ih c hc
      · rw [dec_end y r c1 c2] at h
        by_cases c3 : 7 < (y :: r).length ∨ (0 : Int) ∈ y :: r
        · rw [if_pos c3] at h; cases h
        · rw [if_neg c3] at h
          obtain rfl := Option.some.inj h
          intro c hc; cases hc
theorem decF_byte (b v : List Int) (h : decF b = some v) : ∀ c ∈ v, 0 ≤ c ∧ c < 256 :=
  dec_byte _ (unpack b) (Nat.le_refl _) (unpack_bit b) v h
/-- A text that bytes are read as is not much longer than they. -/
theorem decF_len (b v : List Int) (hb : ∀ c ∈ b, 0 ≤ c ∧ c < 256) (h : decF b = some v) : 6 * v.length ≤ 8 * b.length := by
  have h1 := congrArg List.length (code_dec b v hb h)
  rw [code_len] at h1
  have h2 := (bitsL_len v).1
  omega
theorem code_byte (s : List Int) : ∀ x ∈ codeL s, 0 ≤ x ∧ x < 256 := by
  have hp : ∀ (k : Nat) (l : List Int), (∀ y ∈ l, y = 0 ∨ y = 1) → ∀ x ∈ pack k l, 0 ≤ x ∧ x < 256 := by
    intro k
    induction k with
    | zero => intro l _ x hx; cases hx
    | succ k ih =>
      intro l hl x hx
      rcases List.mem_cons.1 hx with rfl | hx
      · have hv := val_bd (l.take 8) (fun y hy => hl y (List.take_subset _ _ hy))
        have h8 : (l.take 8).length ≤ 8 := List.length_take_le _ _
        have hle : (2 : Nat) ^ (l.take 8).length ≤ 2 ^ 8 := Nat.pow_le_pow_right (by decide) h8
        have e : ((2 ^ (l.take 8).length : Nat) : Int) = (2 : Int) ^ (l.take 8).length := by simp
        omega
      · exact ih (l.drop 8) (fun y hy => hl y (List.drop_subset _ _ hy)) x hx
  exact hp _ _ (fill_bit _ (bitsL_bit s))
/-- Letters that are often alone. -/
theorem bits_often : ∀ (s : List Int), (∀ c ∈ s, 97 ≤ c ∧ c ≤ 122) → (bitsL s).length = 6 * s.length
  | [], _ => rfl
  | c :: s, h => by
    have ih := bits_often s (fun c hc => h c (List.mem_cons_of_mem _ hc))
    have hc := h c List.mem_cons_self
    have ho : 0 ≤ oidx c := by
      have h1 : ∀ j : Fin 26, 0 ≤ oidx (97 + (j.val : Int)) := by decide
      have h2 := h1 ⟨(c - 97).toNat, by omega⟩
      have e : 97 + (((c - 97).toNat : Nat) : Int) = c := by omega
      have h3 : 0 ≤ oidx (97 + (((c - 97).toNat : Nat) : Int)) := h2
      rw [e] at h3
      exact h3
    have h1 := code1_len c
    rw [if_pos ho] at h1
    rw [bitsL_cons, List.length_append, h1, ih, List.length_cons]; omega
end Go.Proofs.YtkjfhgoddhigmacGreatDoor
/-
  BYTES AS LISTS OF FIELDS, and that what is written is read: mathematics. No claim by itself.
-/
namespace Go.Proofs.YtkjfhgoddhigmacGreatDoor
open Go
/-- A field by its number: the field, how many bytes, the fault. -/
def numF (A : List (ByteArray × ByteArray)) (Z : List Int) : (ByteArray × ByteArray) × Int × Int :=
  if (getF Z 7).2.2 ≠ 0 then (fnone, 0, (getF Z 7).2.2)
  else if 1 ≤ (getF Z 7).1 ∧ (getF Z 7).1 ≤ ((12 + A.length : Nat) : Int) then ((alwaysL ++ A).getD ((getF Z 7).1 - 1).toNat fnone, (getF Z 7).2.1, 0)
  else (fnone, 0, 5)
/-- A field of any kind: the field, how many bytes, the fault; and what the table holds then. -/
def fldF (mx : Int) (A : List (ByteArray × ByteArray)) (Z : List Int) : ((ByteArray × ByteArray) × Int × Int) × List (ByteArray × ByteArray) :=
  if 127 < Z.getD 0 0 then (numF A Z, A)
  else if 63 < Z.getD 0 0 then (litF A Z 6, if (litF A Z 6).2.2 = 0 then (addL A (litF A Z 6).1 mx).2 else A)
  else (litF A Z 4, A)
/-- The fields of bytes, behind those that were read: the fields, the fault, and the table then. -/
def dcF (most : Int) : Nat → Int → List (ByteArray × ByteArray) → List (ByteArray × ByteArray) → List Int → List (ByteArray × ByteArray) × Int × Int × List (ByteArray × ByteArray)
  | 0, mx, A, acc, _ => (acc, 0, mx, A)
  | k + 1, mx, A, acc, Z =>
    if Z.length = 0 then (acc, 0, mx, A)
    else if 31 < Z.getD 0 0 ∧ Z.getD 0 0 < 64 then
      if (getF Z 5).2.2 ≠ 0 then ([], (getF Z 5).2.2, mx, A)
      else if most < (getF Z 5).1 then ([], 1, mx, A)
      else if 0 < acc.length then ([], 6, mx, A)
      else dcF most k (getF Z 5).1 (A.take (keepN A (getF Z 5).1 A.length)) acc (Z.drop (getF Z 5).2.1.toNat)
    else if (fldF mx A Z).1.2.2 ≠ 0 then ([], (fldF mx A Z).1.2.2, mx, (fldF mx A Z).2)
    else if 40 < (acc ++ [(fldF mx A Z).1.1]).length ∨ 2000 < weight (acc ++ [(fldF mx A Z).1.1]) then ([], 4, mx, (fldF mx A Z).2)
    else dcF most k mx (fldF mx A Z).2 (acc ++ [(fldF mx A Z).1.1]) (Z.drop (fldF mx A Z).1.2.1.toNat)
theorem num_bd (A : List (ByteArray × ByteArray)) (Z : List Int) (h : (numF A Z).2.2 = 0) : 1 ≤ (numF A Z).2.1 ∧ (numF A Z).2.1 ≤ Z.length := by
  have hb := getF_bd Z 7 (by decide) (by decide)
  unfold numF at h ⊢
  split at h
  · rename_i h1; exact absurd h h1
  · rename_i h1
    rw [if_neg h1]
    have h1' : (getF Z 7).2.2 = 0 := by simpa using h1
    split at h
    · rename_i h2; rw [if_pos h2]; exact (hb h1').2
    · simp at h
theorem litV_bd (Z : List Int) (n : ByteArray) (p : Nat) (hp : 1 ≤ p) (hl : p ≤ Z.length) (h : (litV Z n p).2.2 = 0) : 1 ≤ (litV Z n p).2.1 ∧ (litV Z n p).2.1 ≤ Z.length := by
  have hb := rtF_bd (Z.drop p)
  unfold litV at h ⊢
  split at h
  · rename_i h1; exact absurd h h1
  · rename_i h1
    rw [if_neg h1]
    have h1' : (rtF (Z.drop p)).2.2 = 0 := by simpa using h1
    have := hb h1'
    rw [List.length_drop] at this
    show 1 ≤ (p : Int) + _ ∧ (p : Int) + _ ≤ _
    omega
theorem lit_bd (A : List (ByteArray × ByteArray)) (Z : List Int) (b : Int) (hb1 : 1 ≤ b) (hb2 : b ≤ 8) (h : (litF A Z b).2.2 = 0) : 1 ≤ (litF A Z b).2.1 ∧ (litF A Z b).2.1 ≤ Z.length := by
  have hb := getF_bd Z b hb1 hb2
  have hr := rtF_bd (Z.drop (getF Z b).2.1.toNat)
  unfold litF at h ⊢
  split at h
  · rename_i h1; exact absurd h h1
  · rename_i h1
    rw [if_neg h1]
    have h1' : (getF Z b).2.2 = 0 := by simpa using h1
    have hb' := hb h1'
    split at h
    · simp at h
    · rename_i h2
      rw [if_neg h2]
      split at h
      · rename_i h3; rw [if_pos h3]; exact litV_bd _ _ _ (by omega) (by omega) h
      · rename_i h3
        rw [if_neg h3]
        split at h
        · rename_i h4; exact absurd h h4
        · rename_i h4
          rw [if_neg h4]
          have h4' : (rtF (Z.drop (getF Z b).2.1.toNat)).2.2 = 0 := by simpa using h4
          have hr' := hr h4'
          rw [List.length_drop] at hr'
          exact litV_bd _ _ _ (by omega) (by omega) h
theorem fld_bd (mx : Int) (A : List (ByteArray × ByteArray)) (Z : List Int) (h : (fldF mx A Z).1.2.2 = 0) : 1 ≤ (fldF mx A Z).1.2.1 ∧ (fldF mx A Z).1.2.1 ≤ Z.length := by
  unfold fldF at h ⊢
  split at h
  · rename_i h1; rw [if_pos h1]; exact num_bd A Z h
  · rename_i h1
    rw [if_neg h1]
    split at h
    · rename_i h2; rw [if_pos h2]; exact lit_bd A Z 6 (by decide) (by decide) h
    · rename_i h2; rw [if_neg h2]; exact lit_bd A Z 4 (by decide) (by decide) h
theorem Fit.fld {mx : Int} {A : List (ByteArray × ByteArray)} (h : Fit mx A) (Z : List Int) : Fit mx (fldF mx A Z).2 := by
  unfold fldF
  split
  · exact h
  · split
    · show Fit mx (if _ then _ else _)
      split
      · exact h.add _
      · exact h
    · exact h
theorem lit_back (A : List (ByteArray × ByteArray)) (f : ByteArray × ByteArray) (R : List Int) (hf : small f) (hA : A.length ≤ 128) :
    litF A (putL (fnd (isN f.1) (alwaysL ++ A) 0 : Nat) 6 64 ++ ((if fnd (isN f.1) (alwaysL ++ A) 0 = 0 then txtL (nums f.1) else []) ++ txtL (nums f.2)) ++ R) 6 =
      (f, ((putL (fnd (isN f.1) (alwaysL ++ A) 0 : Nat) 6 64 ++ ((if fnd (isN f.1) (alwaysL ++ A) 0 = 0 then txtL (nums f.1) else []) ++ txtL (nums f.2))).length : Int), 0) := by
  have hz := fnd_zero (isN f.1) (alwaysL ++ A) 0
  have hle := fnd_le (isN f.1) (alwaysL ++ A) 0
  have hL : (alwaysL ++ A).length = 12 + A.length := by rw [List.length_append, always_len]
  have t1 := fun Z => htxt_back (nums f.1) Z (by rw [nums_len0]; exact hf.1) (nums_mem f.1)
  have t2 := fun Z => htxt_back (nums f.2) Z (by rw [nums_len0]; exact hf.2) (nums_mem f.2)
  have s1 := str_nums f.1
  have s2 := str_nums f.2
  generalize fnd (isN f.1) (alwaysL ++ A) 0 = k at *
  have hok : putOk (k : Int) 6 64 := ⟨by omega, by omega, by decide, by decide, by decide, by decide, by decide⟩
  have hg := fun Z => hget_put (k : Int) 6 64 Z hok
  generalize putL (k : Int) 6 64 = P at *
  by_cases h0 : k = 0
  · subst h0
    rw [if_pos rfl, List.append_assoc]
    unfold litF
    rw [hg, if_neg (by simp), if_neg (by show ¬ (((12 + A.length : Nat) : Int) < ((0 : Nat) : Int)); omega), if_neg (by show ¬ ((0 : Int) < ((0 : Nat) : Int)); omega)]
    show (if (rtF ((P ++ _).drop ((P.length : Nat) : Int).toNat)).2.2 ≠ 0 then _ else litV _ _ (((P.length : Nat) : Int).toNat + _)) = _
    rw [Int.toNat_natCast, List.drop_left, List.append_assoc, t1, if_neg (by simp)]
    show litV _ (strOfNums (nums f.1)) (P.length + (((txtL (nums f.1)).length : Nat) : Int).toNat) = _
    unfold litV
    rw [Int.toNat_natCast, ← List.append_assoc P, List.drop_append_of_le_length (by simp), show P.length + (txtL (nums f.1)).length = (P ++ txtL (nums f.1)).length by simp, List.drop_length, List.nil_append, t2, if_neg (by simp), s1]
    show ((f.1, strOfNums (nums f.2)), _, _) = _
    rw [s2]
    simp
    omega
  · obtain ⟨z1, z2, z3⟩ := hz h0
    have hn := isN_eq z3
    rw [if_neg h0, List.nil_append, List.append_assoc]
    unfold litF
    rw [hg, if_neg (by simp), if_neg (by show ¬ (((12 + A.length : Nat) : Int) < (k : Int)); omega), if_pos (by show (0 : Int) < (k : Int); omega)]
    show litV _ ((alwaysL ++ A).getD ((k : Int) - 1).toNat fnone).1 ((P.length : Nat) : Int).toNat = _
    rw [show ((k : Int) - 1).toNat = k - 0 - 1 by omega, hn, Int.toNat_natCast]
    unfold litV
    rw [List.drop_left, t2, if_neg (by simp)]
    show ((f.1, strOfNums (nums f.2)), _, _) = _
    rw [s2]
    simp
/-- A FIELD IS READ AS IT WAS WRITTEN, whatever stands behind; and both tables are alike then. -/
theorem fld_back (mx : Int) (A : List (ByteArray × ByteArray)) (f : ByteArray × ByteArray) (R : List Int) (hf : small f) (hA : A.length ≤ 128) :
    fldF mx A ((enc1 mx A f).1 ++ R) = ((f, ((enc1 mx A f).1.length : Int), 0), (enc1 mx A f).2) ∧ 63 < ((enc1 mx A f).1 ++ R).getD 0 0 ∧ 1 ≤ (enc1 mx A f).1.length := by
  have hL : (alwaysL ++ A).length = 12 + A.length := by rw [List.length_append, always_len]
  by_cases hw : 0 < fnd (isF f.1 f.2) (alwaysL ++ A) 0
  · have he : enc1 mx A f = (putL (fnd (isF f.1 f.2) (alwaysL ++ A) 0 : Nat) 7 128, A) := by unfold enc1; rw [if_pos hw]
    obtain ⟨z1, z2, z3⟩ := fnd_zero (isF f.1 f.2) (alwaysL ++ A) 0 (by omega)
    have hx := isF_eq z3
    rw [he]
    generalize fnd (isF f.1 f.2) (alwaysL ++ A) 0 = k at *
    have hok : putOk (k : Int) 7 128 := ⟨by omega, by omega, by decide, by decide, by decide, by decide, by decide⟩
    have hg := hget_put (k : Int) 7 128 R hok
    obtain ⟨z, zs, hz, hz1, hz2⟩ := hput_first (k : Int) 7 128 (by omega) (by decide) (by decide)
    have hd : 127 < (putL (k : Int) 7 128 ++ R).getD 0 0 := by rw [hz]; simp; omega
    have hd2 : 63 < (putL (k : Int) 7 128 ++ R).getD 0 0 := by rw [hz]; simp; omega
    have hp1 := (putL_len (k : Int) 7 128).1
    simp only
    refine ⟨?_, hd2, hp1⟩
    unfold fldF
    show (if 127 < (putL (k : Int) 7 128 ++ R).getD 0 0 then (numF A (putL (k : Int) 7 128 ++ R), A) else _) = _
    rw [if_pos hd]
    have hq : 1 ≤ (k : Int) ∧ (k : Int) ≤ ((12 + A.length : Nat) : Int) := by omega
    unfold numF
    rw [hg]
    simp only [ne_eq, not_true_eq_false, if_false, if_pos hq]
    show (((alwaysL ++ A).getD ((k : Int) - 1).toNat fnone, _, _), _) = _
    rw [show ((k : Int) - 1).toNat = k - 0 - 1 by omega, hx]
  · have he : enc1 mx A f = (putL (fnd (isN f.1) (alwaysL ++ A) 0 : Nat) 6 64 ++ ((if fnd (isN f.1) (alwaysL ++ A) 0 = 0 then txtL (nums f.1) else []) ++ txtL (nums f.2)), (addL A f mx).2) := by unfold enc1; rw [if_neg hw]
    have hl := lit_back A f R hf hA
    rw [he]
    obtain ⟨z, zs, hz, hz1, hz2⟩ := hput_first ((fnd (isN f.1) (alwaysL ++ A) 0 : Nat) : Int) 6 64 (by omega) (by decide) (by decide)
    have g6 : gr 6 = 63 := by decide
    have hd : 63 < (putL ((fnd (isN f.1) (alwaysL ++ A) 0 : Nat) : Int) 6 64 ++ ((if fnd (isN f.1) (alwaysL ++ A) 0 = 0 then txtL (nums f.1) else []) ++ txtL (nums f.2)) ++ R).getD 0 0 ∧ ¬ 127 < (putL ((fnd (isN f.1) (alwaysL ++ A) 0 : Nat) : Int) 6 64 ++ ((if fnd (isN f.1) (alwaysL ++ A) 0 = 0 then txtL (nums f.1) else []) ++ txtL (nums f.2)) ++ R).getD 0 0 := by
      rw [hz]; simp; omega
    have hp := (putL_len ((fnd (isN f.1) (alwaysL ++ A) 0 : Nat) : Int) 6 64).1
    refine ⟨?_, hd.1, by show 1 ≤ (putL _ _ _ ++ _).length; rw [List.length_append]; omega⟩
    generalize putL ((fnd (isN f.1) (alwaysL ++ A) 0 : Nat) : Int) 6 64 ++ ((if fnd (isN f.1) (alwaysL ++ A) 0 = 0 then txtL (nums f.1) else []) ++ txtL (nums f.2)) = P at *
    unfold fldF
    show (if 127 < (P ++ R).getD 0 0 then _ else if 63 < (P ++ R).getD 0 0 then (litF A (P ++ R) 6, if (litF A (P ++ R) 6).2.2 = 0 then (addL A (litF A (P ++ R) 6).1 mx).2 else A) else _) = _
    rw [if_neg hd.2, if_pos hd.1, hl, if_pos rfl]
/-- FIELDS ARE READ AS THEY WERE WRITTEN; and both tables are alike then. -/
theorem dc_fields (most mx : Int) : ∀ (r A acc : List (ByteArray × ByteArray)) (k : Nat), (∀ f ∈ r, small f) → Fit mx A → (acc ++ r).length ≤ 40 → weight (acc ++ r) ≤ 2000 → (encL mx A r).1.length < k →
    dcF most k mx A acc (encL mx A r).1 = (acc ++ r, 0, mx, (encL mx A r).2)
  | _, _, _, 0, _, _, _, _, hk => absurd hk (Nat.not_lt_zero _)
  | [], A, acc, k + 1, _, _, _, _, _ => by
    show dcF most (k + 1) mx A acc [] = (acc ++ [], 0, mx, A)
    unfold dcF
    rw [if_pos (show ([] : List Int).length = 0 from rfl), List.append_nil]
  | f :: r, A, acc, k + 1, hs, hA, hl, hw, hk => by
    obtain ⟨h1, h2, h3⟩ := fld_back mx A f (encL mx (enc1 mx A f).2 r).1 (hs f List.mem_cons_self) hA.len
    have hk' : ((enc1 mx A f).1 ++ (encL mx (enc1 mx A f).2 r).1).length < k + 1 := hk
    have e : acc ++ f :: r = acc ++ [f] ++ r := by simp
    rw [e] at hl hw ⊢
    have ih := dc_fields most mx r (enc1 mx A f).2 (acc ++ [f]) k (fun g hg => hs g (List.mem_cons_of_mem _ hg)) (hA.enc1 f) hl hw (by rw [List.length_append] at hk'; omega)
    show dcF most (k + 1) mx A acc ((enc1 mx A f).1 ++ (encL mx (enc1 mx A f).2 r).1) = (acc ++ [f] ++ r, 0, mx, (encL mx (enc1 mx A f).2 r).2)
    have hl2 : (acc ++ [f]).length ≤ 40 := by rw [List.length_append] at hl; omega
    have hw2 : weight (acc ++ [f]) ≤ 2000 := by rw [weight_append] at hw; omega
    generalize (encL mx (enc1 mx A f).2 r).1 = R at *
    unfold dcF
    rw [if_neg (by rw [List.length_append]; omega), if_neg (by omega), h1, if_neg (by simp), if_neg (by show ¬ (40 < (acc ++ [f]).length ∨ 2000 < weight (acc ++ [f])); omega)]
    show dcF most k mx (enc1 mx A f).2 (acc ++ [f]) (((enc1 mx A f).1 ++ R).drop (((enc1 mx A f).1.length : Nat) : Int).toNat) = _
    rw [Int.toNat_natCast, List.drop_left, ih]
end Go.Proofs.YtkjfhgoddhigmacGreatDoor
/-
  SIZES AHEAD OF FIELDS; fields that are said twice: mathematics. No claim by itself.
-/
namespace Go.Proofs.YtkjfhgoddhigmacGreatDoor
open Go
theorem keepN_all (A : List (ByteArray × ByteArray)) (m : Int) (h : (weight A : Int) ≤ m) : keepN A m A.length = A.length := by
  match hn : A.length with
  | 0 => rfl
  | n + 1 =>
    unfold keepN
    rw [if_neg]
    rw [List.take_of_length_le (by omega)]
    omega
theorem shrink_all (A : List (ByteArray × ByteArray)) (m : Int) (h : (weight A : Int) ≤ m) : A.take (keepN A m A.length) = A := by
  rw [keepN_all A m h, List.take_length]
theorem keepN_above (A : List (ByteArray × ByteArray)) (m : Int) : ∀ (N j : Nat), keepN A m N < j → j ≤ N → m < (weight (A.take j) : Int)
  | 0, j, h, h2 => by omega
  | N + 1, j, h, h2 => by
    unfold keepN at h
    split at h
    · rename_i hw
      by_cases e : j = N + 1
      · rw [e]; exact hw
      · exact keepN_above A m N j h (by omega)
    · omega
theorem keepN_take (A : List (ByteArray × ByteArray)) (m : Int) (a : Nat) : ∀ n, n ≤ a → keepN (A.take a) m n = keepN A m n
  | 0, _ => rfl
  | n + 1, h => by
    unfold keepN
    rw [List.take_take, Nat.min_eq_left h, keepN_take A m a n (by omega)]
theorem keepN_down (A : List (ByteArray × ByteArray)) (n : Int) (a : Nat) : ∀ N, a ≤ N → (∀ j, a < j → j ≤ N → n < (weight (A.take j) : Int)) → keepN A n N = keepN A n a
  | 0, h, _ => by rw [show a = 0 by omega]
  | N + 1, h, hj => by
    by_cases e : a = N + 1
    · rw [e]
    · rw [← keepN_down A n a N (by omega) (fun j h1 h2 => hj j h1 (by omega))]
      show (if _ then _ else _) = _
      rw [if_pos (hj (N + 1) (by omega) (Nat.le_refl _))]
/-- Shrunk twice is shrunk to the lesser. -/
theorem shrink_twice (A : List (ByteArray × ByteArray)) (m n : Int) (hm : 0 ≤ m) : (A.take (keepN A m A.length)).take (keepN (A.take (keepN A m A.length)) n (A.take (keepN A m A.length)).length) = A.take (keepN A (if n < m then n else m) A.length) := by
  have hf := keepN_fits A m hm A.length
  have hl := keepN_le A m A.length
  by_cases h : n < m
  · rw [if_pos h, List.length_take, Nat.min_eq_left hl, keepN_take A n _ _ (Nat.le_refl _), List.take_take, Nat.min_eq_left (keepN_le _ _ _), ← keepN_down A n _ A.length hl (fun j h1 h2 => by have := keepN_above A m A.length j h1 h2; omega)]
  · rw [if_neg h]
    exact shrink_all _ n (by omega)
theorem dleastL_snoc : ∀ (l : List Int) (m s : Int), leastL m (l ++ [s]) = if s < leastL m l then s else leastL m l
  | [], _, _ => rfl
  | _ :: l, _, s => dleastL_snoc l _ s
theorem dleastL_bd : ∀ (l : List Int) (m lo hi : Int), lo ≤ m → m ≤ hi → (∀ x ∈ l, lo ≤ x ∧ x ≤ hi) → lo ≤ leastL m l ∧ leastL m l ≤ hi
  | [], m, lo, hi, h1, h2, _ => ⟨h1, h2⟩
  | x :: l, m, lo, hi, h1, h2, h => by
    have hx := h x List.mem_cons_self
    show lo ≤ leastL (if x < m then x else m) l ∧ leastL (if x < m then x else m) l ≤ hi
    exact dleastL_bd l _ lo hi (by split <;> omega) (by split <;> omega) (fun y hy => h y (List.mem_cons_of_mem _ hy))
/-- The least of sizes that were asked for: -1 where there are none. -/
def leastOf : List Int → Int
  | [] => -1
  | x :: r => leastL x (x :: r)
theorem leastOf_snoc (l : List Int) (s : Int) (h : l ≠ []) : leastOf (l ++ [s]) = if s < leastOf l then s else leastOf l := by
  match l with
  | [] => exact absurd rfl h
  | x :: r => exact dleastL_snoc (x :: r) x s
theorem leastOf_one (s : Int) : leastOf [s] = s := by
  show leastL (if s < s then s else s) [] = s
  simp [leastL]
theorem leastOf_bd (l : List Int) (hi : Int) (hne : l ≠ []) (h : ∀ x ∈ l, 0 ≤ x ∧ x ≤ hi) : 0 ≤ leastOf l ∧ leastOf l ≤ hi := by
  match l with
  | [] => exact absurd rfl hne
  | x :: r => exact dleastL_bd (x :: r) x 0 hi (h x List.mem_cons_self).1 (h x List.mem_cons_self).2 h
theorem leastOf_neg (l : List Int) (h : ∀ x ∈ l, 0 ≤ x ∧ x ≤ 4096) : leastOf l = -1 ↔ l = [] := by
  constructor
  · intro e
    by_cases hn : l = []
    · exact hn
    · have := (leastOf_bd l 4096 hn h).1; omega
  · rintro rfl; rfl
theorem szL_ne (l : List Int) (h : l ≠ []) : szL l = putL (leastOf l) 5 32 ++ (if leastOf l < l.getLastD 0 then putL (l.getLastD 0) 5 32 else []) := by
  match l with
  | [] => exact absurd rfl h
  | x :: r => rfl
/-- What one side has written, and the other one has not read yet. -/
def Sync (most mo : Int) (AO : List (ByteArray × ByteArray)) (sz : List Int) (mi : Int) (AI : List (ByteArray × ByteArray)) : Prop :=
  (∀ x ∈ sz, 0 ≤ x ∧ x ≤ most) ∧ ((sz = [] ∧ mo = mi ∧ AO = AI) ∨ (sz ≠ [] ∧ mo = sz.getLastD 0 ∧ AO = AI.take (keepN AI (leastOf sz) AI.length)))
theorem Sync.resize {most mo : Int} {AO : List (ByteArray × ByteArray)} {sz : List Int} {mi : Int} {AI : List (ByteArray × ByteArray)} (h : Sync most mo AO sz mi AI) (s : Int) (h0 : 0 ≤ s) (h1 : s ≤ most) :
    Sync most s (AO.take (keepN AO s AO.length)) (sz ++ [s]) mi AI := by
  obtain ⟨hb, h⟩ := h
  refine ⟨fun x hx => ?_, Or.inr ⟨by simp, by simp, ?_⟩⟩
  · rcases List.mem_append.1 hx with hx | hx
    · exact hb x hx
    · simp at hx; omega
  · rcases h with ⟨rfl, rfl, rfl⟩ | ⟨hne, rfl, rfl⟩
    · rw [List.nil_append, leastOf_one]
    · rw [leastOf_snoc sz s hne]
      exact shrink_twice AI (leastOf sz) s (leastOf_bd sz most hne hb).1
theorem dc_size1 (most : Int) (k : Nat) (mi n : Int) (A : List (ByteArray × ByteArray)) (Z : List Int) (h0 : 0 ≤ n) (h1 : n ≤ most) (h2 : most ≤ 4096) :
    dcF most (k + 1) mi A [] (putL n 5 32 ++ Z) = dcF most k n (A.take (keepN A n A.length)) [] Z := by
  have hok : putOk n 5 32 := ⟨by omega, by omega, by decide, by decide, by decide, by decide, by decide⟩
  have hg := hget_put n 5 32 Z hok
  obtain ⟨z, zs, hz, hz1, hz2⟩ := hput_first n 5 32 h0 (by decide) (by decide)
  have g5 : gr 5 = 31 := by decide
  have hp := (putL_len n 5 32).1
  have hd : 31 < (putL n 5 32 ++ Z).getD 0 0 ∧ (putL n 5 32 ++ Z).getD 0 0 < 64 := by rw [hz]; simp; omega
  generalize putL n 5 32 = P at *
  show (if _ then _ else _) = _
  rw [if_neg (by rw [List.length_append]; omega), if_pos hd, hg, if_neg (by simp), if_neg (by show ¬ most < n; omega), if_neg (by simp)]
  show dcF most k n _ [] ((P ++ Z).drop ((P.length : Nat) : Int).toNat) = _
  rw [Int.toNat_natCast, List.drop_left]
/-- WHAT ONE SIDE SAYS THE OTHER ONE HEARS: the fields; and both tables are alike then. -/
theorem dc_all (most mo mi : Int) (AO AI l : List (ByteArray × ByteArray)) (sz : List Int) (h : Sync most mo AO sz mi AI) (hF : Fit mo AO) (hI : Fit mi AI) (hm : most ≤ 4096) (hs : ∀ f ∈ l, small f) (hl : l.length ≤ 40) (hw : weight l ≤ 2000) :
    dcF most ((szL sz ++ (encL mo AO l).1).length + 1) mi AI [] (szL sz ++ (encL mo AO l).1) = (l, 0, mo, (encL mo AO l).2) := by
  obtain ⟨hb, ⟨rfl, rfl, rfl⟩ | ⟨hne, he, hA⟩⟩ := h
  · have := dc_fields most mo l AO [] ((encL mo AO l).1.length + 1) hs hF (by simpa using hl) (by simpa using hw) (by omega)
    rw [List.nil_append] at this
    exact this
  · have hlb := leastOf_bd sz most hne hb
    have hla : sz.getLastD 0 ∈ sz := by
      cases sz with
      | nil => exact absurd rfl hne
      | cons x r => simp [List.getLastD]
    have hlb2 := hb _ hla
    have hp := (putL_len (leastOf sz) 5 32).1
    rw [szL_ne sz hne, List.append_assoc]
    have hkl : (putL (leastOf sz) 5 32 ++ ((if leastOf sz < sz.getLastD 0 then putL (sz.getLastD 0) 5 32 else []) ++ (encL mo AO l).1)).length + 1 = ((if leastOf sz < sz.getLastD 0 then putL (sz.getLastD 0) 5 32 else []) ++ (encL mo AO l).1).length + ((putL (leastOf sz) 5 32).length + 1) := by
      rw [List.length_append]; omega
    rw [hkl, show ((if leastOf sz < sz.getLastD 0 then putL (sz.getLastD 0) 5 32 else []) ++ (encL mo AO l).1).length + ((putL (leastOf sz) 5 32).length + 1) = (((if leastOf sz < sz.getLastD 0 then putL (sz.getLastD 0) 5 32 else []) ++ (encL mo AO l).1).length + (putL (leastOf sz) 5 32).length) + 1 by omega,
      dc_size1 most _ mi (leastOf sz) AI _ hlb.1 hlb.2 hm, ← hA]
    by_cases hlt : leastOf sz < sz.getLastD 0
    · rw [if_pos hlt]
      have hp2 := (putL_len (sz.getLastD 0) 5 32).1
      have hwA : (weight AO : Int) ≤ sz.getLastD 0 := by rw [← he]; exact hF.h2
      rw [show (putL (sz.getLastD 0) 5 32 ++ (encL mo AO l).1).length + (putL (leastOf sz) 5 32).length = ((encL mo AO l).1.length + ((putL (sz.getLastD 0) 5 32).length + (putL (leastOf sz) 5 32).length - 1)) + 1 by rw [List.length_append]; omega,
        dc_size1 most _ (leastOf sz) (sz.getLastD 0) AO _ hlb2.1 hlb2.2 hm, shrink_all AO _ hwA, ← he]
      have := dc_fields most mo l AO [] ((encL mo AO l).1.length + ((putL mo 5 32).length + (putL (leastOf sz) 5 32).length - 1)) hs hF (by simpa using hl) (by simpa using hw) (by rw [← he] at hp2; omega)
      simpa using this
    · rw [if_neg hlt, List.nil_append]
      have e : leastOf sz = mo := by
        rw [he]
        have : leastOf sz ≤ sz.getLastD 0 := by
          match sz, hne with
          | x :: r, _ =>
            rcases List.eq_nil_or_concat r with rfl | ⟨r', y, hr⟩
            · show leastOf [x] ≤ x; rw [leastOf_one]; omega
            · rw [show x :: r = (x :: r') ++ [y] by rw [hr]; simp, leastOf_snoc _ _ (by simp)]
              simp only [List.getLastD_concat]
              split <;> omega
        omega
      rw [e]
      have := dc_fields most mo l AO [] ((encL mo AO l).1.length + (putL mo 5 32).length) hs hF (by simpa using hl) (by simpa using hw) (by rw [e] at hp; omega)
      simpa using this
/-- Fields that all fit are all there, once they were said. -/
theorem enc_there : ∀ (r A : List (ByteArray × ByteArray)), weight A + weight r ≤ 4096 → (encL 4096 A r).2.length ≤ A.length + r.length ∧ (∀ f ∈ A, f ∈ (encL 4096 A r).2) ∧ ∀ f ∈ r, f ∈ alwaysL ++ (encL 4096 A r).2
  | [], A, _ => ⟨Nat.le_refl _, fun f hf => hf, fun f hf => by simp at hf⟩
  | f :: r, A, h => by
    rw [weight_cons] at h
    have hcase : ((enc1 4096 A f).2 = A ∧ f ∈ alwaysL ++ A) ∨ (enc1 4096 A f).2 = f :: A := by
      unfold enc1
      split
      · rename_i hw
        obtain ⟨z1, z2, z3⟩ := fnd_zero (isF f.1 f.2) (alwaysL ++ A) 0 (by omega)
        have hx := isF_eq z3
        refine Or.inl ⟨rfl, ?_⟩
        have hx2 : (alwaysL ++ A).getD (fnd (isF f.1 f.2) (alwaysL ++ A) 0 - 0 - 1) fnone = f := hx
        rw [← hx2, List.getD, List.getElem?_eq_getElem (by omega)]
        exact List.getElem_mem _
      · right
        show (addL A f 4096).2 = _
        unfold addL
        rw [if_neg (by omega), shrink_all A _ (by omega)]
    show (encL 4096 (enc1 4096 A f).2 r).2.length ≤ _ ∧ (∀ g ∈ A, g ∈ (encL 4096 (enc1 4096 A f).2 r).2) ∧ ∀ g ∈ f :: r, g ∈ alwaysL ++ (encL 4096 (enc1 4096 A f).2 r).2
    rcases hcase with ⟨e, hm⟩ | e
    · rw [e]
      obtain ⟨i1, i2, i3⟩ := enc_there r A (by omega)
      refine ⟨by rw [List.length_cons]; omega, i2, fun g hg => ?_⟩
      rcases List.mem_cons.1 hg with rfl | hg
      · rcases List.mem_append.1 hm with hm | hm
        · exact List.mem_append_left _ hm
        · exact List.mem_append_right _ (i2 _ hm)
      · exact i3 g hg
    · rw [e]
      obtain ⟨i1, i2, i3⟩ := enc_there r (f :: A) (by rw [weight_cons]; omega)
      rw [List.length_cons] at i1
      refine ⟨by rw [List.length_cons]; omega, fun g hg => i2 g (List.mem_cons_of_mem _ hg), fun g hg => ?_⟩
      rcases List.mem_cons.1 hg with rfl | hg
      · exact List.mem_append_right _ (i2 _ List.mem_cons_self)
      · exact i3 g hg
theorem enc1_found (mx : Int) (A : List (ByteArray × ByteArray)) (f : ByteArray × ByteArray) (hm : f ∈ alwaysL ++ A) (hl : A.length ≤ 100) : (enc1 mx A f).2 = A ∧ (enc1 mx A f).1.length = 1 := by
  obtain ⟨j, hj, he⟩ := List.getElem_of_mem hm
  have hL : (alwaysL ++ A).length = 12 + A.length := by rw [List.length_append, always_len]
  have hp : isF f.1 f.2 ((alwaysL ++ A).getD j fnone) = true := by
    rw [List.getD, List.getElem?_eq_getElem hj]
    simp only [Option.getD_some]
    rw [he]; exact isF_self f
  obtain ⟨h1, h2, _⟩ := fnd_hit (isF f.1 f.2) (alwaysL ++ A) 0 j hj hp
  have hle := fnd_le (isF f.1 f.2) (alwaysL ++ A) 0
  have g7 : gr 7 = 127 := by decide
  have e1 : enc1 mx A f = (putL (fnd (isF f.1 f.2) (alwaysL ++ A) 0 : Nat) 7 128, A) := by unfold enc1; rw [if_pos h1]
  rw [e1, putL_small _ 7 128 (by omega)]
  simp only [List.length_singleton, and_self]
theorem enc_found (mx : Int) (A : List (ByteArray × ByteArray)) (hl : A.length ≤ 100) : ∀ (r : List (ByteArray × ByteArray)), (∀ f ∈ r, f ∈ alwaysL ++ A) → (encL mx A r).2 = A ∧ (encL mx A r).1.length = r.length
  | [], _ => ⟨rfl, rfl⟩
  | f :: r, h => by
    obtain ⟨h1, h2⟩ := enc1_found mx A f (h f List.mem_cons_self) hl
    obtain ⟨i1, i2⟩ := enc_found mx A hl r (fun g hg => h g (List.mem_cons_of_mem _ hg))
    show (encL mx (enc1 mx A f).2 r).2 = A ∧ ((enc1 mx A f).1 ++ (encL mx (enc1 mx A f).2 r).1).length = _
    rw [h1, List.length_append, h2, i2, List.length_cons]
    exact ⟨i1, by omega⟩
end Go.Proofs.YtkjfhgoddhigmacGreatDoor
