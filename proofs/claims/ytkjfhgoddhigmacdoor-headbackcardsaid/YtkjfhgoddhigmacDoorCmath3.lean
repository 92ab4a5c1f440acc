/-
  PLAIN MATHEMATICS: texts' bytes as numbers, and what readings give. Nothing of the program stands here but the shape of a text. No claim by itself.
-/
import Derived.Test.YtkjfhgoddhigmacDoorCmath2
import Derived.Test.YtkjfhgoddhigmacDoorCspec
namespace Go.Proofs.YtkjfhgoddhigmacDoor
open Go
theorem nums_len0 (s : ByteArray) : (nums s).length = s.size := by simp [nums]
theorem nums_mem (s : ByteArray) : ∀ c ∈ nums s, 0 ≤ c ∧ c < 256 := by
  intro c hc
  obtain ⟨u, _, rfl⟩ := List.mem_map.1 hc
  have := u.toNat_lt
  omega
theorem str_nums (s : ByteArray) : strOfNums (nums s) = s := by
  unfold strOfNums nums
  rw [List.map_map]
  have e : ((fun n : Int => UInt8.ofNat n.toNat) ∘ fun c : UInt8 => (c.toNat : Int)) = id := by
    funext c
    simp
  rw [e]
  simp
theorem nums_str (l : List Int) (h : ∀ c ∈ l, 0 ≤ c ∧ c < 256) : nums (strOfNums l) = l := by
  unfold nums strOfNums
  simp only [List.map_map]
  have e : ∀ c ∈ l, ((fun c : UInt8 => (c.toNat : Int)) ∘ fun n : Int => UInt8.ofNat n.toNat) c = c := by
    intro c hc
    have := h c hc
    simp [UInt8.toNat_ofNat']
    omega
  rw [List.map_congr_left e]
  simp
theorem nums_append (s t : ByteArray) : nums (s ++ t) = nums s ++ nums t := by
  simp [nums]
theorem str_size (l : List Int) : (strOfNums l).size = l.length := strOfNums_size l
theorem oft_byte (j : Nat) : 0 ≤ oft.getD j 0 ∧ oft.getD j 0 < 256 := by
  by_cases h : j < 32
  · have h1 : ∀ j : Fin 32, 0 ≤ oft.getD j.val 0 ∧ oft.getD j.val 0 < 256 := by decide
    exact h1 ⟨j, h⟩
  · have e : oft.getD j 0 = 0 := by
      rw [List.getD, List.getElem?_eq_none (by show 32 ≤ j; omega)]; rfl
    rw [e]; decide
theorem dec_byte : ∀ (n : Nat) (l : List Int), l.length ≤ n → (∀ y ∈ l, y = 0 ∨ y = 1) → ∀ v, dec l = some v → ∀ c ∈ v, 0 ≤ c ∧ c < 256
  | n, [], _, _, v, h => by
    rw [dec_nil] at h
    obtain rfl := Option.some.inj h
    intro c hc; cases hc
  | 0, y :: r, hn, _, _, _ => by simp at hn
  | n + 1, y :: r, hn, hb, v, h => by
    simp at hn
    have hbr : ∀ z ∈ r, z = 0 ∨ z = 1 := fun z hz => hb z (List.mem_cons_of_mem _ hz)
    by_cases c1 : y = 0 ∧ 5 ≤ r.length
    · rw [dec_often y r c1] at h
      obtain ⟨t, ht, rfl⟩ := Option.map_eq_some_iff.1 h
      have ih := dec_byte n (r.drop 5) (by rw [List.length_drop]; omega) (fun z hz => hbr z (List.drop_subset _ _ hz)) t ht
      intro c hc
      rcases List.mem_cons.1 hc with rfl | hc
      · exact oft_byte _
      · exact ih c hc
    · by_cases c2 : y = 1 ∧ 8 ≤ r.length
      · by_cases ho : 0 ≤ oidx (val (r.take 8))
        · rw [dec_wrong y r c2 ho] at h; cases h
        · rw [dec_rare y r c2 ho] at h
          obtain ⟨t, ht, rfl⟩ := Option.map_eq_some_iff.1 h
          have ih := dec_byte n (r.drop 8) (by rw [List.length_drop]; omega) (fun z hz => hbr z (List.drop_subset _ _ hz)) t ht
          have hl : (r.take 8).length = 8 := by rw [List.length_take]; omega
          have hvb := val_bd (r.take 8) (fun z hz => hbr z (List.take_subset _ _ hz))
          rw [hl] at hvb
          intro c hc
          rcases List.mem_cons.1 hc with rfl | hc
          · exact ⟨hvb.1, by simpa using hvb.2⟩
          · exact ih c hc
      · rw [dec_end y r c1 c2] at h
        by_cases c3 : 7 < (y :: r).length ∨ (0 : Int) ∈ y :: r
        · rw [if_pos c3] at h; cases h
        · rw [if_neg c3] at h
          obtain rfl := Option.some.inj h
          intro c hc; cases hc
theorem decF_byte (b v : List Int) (h : decF b = some v) : ∀ c ∈ v, 0 ≤ c ∧ c < 256 :=
  dec_byte _ (unpack b) (Nat.le_refl _) (unpack_bit b) v h
/-- A text that bytes are read as is not much longer than they. -/
theorem decF_len (b v : List Int) (hb : ∀ c ∈ b, 0 ≤ c ∧ c < 256) (h : decF b = some v) : 6 * v.length ≤ 8 * b.length := by
  have h1 := congrArg List.length (code_dec b v hb h)
  rw [code_len] at h1
  have h2 := (bitsL_len v).1
  omega
theorem code_byte (s : List Int) : ∀ x ∈ codeL s, 0 ≤ x ∧ x < 256 := by
  have hp : ∀ (k : Nat) (l : List Int), (∀ y ∈ l, y = 0 ∨ y = 1) → ∀ x ∈ pack k l, 0 ≤ x ∧ x < 256 := by
    intro k
    induction k with
    | zero => intro l _ x hx; cases hx
    | succ k ih =>
      intro l hl x hx
      rcases List.mem_cons.1 hx with rfl | hx
      · have hv := val_bd (l.take 8) (fun y hy => hl y (List.take_subset _ _ hy))
        have h8 : (l.take 8).length ≤ 8 := List.length_take_le _ _
        have hle : (2 : Nat) ^ (l.take 8).length ≤ 2 ^ 8 := Nat.pow_le_pow_right (by decide) h8
        have e : ((2 ^ (l.take 8).length : Nat) : Int) = (2 : Int) ^ (l.take 8).length := by simp
        omega
      · exact ih (l.drop 8) (fun y hy => hl y (List.drop_subset _ _ hy)) x hx
  exact hp _ _ (fill_bit _ (bitsL_bit s))
/-- Letters that are often alone. -/
theorem bits_often : ∀ (s : List Int), (∀ c ∈ s, 97 ≤ c ∧ c ≤ 122) → (bitsL s).length = 6 * s.length
  | [], _ => rfl
  | c :: s, h => by
    have ih := bits_often s (fun c hc => h c (List.mem_cons_of_mem _ hc))
    have hc := h c List.mem_cons_self
    have ho : 0 ≤ oidx c := by
      have h1 : ∀ j : Fin 26, 0 ≤ oidx (97 + (j.val : Int)) := by decide
      have h2 := h1 ⟨(c - 97).toNat, by omega⟩
      have e : 97 + (((c - 97).toNat : Nat) : Int) = c := by omega
      have h3 : 0 ≤ oidx (97 + (((c - 97).toNat : Nat) : Int)) := h2
      rw [e] at h3
      exact h3
    have h1 := code1_len c
    rw [if_pos ho] at h1
    rw [bitsL_cons, List.length_append, h1, ih, List.length_cons]; omega
end Go.Proofs.YtkjfhgoddhigmacDoor
