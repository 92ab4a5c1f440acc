/-
  TEXTS AS BYTES, and bytes as texts: mathematics. No claim by itself.
-/
import Derived.WalkKit
import Derived.WalkLawsBesides
import Derived.WalkSpells
import Derived.Laws.BytesArg
import Derived.Test.YtkjfhgoddhigmacDoorM08
import Derived.Test.YtkjfhgoddhigmacDoorProg
namespace Go.Proofs.YtkjfhgoddhigmacDoor
/-- A text's bytes. -/
def txtL (s : List Int) : List Int := if (codeL s).length < s.length then putL (codeL s).length 7 128 ++ codeL s else putL s.length 7 0 ++ s
/-- What is read of so many bytes, once they are decoded. -/
def rtE (Z : List Int) (m : Nat) : Option (List Int) → List Int × Int × Int
  | none => ([], 0, 2)
  | some s => if 400 < s.length then ([], 0, 4) else if txtL s = Z.take m then (s, (m : Int), 0) else ([], 0, 2)
theorem rtE_long (Z s : List Int) (m : Nat) (h : 400 < s.length) : rtE Z m (some s) = ([], 0, 4) := by
  show (if _ then _ else _) = _; rw [if_pos h]
theorem rtE_ok (Z s : List Int) (m : Nat) (h : s.length ≤ 400) (e : txtL s = Z.take m) : rtE Z m (some s) = (s, (m : Int), 0) := by
  show (if _ then _ else _) = _; rw [if_neg (by omega), if_pos e]
theorem rtE_bad (Z s : List Int) (m : Nat) (h : s.length ≤ 400) (e : ¬ txtL s = Z.take m) : rtE Z m (some s) = ([], 0, 2) := by
  show (if _ then _ else _) = _; rw [if_neg (by omega), if_neg e]
/-- What is read where so many bytes follow behind so many. -/
def rtB (Z : List Int) (n u : Nat) : List Int × Int × Int := rtE Z (u + n) (if 127 < Z.getD 0 0 then decF ((Z.drop u).take n) else some ((Z.drop u).take n))
/-- The text that bytes begin with: the text, how many bytes, the fault. -/
def rtF (Z : List Int) : List Int × Int × Int :=
  if (getF Z 7).2.2 ≠ 0 then ([], 0, (getF Z 7).2.2) else if 400 < (getF Z 7).1 then ([], 0, 4)
  else if (Z.length : Int) - (getF Z 7).2.1 < (getF Z 7).1 then ([], 0, 8) else rtB Z (getF Z 7).1.toNat (getF Z 7).2.1.toNat
theorem getR_bd : ∀ (Z : List Int) (i : Nat) (n : Int), 0 ≤ n → (getR Z i n).2.2 = 0 → 0 ≤ (getR Z i n).1 ∧ (i : Int) + 2 ≤ (getR Z i n).2.1 ∧ (getR Z i n).2.1 ≤ i + 1 + Z.length
  | [], _, _, _, h => by simp [getR] at h
  | c :: cs, i, n, hn, h => by
    unfold getR at h ⊢
    split at h
    · simp at h
    · rename_i h1
      rw [if_neg h1]
      split at h
      · simp at h
      · rename_i h2
        rw [if_neg h2]
        have hp : 0 ≤ c % 128 * 128 ^ i := Int.mul_nonneg (by omega) (Int.pow_nonneg (by decide))
        split at h
        · rename_i h3
          rw [if_pos h3]
          refine ⟨by show 0 ≤ n + _; omega, by show (i : Int) + 2 ≤ (i : Int) + 2; omega, ?_⟩
          show (i : Int) + 2 ≤ _
          simp; omega
        · rename_i h3
          rw [if_neg h3]
          have ih := getR_bd cs (i + 1) (n + c % 128 * 128 ^ i) (by omega) h
          simp at ih ⊢
          omega
theorem getF_bd (Z : List Int) (b : Int) (h1 : 1 ≤ b) (h2 : b ≤ 8) (h : (getF Z b).2.2 = 0) : 0 ≤ (getF Z b).1 ∧ 1 ≤ (getF Z b).2.1 ∧ (getF Z b).2.1 ≤ Z.length := by
  have gb := gr_bd b h1 h2
  unfold getF at h ⊢
  rw [if_neg (by omega)] at h ⊢
  match Z, h with
  | [], h => simp at h
  | z :: zs, h =>
    simp only at h ⊢
    split at h
    · rename_i h3
      rw [if_pos h3]
      refine ⟨by show 0 ≤ z % (gr b + 1); exact Int.emod_nonneg _ (by omega), by show (1 : Int) ≤ 1; omega, ?_⟩
      show (1 : Int) ≤ _
      simp; omega
    · rename_i h3
      rw [if_neg h3]
      have := getR_bd zs 0 (gr b) (by omega) h
      simp at this ⊢
      omega
theorem getR_used : ∀ (Z : List Int) (i : Nat) (n : Int), 0 ≤ (getR Z i n).2.1 ∧ (getR Z i n).2.1 ≤ i + 1 + Z.length
  | [], _, _ => by simp [getR]; omega
  | c :: cs, i, n => by
    unfold getR
    split
    · simp; omega
    · split
      · simp; omega
      · split
        · simp; omega
        · have ih := getR_used cs (i + 1) (n + c % 128 * 128 ^ i)
          simp at ih ⊢
          omega
theorem getF_used (Z : List Int) (b : Int) : 0 ≤ (getF Z b).2.1 ∧ (getF Z b).2.1 ≤ Z.length := by
  unfold getF
  split
  · simp
  · match Z with
    | [] => simp
    | z :: zs =>
      simp only
      split
      · simp; omega
      · have := getR_used zs 0 (gr b)
        simp at this ⊢
        omega
theorem getF_nil : getF [] 7 = (0, 0, 8) := by decide
theorem txt_len (s : List Int) (h : s.length ≤ 400) : 1 ≤ (txtL s).length ∧ (txtL s).length ≤ 406 := by
  unfold txtL
  split
  · have h1 := putL_len ((codeL s).length : Int) 7 128
    rw [List.length_append]; omega
  · have h1 := putL_len (s.length : Int) 7 0
    rw [List.length_append]; omega
end Go.Proofs.YtkjfhgoddhigmacDoor
/-
  ROWS OF BYTES: what is known of them, later too. No claim by itself.
-/
namespace Go.Proofs.YtkjfhgoddhigmacDoor
open Go.RowKit
/-- The numbers in a row of bytes. -/
structure Row (w : World) (g off len cap : Nat) (Z : List Int) : Prop where
  hlen : Z.length = len
  hcap : len ≤ cap
  hmax : cap ≤ maxLen
  hcell : ∀ t, t < len → w.cell? ⟨g, off + t, none⟩ = some (.int .u8 (Z.getD t 0))
  hbyte : ∀ t, 0 ≤ Z.getD t 0 ∧ Z.getD t 0 < 256
theorem Row.below {w w' : World} {g off len cap : Nat} {Z : List Int} (h : Row w g off len cap Z) (hb : Below w.heap.size w w') : Row w' g off len cap Z := by
  refine ⟨h.hlen, h.hcap, h.hmax, fun t ht => ?_, h.hbyte⟩
  have hc := h.hcell t ht
  have hlt : g < w.heap.size := by
    rcases Nat.lt_or_ge g w.heap.size with h1 | h1
    · exact h1
    · simp [World.cell?, Array.getElem?_eq_none h1] at hc
  exact (hb.cell (p := ⟨g, off + t, none⟩) hlt).trans hc
theorem own_below {w w' : World} {base n : Nat} {v : Value} {xs : List Value} (h : w.ownsRow base 5 1 v n xs) (hb : Below w.heap.size w w') : w'.ownsRow base 5 1 v n xs := by
  obtain ⟨h1, h2 | ⟨g, cap, cur, hv, hg, hc, r⟩⟩ := h
  · exact ⟨h1, Or.inl h2⟩
  · have hlt : g < w.heap.size := by
      rcases Nat.lt_or_ge g w.heap.size with h3 | h3
      · exact h3
      · rw [Array.getElem?_eq_none h3] at hc; simp at hc
    exact ⟨h1, Or.inr ⟨g, cap, cur, hv, hg, by rw [hb.block g hlt]; exact hc, r⟩⟩
theorem row_of {w : World} {base l cap g : Nat} {L : List Int} (hl : L.length = l) (h : w.ownsRow base 5 1 (.slice (some ⟨g, 0, none⟩) l cap) l (L.map (Value.int .u8))) (hb : ∀ x ∈ L, 0 ≤ x ∧ x < 256) : Row w g 0 l cap L := by
  have hcap : l ≤ cap ∧ cap ≤ maxLen := by
    obtain ⟨_, ⟨hv, _⟩ | ⟨g', cap', cur, hv, _, _, hc, hm, _⟩⟩ := h
    · cases hv
    · cases hv; exact ⟨hc, hm⟩
  refine ⟨hl, hcap.1, hcap.2, fun t ht => ?_, fun t => ?_⟩
  · have hc := h.cellAt t (by omega)
    rw [Nat.zero_add, hc]
    simp [List.getElem?_eq_getElem (show t < L.length by omega)]
  · by_cases ht : t < L.length
    · have hmem : L.getD t 0 ∈ L := by
        rw [List.getD, List.getElem?_eq_getElem ht]
        exact List.getElem_mem _
      exact hb _ hmem
    · have e : L.getD t 0 = 0 := by simp [List.getD, List.getElem?_eq_none (show L.length ≤ t by omega)]
      rw [e]; decide
theorem Row.take {w : World} {g off len cap : Nat} {Z : List Int} (h : Row w g off len cap Z) (s : Nat) (hs : s ≤ len) : Row w g off s cap (Z.take s) := by
  have hl := h.hlen
  have hc := h.hcap
  refine ⟨by simp; omega, by omega, h.hmax, fun t ht => ?_, fun t => ?_⟩
  · have e : (Z.take s).getD t 0 = Z.getD t 0 := by simp [List.getD, ht]
    rw [e]; exact h.hcell t (by omega)
  · by_cases ht : t < s
    · have e : (Z.take s).getD t 0 = Z.getD t 0 := by simp [List.getD, ht]
      rw [e]; exact h.hbyte t
    · have e : (Z.take s).getD t 0 = 0 := by simp [List.getD, List.getElem?_take, ht]
      rw [e]; decide
end Go.Proofs.YtkjfhgoddhigmacDoor
