/-
  BYTES AS FIELDS: mathematics. No claim by itself.
-/
import Derived.Test.YtkjfhgoddhigmacDoorHmath2
import Derived.Laws.BytesArg
namespace Go.Proofs.YtkjfhgoddhigmacDoor
open Go
theorem rtF_bd (Z : List Int) (h : (rtF Z).2.2 = 0) : 1 ≤ (rtF Z).2.1 ∧ (rtF Z).2.1 ≤ Z.length := by
  have hb := getF_bd Z 7 (by decide) (by decide)
  unfold rtF at h ⊢
  split at h
  · rename_i h1
    exact absurd h h1
  · rename_i h1
    rw [if_neg h1]
    have h1' : (getF Z 7).2.2 = 0 := by simpa using h1
    obtain ⟨b1, b2, b3⟩ := hb h1'
    split at h
    · simp at h
    · rename_i h2
      rw [if_neg h2]
      split at h
      · simp at h
      · rename_i h3
        rw [if_neg h3]
        unfold rtB at h ⊢
        generalize (if 127 < Z.getD 0 0 then decF ((Z.drop (getF Z 7).2.1.toNat).take (getF Z 7).1.toNat) else some ((Z.drop (getF Z 7).2.1.toNat).take (getF Z 7).1.toNat)) = d at h ⊢
        match d with
        | none => simp [rtE] at h
        | some s =>
          by_cases q1 : 400 < s.length
          · rw [rtE_long _ _ _ q1] at h; simp at h
          · by_cases q2 : txtL s = Z.take ((getF Z 7).2.1.toNat + (getF Z 7).1.toNat)
            · rw [rtE_ok _ _ _ (by omega) q2]
              show 1 ≤ (((getF Z 7).2.1.toNat + (getF Z 7).1.toNat : Nat) : Int) ∧ (((getF Z 7).2.1.toNat + (getF Z 7).1.toNat : Nat) : Int) ≤ _
              omega
            · rw [rtE_bad _ _ _ (by omega) q2] at h; simp at h
/-- A field whose name is known, where its value is read. -/
def litV (Z : List Int) (name : ByteArray) (p : Nat) : (ByteArray × ByteArray) × Int × Int :=
  if (rtF (Z.drop p)).2.2 ≠ 0 then (fnone, 0, (rtF (Z.drop p)).2.2) else ((name, strOfNums (rtF (Z.drop p)).1), (p : Int) + (rtF (Z.drop p)).2.1, 0)
/-- A field that is not one of the table: the field, how many bytes, the fault. -/
def litF (A : List (ByteArray × ByteArray)) (Z : List Int) (bits : Int) : (ByteArray × ByteArray) × Int × Int :=
  if (getF Z bits).2.2 ≠ 0 then (fnone, 0, (getF Z bits).2.2)
  else if ((12 + A.length : Nat) : Int) < (getF Z bits).1 then (fnone, 0, 5)
  else if 0 < (getF Z bits).1 then litV Z ((alwaysL ++ A).getD ((getF Z bits).1 - 1).toNat fnone).1 (getF Z bits).2.1.toNat
  else if (rtF (Z.drop (getF Z bits).2.1.toNat)).2.2 ≠ 0 then (fnone, 0, (rtF (Z.drop (getF Z bits).2.1.toNat)).2.2)
  else litV Z (strOfNums (rtF (Z.drop (getF Z bits).2.1.toNat)).1) ((getF Z bits).2.1.toNat + (rtF (Z.drop (getF Z bits).2.1.toNat)).2.1.toNat)
end Go.Proofs.YtkjfhgoddhigmacDoor
