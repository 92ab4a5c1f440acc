/-
  CONTRACT of the method Add of the developers' table; all its contracts together. No claim by itself.
-/
import Derived.Test.YtkjfhgoddhigmacDoorDtab9
namespace Go.Proofs.YtkjfhgoddhigmacDoor
open Go.RowKit
set_option maxRecDepth 100000 in
set_option maxHeartbeats 4000000 in
theorem add_over (tb : Nat) (max : Int) (A : List (ByteArray × ByteArray)) (S : Nat → Prop) (n v : ByteArray) (w : World) (hD : TabP w tb max A S) (hF : Fit max A) (hnv : n.size + v.size ≤ 1152921504606846976) (hgt0 : max < (fsize (n, v) : Int)) :
    Calls Tryd.prog 27 #[.pointer (some ⟨tb, 0, none⟩), .agg #[.string n, .string v]] w fun e w' => e = .returned (.bool false) ∧ Off S w w' ∧ TabP w' tb max [] S := by
  have hw : weight A ≤ 4096 := by have h1 := hF.h1; have h2 := hF.h2; omega
  obtain ⟨W1, hW1⟩ : ∃ W1, W1 = (w.alloc (.cells #[.string n, .string v] 33)).alloc (.cells #[.string n, .string v] 33) := ⟨_, rfl⟩
  have hb1 : Below w.heap.size w W1 := by rw [hW1]; exact ((Below.refl _ _).alloc (Nat.le_refl _) _).alloc (by simp) _
  have hD1 := tabKeeps.below hD hb1
  have c0 : W1.cell? ⟨tb, 0, none⟩ = some (.int .i64 max) := by
    obtain ⟨_, v1, hb, _⟩ := hD1
    rw [cell_at hb]; rfl
  have hsh := shrink_any tb max 0 A S W1 hD1 hw (Int.le_refl _)
  rw [keepN_zero A A.length (Nat.le_refl _), List.take_zero] at hsh
  obtain ⟨y, hy⟩ : ∃ y, fsize (n, v) = y := ⟨_, rfl⟩
  rw [hy] at hgt0
  have HY := hide hy
  have HB := hide hb1
  have HSH := hide hsh
  have hgt : decide (max < (y : Int)) = true := by simpa using hgt0
  clear hD hD1 hy hF hw hb1 hsh
  go_enter Tryd.func27, Tryd.ntmps27
  go_wp2_with fail
  refine (sizeof_any n v _ hnv).mono ?_
  rintro e w' ⟨rfl, rfl⟩
  rw [HY.out, ← hW1]
  clear hW1
  go_wp2_with fail
  refine HSH.out.mono ?_
  rintro e w2 ⟨rfl, hoff, hD2⟩
  have HO := hide hoff
  have HD2 := hide hD2
  clear hoff hD2
  go_wp2
  go_ret
  exact ⟨rfl, (Off.of_below HB.out).trans HO.out, HD2.out⟩
end Go.Proofs.YtkjfhgoddhigmacDoor
