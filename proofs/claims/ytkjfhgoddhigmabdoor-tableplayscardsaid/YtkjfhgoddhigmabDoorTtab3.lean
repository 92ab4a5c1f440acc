/-
  CONTRACTS of the method Find of tollref1.T. No claim by itself.
-/
import Derived.Test.YtkjfhgoddhigmabDoorTtab2
import Derived.Laws.StructEq
namespace Go.Proofs.YtkjfhgoddhigmabDoor
open Go.RowKit
set_option maxHeartbeats 2000000 in
theorem find_loop (tb : Nat) (L : List (ByteArray × ByteArray)) (n v : ByteArray) (w : World) (N : Nat) (hN : N ≤ 1048588)
    (hall : ∀ wx : World, Below w.heap.size w wx → Calls Tryd.prog 15 #[.pointer (some ⟨tb, 0, none⟩)] wx fun e w' => ∃ gg cc, e = .returned (.slice (some ⟨gg, 0, none⟩) N cc) ∧ FRow w' gg 0 N cc L ∧ Below wx.heap.size wx w') :
    Calls Tryd.prog 14 #[.pointer (some ⟨tb, 0, none⟩), .agg #[.string n, .string v]] w fun e w' => e = .returned (.tuple #[.int .i64 (fnd (isF n v) L 0), .int .i64 (fnd (isN n) L 0)]) ∧ Below w.heap.size w w' := by
  have heq := run_eqlF
  have hgd := eqGuardF
  have HALL := hide hall
  clear hall
  go_enter Tryd.func14, Tryd.ntmps14
  go_wp2_with fail
  refine (HALL.out _ ((Below.refl _ _).alloc (Nat.le_refl _) _)).mono ?_
  rintro e w1 ⟨gg, cc, rfl, hr, hb1⟩
  have hl := hr.hlen
  have hcap := hr.hcap
  have hmax := hr.hmax
  unfold maxLen at hmax
  have s1 := hb1.size
  simp at s1
  have hB : Below w.heap.size w w1 := ((Below.refl _ _).alloc (Nat.le_refl _) _).trans (hb1.mono (by simp))
  have k1 : w1.cell? ⟨w.heap.size, 0, none⟩ = some (.string n) := by
    rw [hb1.cell (p := ⟨w.heap.size, 0, none⟩) (by simp)]; simp
  have k2 : w1.cell? ⟨w.heap.size, 1, none⟩ = some (.string v) := by
    rw [hb1.cell (p := ⟨w.heap.size, 1, none⟩) (by simp)]; simp
  have HR : Hid (FRow w1 gg 0 N cc L) := hr
  have HLn : Hid (L.length = N) := hl
  clear HALL hl hr
  go_wp2_with fail
  go_loopw [7, 8, 9] (fun x y i wr => ∃ k : Nat, i = .int .i64 ((k : Int) - 1) ∧ k ≤ N ∧ x = .int .i64 (fnd (isF n v) (L.drop k) k) ∧ y = .int .i64 (fnd (isN n) (L.drop k) k) ∧ ∃ m, wr = w1.drewN m) (fun _ _ i _ => (intOf i + 1).toNat)
  case atStart => exact ⟨N, rfl, Nat.le_refl _, by rw [List.drop_of_length_le (by rw [HLn.out]; exact Nat.le_refl _)]; rfl, by rw [List.drop_of_length_le (by rw [HLn.out]; exact Nat.le_refl _)]; rfl, 0, rfl⟩
  case round =>
    obtain ⟨k, rfl, hk, rfl, rfl, m, rfl⟩ := hrel
    by_cases hk0 : k = 0
    · subst hk0
      go_wp2
      go_ret2
      exact ⟨rfl, drewN_below hB _⟩
    · obtain ⟨j, rfl⟩ : ∃ j, k = j + 1 := ⟨k - 1, by omega⟩
      have ej : (((j + 1 : Nat) : Int) - 1) = (j : Int) := by omega
      rw [ej]
      have HW := fnd_step (isF n v) L j (by rw [HLn.out]; omega)
      have HM := fnd_step (isN n) L j (by rw [HLn.out]; omega)
      have b1 := fnd_le (isF n v) (L.drop (j + 1)) (j + 1)
      have b2 := fnd_le (isN n) (L.drop (j + 1)) (j + 1)
      rw [List.length_drop, HLn.out] at b1 b2
      have q1 := HR.out.hname j (by omega)
      have q2 := HR.out.hvalue j (by omega)
      rw [Nat.zero_add] at q1 q2
      generalize L.getD j fnone = f at *
      obtain ⟨fn, fv⟩ := f
      generalize fnd (isF n v) (L.drop (j + 1)) (j + 1) = x at *
      generalize fnd (isN n) (L.drop (j + 1)) (j + 1) = y at *
      have HW2 := hide HW
      have HM2 := hide HM
      clear HW HM
      have hj0 : (0 : Int) ≤ (j : Int) := Int.natCast_nonneg _
      have hj1 : (j : Int) < (N : Int) := by omega
      have hnc : (fn.toList == n.toList) = true ∨ (fn.toList == n.toList) = false := by cases (fn.toList == n.toList) <;> simp
      have hvc : (fv.toList == v.toList) = true ∨ (fv.toList == v.toList) = false := by cases (fv.toList == v.toList) <;> simp
      rcases hnc with hn | hn <;> rcases hvc with hv | hv
      all_goals
        have e1 := HW2.out
        have e2 := HM2.out
        simp [isF, isN, hn, hv] at e1 e2
        have E1 := hide e1
        have E2 := hide e2
        clear e1 e2 HW2 HM2
        go_wp2_with fail
        go_quiet (fail)
        go_wp2_with fail
        go_quiet (fail)
        go_wp2
        go_roundw
        case rel => exact ⟨j, rfl, by omega, by (rw [E1.out]; try go_num), by (rw [E2.out]; try go_num), _, rfl⟩
        case measure => simp [intOf]
end Go.Proofs.YtkjfhgoddhigmabDoor
