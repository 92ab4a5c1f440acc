/-
  CONTRACT of the method Find of the developers' table. No claim by itself.
-/
import Derived.Test.YtkjfhgoddhigmacDoorDtab2
namespace Go.Proofs.YtkjfhgoddhigmacDoor
open Go.RowKit
/-- What was found of a name so far: a number, or none yet. -/
def NSo (n : ByteArray) (L : List (ByteArray × ByteArray)) (k m : Nat) : Prop := (m = 0 ∧ fnd (isN n) L 0 = fnd (isN n) (L.drop k) k) ∨ (0 < m ∧ fnd (isN n) L 0 = m)
theorem NSo.hit {n : ByteArray} {L : List (ByteArray × ByteArray)} {k m : Nat} (h : NSo n L k 0) (e : fnd (isN n) (L.drop k) k = m) : fnd (isN n) L 0 = m := by
  rcases h with ⟨_, h⟩ | ⟨h, _⟩
  · exact h.trans e
  · omega
theorem NSo.got {n : ByteArray} {L : List (ByteArray × ByteArray)} {k m : Nat} (h : NSo n L k m) (hm : 0 < m) : fnd (isN n) L 0 = m := by
  rcases h with ⟨h, _⟩ | ⟨_, h⟩
  · omega
  · exact h
set_option maxRecDepth 100000 in
set_option maxHeartbeats 4000000 in
theorem tfind : TFindSaid TabP := by
  intro tb max A S n v w hD hF
  unfold tval
  have heq := run_eqlF
  have hgd := eqGuardF
  have hAl := hF.len
  have HL : Hid ((alwaysL ++ A).length = 12 + A.length) := by show _ = _; rw [List.length_append, always_len]
  have hb1 : Below w.heap.size w (w.alloc (.cells #[.string n, .string v] 33)) := (Below.refl _ _).alloc (Nat.le_refl _) _
  have HD : Hid (∀ wx, Below w.heap.size w wx → TabP wx tb max A S) := fun wx hb => tabKeeps.below hD hb
  have HF := hide hF
  clear hD hF
  go_enter Tryd.func25, Tryd.ntmps25
  go_wp2_with fail
  obtain ⟨w1, hw1⟩ : ∃ w1, w1 = w.alloc (.cells #[.string n, .string v] 33) := ⟨_, rfl⟩
  have hs1 : w1.heap.size = w.heap.size + 1 := by rw [hw1]; simp
  have c0 : w1.cell? ⟨w.heap.size, 0, none⟩ = some (.string n) := by rw [hw1]; simp
  have c1 : w1.cell? ⟨w.heap.size, 1, none⟩ = some (.string v) := by rw [hw1]; simp
  rw [← hw1] at hb1 ⊢
  clear hw1
  go_loopw [5, 6] (fun x i wr => ∃ k m : Nat, i = .int .i64 ((k : Int) + 1) ∧ k ≤ 12 + A.length ∧ x = .int .i64 (m : Int) ∧ m ≤ 12 + A.length ∧ Hid (fnd (isF n v) (alwaysL ++ A) 0 = fnd (isF n v) ((alwaysL ++ A).drop k) k) ∧ Hid (NSo n (alwaysL ++ A) k m) ∧ Below w1.heap.size w1 wr) (fun _ i _ => (12 + A.length + 1) - (intOf i).toNat)
  case atStart => exact ⟨0, 0, rfl, by omega, rfl, by omega, rfl, Or.inl ⟨rfl, rfl⟩, Below.refl _ _⟩
  case round =>
    obtain ⟨k, m, rfl, hk, rfl, hm, HW, HN, hbel⟩ := hrel
    have hsz := hbel.size
    have hBw : Below w.heap.size w wr := hb1.trans (hbel.mono (by omega))
    have hlen := len_read tb max A S wr (HD.out wr hBw) HF.out
    by_cases hlt : k < 12 + A.length
    · have hat := at_any tb max A S k wr (HD.out wr hBw) HF.out hlt
      have FW := fnd_step (isF n v) (alwaysL ++ A) k (by rw [HL.out]; omega)
      have FN := fnd_step (isN n) (alwaysL ++ A) k (by rw [HL.out]; omega)
      have d1 : decide ((k : Int) + 1 ≤ ((12 + A.length : Nat) : Int)) = true := by simp; omega
      generalize hx : ((12 + A.length : Nat) : Int) = x at *
      clear hx
      generalize (alwaysL ++ A).getD k fnone = f at *
      obtain ⟨fn, fv⟩ := f
      have HFW := hide FW
      have HFN := hide FN
      clear FW FN
      go_wp2_with fail
      refine hlen.mono ?_
      rintro e w' ⟨rfl, rfl⟩
      go_wp2_with fail
      refine hat.mono ?_
      rintro e w2 ⟨rfl, hb2⟩
      have hb3 : Below w1.heap.size w1 w2 := hbel.trans (hb2.mono hsz)
      have hs2 := hb2.size
      have k0 : w2.cell? ⟨w.heap.size, 0, none⟩ = some (.string n) := (hb3.cell (p := ⟨w.heap.size, 0, none⟩) (by show w.heap.size < w1.heap.size; omega)).trans c0
      have k1 : w2.cell? ⟨w.heap.size, 1, none⟩ = some (.string v) := (hb3.cell (p := ⟨w.heap.size, 1, none⟩) (by show w.heap.size < w1.heap.size; omega)).trans c1
      have hlw : w.heap.size < w2.heap.size := by omega
      clear hlen hat c0 c1 hb2
      have hmc : m = 0 ∨ 0 < m := by omega
      have hnc : (fn.toList == n.toList) = true ∨ (fn.toList == n.toList) = false := by cases (fn.toList == n.toList) <;> simp
      have hvc : (fv.toList == v.toList) = true ∨ (fv.toList == v.toList) = false := by cases (fv.toList == v.toList) <;> simp
      rcases hmc with rfl | hm0 <;> rcases hnc with hn | hn <;> rcases hvc with hv | hv
      all_goals
        have e1 := HFW.out
        have e2 := HFN.out
        simp [isF, isN, hn, hv] at e1 e2
        have E1 := hide (HW.out.trans e1)
        have E2 := hide e2
        clear e1 e2 HFW HFN
      · have E3 := hide (HN.out.hit E2.out)
        go_wp2
        go_ret2
        refine ⟨?_, hb1.trans ((hb3.mono (by omega)).alloc (by omega) _)⟩
        rw [E1.out, E3.out]; push_cast; rfl
      · have E3 := hide (HN.out.hit E2.out)
        go_wp2
        go_roundw
        case rel => exact ⟨k + 1, k + 1, by go_num, by omega, by go_num, by omega, E1.out, Or.inr ⟨by omega, E3.out⟩, hb3.alloc (by omega) _⟩
        case measure => simp [intOf]; omega
      · have E3 := hide (HN.out.hit E2.out)
        go_wp2
        go_roundw
        case rel => exact ⟨k + 1, 0, by go_num, by omega, by go_num, by omega, E1.out, Or.inl ⟨rfl, E3.out⟩, hb3.alloc (by omega) _⟩
        case measure => simp [intOf]; omega
      · have E3 := hide (HN.out.hit E2.out)
        go_wp2
        go_roundw
        case rel => exact ⟨k + 1, 0, by go_num, by omega, by go_num, by omega, E1.out, Or.inl ⟨rfl, E3.out⟩, hb3.alloc (by omega) _⟩
        case measure => simp [intOf]; omega
      · have E3 := hide (HN.out.got hm0)
        have hnz : ¬ ((m : Int) = 0) := by omega
        go_wp2
        go_ret2
        refine ⟨?_, hb1.trans ((hb3.mono (by omega)).alloc (by omega) _)⟩
        rw [E1.out, E3.out]; push_cast; rfl
      all_goals
        have E3 := hide (HN.out.got hm0)
        have hnz : ¬ ((m : Int) = 0) := by omega
        go_wp2
        go_roundw
        case rel => exact ⟨k + 1, m, by go_num, by omega, rfl, by omega, E1.out, Or.inr ⟨hm0, E3.out⟩, hb3.alloc (by omega) _⟩
        case measure => simp [intOf]; omega
    · have hd : decide ((k : Int) + 1 ≤ ((12 + A.length : Nat) : Int)) = false := by simp; omega
      have hk2 : k = 12 + A.length := by omega
      have ed : (alwaysL ++ A).drop k = [] := List.drop_of_length_le (by rw [HL.out]; omega)
      have E1 : Hid (fnd (isF n v) (alwaysL ++ A) 0 = 0) := by show _ = _; rw [HW.out, ed]; rfl
      have E2 : Hid (fnd (isN n) (alwaysL ++ A) 0 = m) := by
        rcases Nat.eq_zero_or_pos m with h | h
        · subst h; exact HN.out.hit (by rw [ed]; rfl)
        · exact HN.out.got h
      generalize hx : ((12 + A.length : Nat) : Int) = x at *
      clear hx ed hlt hk2 hk hm
      go_wp2_with fail
      refine hlen.mono ?_
      rintro e w' ⟨rfl, rfl⟩
      clear hlen
      go_wp2
      go_ret2
      refine ⟨?_, hBw⟩
      rw [E1.out, E2.out]; rfl
end Go.Proofs.YtkjfhgoddhigmacDoor
