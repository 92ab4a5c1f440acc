/-
  WHAT BECOMES OF A STREAM, as the document says; the walk of the law StreamSteps. No claim by itself.
-/
import Derived.Test.YthphblmoeomeoadDoorSst1
import Derived.Test.YthphblmoeomeoadDoorTold
namespace Go.Proofs.YthphblmoeomeoadDoor
open Go.RowKit
set_option maxRecDepth 100000
theorem st_cases (s : Int) : s = 0 ∨ s = 1 ∨ s = 2 ∨ s = 3 ∨ s = 4 ∨ ((s == 0) = false ∧ (s == 1) = false ∧ (s == 2) = false ∧ (s == 3) = false ∧ (s == 4) = false ∧ ¬ (1 ≤ s)) ∨ ((s == 0) = false ∧ (s == 1) = false ∧ (s == 2) = false ∧ (s == 3) = false ∧ (s == 4) = false ∧ 1 ≤ s ∧ ¬ (s ≤ 4)) := by
  simp only [beq_eq_false_iff_ne]
  omega
theorem kd_cases (k : Int) : k = 0 ∨ k = 1 ∨ k = 3 ∨ k = 7 ∨ ((k == 0) = false ∧ (k == 1) = false ∧ (k == 3) = false ∧ (k == 7) = false) := by
  simp only [beq_eq_false_iff_ne]
  omega
set_option maxHeartbeats 4000000 in
theorem rhear_any (s k : Int) (e : Bool) (w : World) :
    Calls Tryd.prog 4 #[.int .i64 s, .int .i64 k, .bool e] w fun r w' => r = .returned (.tuple #[.int .i64 (hearF s k e).1, .int .i64 (hearF s k e).2.1, .bool (hearF s k e).2.2]) ∧ w = w' := by
  cases e <;> rcases st_cases s with rfl | rfl | rfl | rfl | rfl | ⟨a0, a1, a2, a3, a4, a5⟩ | ⟨a0, a1, a2, a3, a4, a5, a6⟩ <;> rcases kd_cases k with rfl | rfl | rfl | rfl | ⟨b0, b1, b3, b7⟩ <;>
  (go_enter Tryd.func4, Tryd.ntmps4
   go_wp2
   go_ret3
   refine ⟨?_, rfl⟩
   first | rfl | (simp only [beq_eq_false_iff_ne] at *; have hb : begunF s = false := by (simp [begunF]; omega)
                  simp [hearF, *]) | (simp only [beq_eq_false_iff_ne] at *; simp [hearF, begunF, *]))
set_option maxHeartbeats 4000000 in
theorem rsay_any (s k : Int) (e : Bool) (w : World) :
    Calls Tryd.prog 6 #[.int .i64 s, .int .i64 k, .bool e] w fun r w' => r = .returned (.tuple #[.int .i64 (sayF s k e).1, .int .i64 (sayF s k e).2]) ∧ w = w' := by
  cases e <;> rcases st_cases s with rfl | rfl | rfl | rfl | rfl | ⟨a0, a1, a2, a3, a4, a5⟩ | ⟨a0, a1, a2, a3, a4, a5, a6⟩ <;> rcases kd_cases k with rfl | rfl | rfl | rfl | ⟨b0, b1, b3, b7⟩ <;>
  (go_enter Tryd.func6, Tryd.ntmps6
   go_wp2
   go_ret2
   refine ⟨?_, rfl⟩
   first | rfl | (simp only [beq_eq_false_iff_ne] at *; have hb : begunF s = false := by (simp [begunF]; omega)
                  simp [sayF, *]) | (simp only [beq_eq_false_iff_ne] at *; simp [sayF, begunF, *]))
theorem say_err (s k : Int) (e : Bool) : (sayF s k e).2 = 0 ∨ (sayF s k e).2 = 6 := by
  unfold sayF
  repeat' split
  all_goals simp
set_option maxHeartbeats 4000000 in
theorem steps_ok (s k : Int) (e : Bool) (w : World) (hg : Laid w) :
    Calls Tryd.prog 3 #[.int .i64 s, .int .i64 k, .bool e] w fun r w' => r = .returned (.bool true) ∧ Below w.heap.size w w' := by
  have C1 := vl (rhear_any s k e w)
  have C2 := vl (hear_any s k e w)
  have C3 := vl (rsay_any s k e w)
  have C4 := vl (say_any s k e w)
  have C5 : Vl (Calls Tryd.prog 8 #[errV (sayF s k e).2, .int .i64 (sayF s k e).2] w fun r w' => r = .returned (.bool true) ∧ Below w.heap.size w w') := by
    show Calls _ _ _ _ _
    rcases say_err s k e with h | h
    · rw [h]
      refine (error_nil 0 w).mono ?_
      rintro r w' ⟨rfl, rfl⟩
      exact ⟨rfl, Below.refl _ _⟩
    · rw [h]
      refine (error_hit 6 6 w hg).mono ?_
      rintro r w' ⟨rfl, hb⟩
      exact ⟨rfl, hb⟩
  generalize errV (sayF s k e).2 = x at C4 C5
  generalize sayF s k e = p at C3 C4 C5
  generalize hearF s k e = q at C1 C2
  obtain ⟨p1, p2⟩ := p
  obtain ⟨q1, q2, q3⟩ := q
  clear hg
  go_enter Tryd.func3, Tryd.ntmps3
  go_wp2_with fail
  refine C1.out.mono ?_
  rintro r w' ⟨rfl, rfl⟩
  clear C1
  go_wp2_with fail
  refine C2.out.mono ?_
  rintro r w' ⟨rfl, rfl⟩
  clear C2
  go_wp2_with fail
  refine C3.out.mono ?_
  rintro r w' ⟨rfl, rfl⟩
  clear C3
  go_wp2_with fail
  refine C4.out.mono ?_
  rintro r w' ⟨rfl, rfl⟩
  clear C4
  go_wp2_with fail
  refine C5.out.mono ?_
  rintro r w' ⟨rfl, hb⟩
  clear C5
  have HB := vl hb
  clear hb
  go_wp2
  go_ret
  exact ⟨rfl, HB.out⟩
end Go.Proofs.YthphblmoeomeoadDoor
