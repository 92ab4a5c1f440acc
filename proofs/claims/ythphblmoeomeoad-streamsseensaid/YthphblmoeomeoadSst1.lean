/-
  WHAT BECOMES OF A STREAM: the Go functions stream.Hear and stream.Say. No claim by itself.
-/
import Derived.Test.YthphblmoeomeoadVl
namespace Go.Proofs.Ythphblmoeomeoad
open Go.RowKit
set_option maxRecDepth 100000
def begunF (s : Int) : Bool := decide (1 ≤ s) && decide (s ≤ 4)
/-- A frame comes: the state then, the code, whether it is wrong for all. -/
def hearF (s k : Int) (e : Bool) : Int × Int × Bool :=
  if k = 0 ∨ k = 1 then
    (if s = 0 then (if k = 1 then (if e then 2 else 1, 0, false) else (s, 1, true))
     else if s = 1 then (if e then 2 else 1, 0, false)
     else if s = 3 then (if e then 4 else 3, 0, false)
     else if s = 2 then (4, 5, false)
     else if s = 4 then (4, 5, true)
     else (s, 1, true))
  else if k = 3 ∧ begunF s = true then (4, 0, false)
  else if k = 7 ∧ begunF s = true then (s, 0, false)
  else (s, 1, true)
/-- A frame goes out: the state then, the error. -/
def sayF (s k : Int) (e : Bool) : Int × Int :=
  if (k = 0 ∨ k = 1) ∧ s = 1 then (if e then 3 else 1, 0)
  else if (k = 0 ∨ k = 1) ∧ s = 2 then (if e then 4 else 2, 0)
  else if k = 3 ∧ begunF s = true then (4, 0)
  else if k = 7 ∧ (s = 1 ∨ s = 3) then (s, 0)
  else (0, 6)
def errV (n : Int) : Value := if n = 0 then .nilIface else .iface 58 (.int .i64 n)
theorem after_any (e : Bool) (x y : Int) (w : World) : Calls Try.prog 30 #[.bool e, .int .i64 x, .int .i64 y] w fun r w' => r = .returned (.int .i64 (if e then x else y)) ∧ w = w' := by
  cases e <;> (go_enter Try.func30, Try.ntmps30; go_wp2; go_ret; exact ⟨rfl, rfl⟩)
theorem begun_any (s : Int) (w : World) : Calls Try.prog 28 #[.int .i64 s] w fun r w' => r = .returned (.bool (begunF s)) ∧ w = w' := by
  unfold begunF
  by_cases h1 : 1 ≤ s <;> by_cases h2 : s ≤ 4 <;> simp only [h1, h2, decide_true, decide_false, Bool.and_true, Bool.and_false] <;>
  (go_enter Try.func28, Try.ntmps28; go_wp2; go_ret; exact ⟨rfl, rfl⟩)
theorem hearPart_any (s k : Int) (e : Bool) (w : World) (hk : k = 0 ∨ k = 1) :
    Calls Try.prog 29 #[.int .i64 s, .int .i64 k, .bool e] w fun r w' => r = .returned (.tuple #[.int .i64 (hearF s k e).1, .int .i64 (hearF s k e).2.1, .bool (hearF s k e).2.2]) ∧ w = w' := by
  have H : ∀ x : Int × Int × Bool, hearF s k e = x → Calls Try.prog 29 #[.int .i64 s, .int .i64 k, .bool e] w (fun r w' => r = .returned (.tuple #[.int .i64 x.1, .int .i64 x.2.1, .bool x.2.2]) ∧ w = w') →
      Calls Try.prog 29 #[.int .i64 s, .int .i64 k, .bool e] w fun r w' => r = .returned (.tuple #[.int .i64 (hearF s k e).1, .int .i64 (hearF s k e).2.1, .bool (hearF s k e).2.2]) ∧ w = w' := fun x h c => by rw [h]; exact c
  by_cases h0 : s = 0
  · subst h0
    rcases hk with rfl | rfl
    · refine H (0, 1, true) (by simp [hearF]) ?_
      clear H
      go_enter Try.func29, Try.ntmps29
      go_wp2
      all_goals (go_ret3; exact ⟨rfl, rfl⟩)
    · refine H (if e then 2 else 1, 0, false) (by simp [hearF]) ?_
      clear H
      go_enter Try.func29, Try.ntmps29
      go_wp2_with fail
      refine (after_any _ _ _ _).mono ?_
      rintro r w' ⟨rfl, rfl⟩
      go_wp2
      all_goals (go_ret3; exact ⟨rfl, rfl⟩)
  by_cases h1 : s = 1
  · subst h1
    refine H (if e then 2 else 1, 0, false) (by simp [hearF, hk]) ?_
    clear H hk
    go_enter Try.func29, Try.ntmps29
    go_wp2_with fail
    refine (after_any _ _ _ _).mono ?_
    rintro r w' ⟨rfl, rfl⟩
    go_wp2
    all_goals (go_ret3; exact ⟨rfl, rfl⟩)
  by_cases h3 : s = 3
  · subst h3
    refine H (if e then 4 else 3, 0, false) (by simp [hearF, hk]) ?_
    clear H hk
    go_enter Try.func29, Try.ntmps29
    go_wp2_with fail
    refine (after_any _ _ _ _).mono ?_
    rintro r w' ⟨rfl, rfl⟩
    go_wp2
    all_goals (go_ret3; exact ⟨rfl, rfl⟩)
  by_cases h2 : s = 2
  · subst h2
    refine H (4, 5, false) (by simp [hearF, hk]) ?_
    clear H hk
    go_enter Try.func29, Try.ntmps29
    go_wp2
    all_goals (go_ret3; exact ⟨rfl, rfl⟩)
  by_cases h4 : s = 4
  · subst h4
    refine H (4, 5, true) (by simp [hearF, hk]) ?_
    clear H hk
    go_enter Try.func29, Try.ntmps29
    go_wp2
    all_goals (go_ret3; exact ⟨rfl, rfl⟩)
  refine H (s, 1, true) (by simp [hearF, hk, h0, h1, h2, h3, h4]) ?_
  clear H hk
  go_enter Try.func29, Try.ntmps29
  go_wp2
  all_goals (go_ret3; exact ⟨rfl, rfl⟩)
theorem hear_any (s k : Int) (e : Bool) (w : World) :
    Calls Try.prog 20 #[.int .i64 s, .int .i64 k, .bool e] w fun r w' => r = .returned (.tuple #[.int .i64 (hearF s k e).1, .int .i64 (hearF s k e).2.1, .bool (hearF s k e).2.2]) ∧ w = w' := by
  by_cases hk : k = 0 ∨ k = 1
  · have HP := vl (hearPart_any s k e w hk)
    generalize hearF s k e = x at HP
    rcases hk with rfl | rfl <;>
    (go_enter Try.func20, Try.ntmps20
     go_wp2_with fail
     refine HP.out.mono ?_
     rintro r w' ⟨rfl, rfl⟩
     go_wp2
     all_goals (go_ret3; exact ⟨rfl, rfl⟩))
  have k0 : ¬ k = 0 := fun h => hk (Or.inl h)
  have k1 : ¬ k = 1 := fun h => hk (Or.inr h)
  have HB := vl (begun_any s w)
  by_cases k3 : k = 3
  · subst k3
    unfold hearF
    cases hb : begunF s
    · rw [if_neg hk, if_neg (by simp), if_neg (by simp)]
      rw [hb] at HB
      clear hk hb
      go_enter Try.func20, Try.ntmps20
      go_wp2_with fail
      refine HB.out.mono ?_
      rintro r w' ⟨rfl, rfl⟩
      go_wp2
      all_goals (go_ret3; exact ⟨rfl, rfl⟩)
    · rw [if_neg hk, if_pos (by simp)]
      rw [hb] at HB
      clear hk hb
      go_enter Try.func20, Try.ntmps20
      go_wp2_with fail
      refine HB.out.mono ?_
      rintro r w' ⟨rfl, rfl⟩
      go_wp2
      all_goals (go_ret3; exact ⟨rfl, rfl⟩)
  by_cases k7 : k = 7
  · subst k7
    unfold hearF
    cases hb : begunF s
    · rw [if_neg hk, if_neg (by simp), if_neg (by simp)]
      rw [hb] at HB
      clear hk hb
      go_enter Try.func20, Try.ntmps20
      go_wp2_with fail
      refine HB.out.mono ?_
      rintro r w' ⟨rfl, rfl⟩
      go_wp2
      all_goals (go_ret3; exact ⟨rfl, rfl⟩)
    · rw [if_neg hk, if_neg (by simp), if_pos (by simp)]
      rw [hb] at HB
      clear hk hb
      go_enter Try.func20, Try.ntmps20
      go_wp2_with fail
      refine HB.out.mono ?_
      rintro r w' ⟨rfl, rfl⟩
      go_wp2
      all_goals (go_ret3; exact ⟨rfl, rfl⟩)
  unfold hearF
  rw [if_neg hk, if_neg (fun h => k3 h.1), if_neg (fun h => k7 h.1)]
  have b0 : (k == 0) = false := beq_eq_false_iff_ne.2 k0
  have b1 : (k == 1) = false := beq_eq_false_iff_ne.2 k1
  have b3 : (k == 3) = false := beq_eq_false_iff_ne.2 k3
  have b7 : (k == 7) = false := beq_eq_false_iff_ne.2 k7
  clear hk k0 k1 k3 k7 HB
  go_enter Try.func20, Try.ntmps20
  go_wp2
  all_goals (go_ret3; exact ⟨rfl, rfl⟩)
theorem say_any (s k : Int) (e : Bool) (w : World) :
    Calls Try.prog 21 #[.int .i64 s, .int .i64 k, .bool e] w fun r w' => r = .returned (.tuple #[.int .i64 (sayF s k e).1, errV (sayF s k e).2]) ∧ w = w' := by
  have HB := vl (begun_any s w)
  unfold sayF
  by_cases hk : k = 0 ∨ k = 1
  · by_cases h1 : s = 1
    · subst h1
      rw [if_pos ⟨hk, rfl⟩]
      simp only [errV, if_true]
      rcases hk with rfl | rfl <;>
      (go_enter Try.func21, Try.ntmps21
       go_wp2_with fail
       refine (after_any _ _ _ _).mono ?_
       rintro r w' ⟨rfl, rfl⟩
       go_wp2
       all_goals (go_ret2; exact ⟨rfl, rfl⟩))
    by_cases h2 : s = 2
    · subst h2
      rw [if_neg (by simp), if_pos ⟨hk, rfl⟩]
      simp only [errV, if_true]
      rcases hk with rfl | rfl <;>
      (go_enter Try.func21, Try.ntmps21
       go_wp2_with fail
       refine (after_any _ _ _ _).mono ?_
       rintro r w' ⟨rfl, rfl⟩
       go_wp2
       all_goals (go_ret2; exact ⟨rfl, rfl⟩))
    rw [if_neg (by simp [h1]), if_neg (by simp [h2]), if_neg (by omega), if_neg (by omega)]
    simp only [errV, show ¬ ((6 : Int) = 0) by decide, if_false]
    rcases hk with rfl | rfl <;>
    (go_enter Try.func21, Try.ntmps21
     go_wp2
     all_goals (go_ret2; exact ⟨rfl, rfl⟩))
  rw [if_neg (fun h => hk h.1), if_neg (fun h => hk h.1)]
  have k0 : ¬ k = 0 := fun h => hk (Or.inl h)
  have k1 : ¬ k = 1 := fun h => hk (Or.inr h)
  by_cases k3 : k = 3
  · subst k3
    cases hb : begunF s
    · rw [if_neg (by simp), if_neg (by simp)]
      simp only [errV, show ¬ ((6 : Int) = 0) by decide, if_false]
      rw [hb] at HB
      clear hb
      go_enter Try.func21, Try.ntmps21
      go_wp2_with fail
      refine HB.out.mono ?_
      rintro r w' ⟨rfl, rfl⟩
      go_wp2
      all_goals (go_ret2; exact ⟨rfl, rfl⟩)
    · rw [if_pos (by simp)]
      simp only [errV, if_true]
      rw [hb] at HB
      clear hb
      go_enter Try.func21, Try.ntmps21
      go_wp2_with fail
      refine HB.out.mono ?_
      rintro r w' ⟨rfl, rfl⟩
      go_wp2
      all_goals (go_ret2; exact ⟨rfl, rfl⟩)
  rw [if_neg (fun h => k3 h.1)]
  clear HB
  by_cases k7 : k = 7
  · subst k7
    by_cases h1 : s = 1
    · subst h1
      rw [if_pos (by simp)]
      simp only [errV, if_true]
      go_enter Try.func21, Try.ntmps21
      go_wp2
      all_goals (go_ret2; exact ⟨rfl, rfl⟩)
    by_cases h3 : s = 3
    · subst h3
      rw [if_pos (by simp)]
      simp only [errV, if_true]
      go_enter Try.func21, Try.ntmps21
      go_wp2
      all_goals (go_ret2; exact ⟨rfl, rfl⟩)
    rw [if_neg (by simp [h1, h3])]
    have b1 : (s == 1) = false := beq_eq_false_iff_ne.2 h1
    have b3 : (s == 3) = false := beq_eq_false_iff_ne.2 h3
    clear h1 h3
    simp only [errV, show ¬ ((6 : Int) = 0) by decide, if_false]
    go_enter Try.func21, Try.ntmps21
    go_wp2
    all_goals (go_ret2; exact ⟨rfl, rfl⟩)
  rw [if_neg (fun h => k7 h.1)]
  have b0 : (k == 0) = false := beq_eq_false_iff_ne.2 k0
  have b1 : (k == 1) = false := beq_eq_false_iff_ne.2 k1
  have b3 : (k == 3) = false := beq_eq_false_iff_ne.2 k3
  have b7 : (k == 7) = false := beq_eq_false_iff_ne.2 k7
  clear hk k0 k1 k3 k7
  simp only [errV, show ¬ ((6 : Int) = 0) by decide, if_false]
  go_enter Try.func21, Try.ntmps21
  go_wp2
  all_goals (go_ret2; exact ⟨rfl, rfl⟩)
end Go.Proofs.Ythphblmoeomeoad
