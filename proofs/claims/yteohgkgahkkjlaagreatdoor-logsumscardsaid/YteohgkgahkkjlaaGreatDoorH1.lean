/-
  WHAT WAS DONE: the document's answer, what is wrong with an entry. No claim by itself.
-/
import Derived.Test.YteohgkgahkkjlaaGreatDoorG4
import Derived.Test.YteohgkgahkkjlaaGreatDoorNtok
import Derived.BigRegion
import Derived.Laws.Tables
import Derived.Handy
import Derived.Deep.DeepCutAuto
import Derived.LoopN
namespace Go.Proofs.YteohgkgahkkjlaaGreatDoor
open Go Go.RowKit
set_option maxRecDepth 100000
/-- The numbers of an entry are as they may be. -/
def RngE (t c b k : Int) : Prop := (¬ t < 0 ∧ ¬ 1000000 < t) ∧ (¬ b < 0 ∧ ¬ 1000000 < b) ∧ (¬ k < 0 ∧ ¬ 1000000 < k) ∧ (¬ c < 100 ∧ ¬ 599 < c)
theorem rng_is (t c b k : Int) : (cntB t && (cntB b && (cntB k && betB c 100 599))) = true ↔ RngE t c b k := by
  unfold cntB betB RngE
  simp only [Bool.and_eq_true, decide_eq_true_eq]
  omega
theorem chkE_bad {t c b k : Int} {M P : List Int} (h : ¬ RngE t c b k) : chkE t c b k M P = 1 := by
  unfold chkE
  rw [if_neg (fun e => h ((rng_is t c b k).1 e))]
theorem chkE_in {t c b k : Int} {M P : List Int} (h : RngE t c b k) : chkE t c b k M P = if (tokL M && wordL P) = true then 0 else 2 := by
  unfold chkE
  rw [if_pos ((rng_is t c b k).2 h)]
theorem ent_cases (t c b k : Int) : (t < 0) ∨ (¬ t < 0 ∧ 1000000 < t) ∨ (¬ t < 0 ∧ ¬ 1000000 < t ∧ b < 0) ∨ (¬ t < 0 ∧ ¬ 1000000 < t ∧ ¬ b < 0 ∧ 1000000 < b)
    ∨ (¬ t < 0 ∧ ¬ 1000000 < t ∧ ¬ b < 0 ∧ ¬ 1000000 < b ∧ k < 0) ∨ (¬ t < 0 ∧ ¬ 1000000 < t ∧ ¬ b < 0 ∧ ¬ 1000000 < b ∧ ¬ k < 0 ∧ 1000000 < k)
    ∨ (¬ t < 0 ∧ ¬ 1000000 < t ∧ ¬ b < 0 ∧ ¬ 1000000 < b ∧ ¬ k < 0 ∧ ¬ 1000000 < k ∧ c < 100) ∨ (¬ t < 0 ∧ ¬ 1000000 < t ∧ ¬ b < 0 ∧ ¬ 1000000 < b ∧ ¬ k < 0 ∧ ¬ 1000000 < k ∧ ¬ c < 100 ∧ 599 < c)
    ∨ RngE t c b k := by
  unfold RngE; omega
set_option maxHeartbeats 4000000 in
theorem rent_any (t c b k : Int) (m p : ByteArray) (w : World) (hm : m.size ≤ 140737488351232) (hp : p.size ≤ 140737488351232) :
    Calls Tryz.prog 5 #[entV t c b k m p] w fun e w' => e = .returned (.int .i64 (chkE t c b k (unums m) (unums p))) ∧ Below w.heap.size w w' := by
  unfold entV
  obtain ⟨W1, hW1⟩ : ∃ W1, W1 = w.alloc (.cells #[.int .i64 t, .int .i64 c, .int .i64 b, .int .i64 k, .string m, .string p] 23) := ⟨_, rfl⟩
  obtain ⟨W2, hW2⟩ : ∃ W2, W2 = W1.alloc (.cells #[.int .i64 t, .int .i64 b, .int .i64 k] 3) := ⟨_, rfl⟩
  have HB1 : Below w.heap.size w W1 := by rw [hW1]; exact (Below.refl _ w).alloc (Nat.le_refl _) _
  have hsz : w.heap.size < W1.heap.size := by rw [hW1]; simp
  have HB2 : Vl (Below w.heap.size w W2) := by rw [hW2]; exact vl (HB1.alloc (Nat.le_of_lt hsz) _)
  have HBB : Below W1.heap.size W1 W2 := by rw [hW2]; exact (Below.refl _ W1).alloc (Nat.le_refl _) _
  have HBX : EnC W2 w.heap.size t c b k m p := EnC.below (by rw [hW1]; exact enc_new w t c b k m p _) HBB hsz
  have e1 : W1.heap.size = w.heap.size + 1 := by rw [hW1]; simp
  have hr := heap_alloc_new W1 (.cells #[.int .i64 t, .int .i64 b, .int .i64 k] 3)
  rw [← hW2, e1] at hr
  obtain ⟨r0, r1, r2⟩ : W2.cell? ⟨w.heap.size + 1, 0, none⟩ = some (.int .i64 t) ∧ W2.cell? ⟨w.heap.size + 1, 1, none⟩ = some (.int .i64 b) ∧ W2.cell? ⟨w.heap.size + 1, 2, none⟩ = some (.int .i64 k) := by
    simp only [World.cell?, hr]
    exact ⟨rfl, rfl, rfl⟩
  obtain ⟨d0, d1, d2, d3, d4, d5⟩ := HBX
  have H5 := vl (rtoken_any m W2 hm)
  have H6 := vl (rword_any p W2 hp)
  subst hW1
  clear HB1 HBB hr e1 hsz hm hp
  rcases ent_cases t c b k with h | h | h | h | h | h | h | h | h
  case inr.inr.inr.inr.inr.inr.inr.inr =>
    rw [chkE_in h]
    obtain ⟨⟨a1, a2⟩, ⟨a3, a4⟩, ⟨a5, a6⟩, a7, a8⟩ := h
    generalize tokL (unums m) = x5 at *
    generalize wordL (unums p) = x6 at *
    go_enter Tryz.func5, Tryz.ntmps5
    go_upto_region 3 with fail
    rw [← hW2]
    clear hW2
    refine wp_loop_rounds 4 ?_
    rw [rounds_succ]
    go_wp2_with fail
    rw [rounds_succ]
    go_wp2_with fail
    rw [rounds_succ]
    go_wp2_with fail
    rw [rounds_succ]
    go_wp2_with fail
    refine H5.out.mono ?_
    rintro _ _ ⟨rfl, rfl⟩
    go_wp2_with fail
    refine H6.out.mono ?_
    rintro _ _ ⟨rfl, rfl⟩
    cases x5 <;> cases x6
    all_goals
      go_wp2_with fail
      go_ret
      exact ⟨rfl, HB2.out⟩
  all_goals
    rw [chkE_bad (by unfold RngE; omega)]
    clear H5 H6 d4 d5
    repeat (cases h; rename_i a h)
    go_enter Tryz.func5, Tryz.ntmps5
    go_upto_region 3 with fail
    rw [← hW2]
    clear hW2
    refine wp_loop_rounds 4 ?_
    repeat (rw [rounds_succ]; go_wp2_with fail)
    go_ret
    exact ⟨rfl, HB2.out⟩
end Go.Proofs.YteohgkgahkkjlaaGreatDoor
