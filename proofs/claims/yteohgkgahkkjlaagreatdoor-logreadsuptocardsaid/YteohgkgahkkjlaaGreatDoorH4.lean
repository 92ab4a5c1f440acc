/-
  WHAT WAS DONE: the document's ParseEntry, its mathematics. No claim by itself.
-/
import Derived.Test.YteohgkgahkkjlaaGreatDoorH3
namespace Go.Proofs.YteohgkgahkkjlaaGreatDoor
open Go Go.RowKit
set_option maxRecDepth 100000
theorem word_no32 {P : List Int} (h : wordL P = true) : (32 : Int) ∉ P := by
  rw [word_is] at h
  unfold hasBl at h
  simp only [Bool.and_eq_true, Bool.not_eq_true', decide_eq_false_iff_not] at h
  exact h.2.2
theorem cut1_print (t c b k : Nat) {M P : List Int} (h : tokL M = true) (hP : wordL P = true) : cut1 32 (printE t c b k M P) = [decL t, decL c, decL b, decL k, M, P] := by
  unfold printE
  rw [cut1_at 32 _ _ (decL_no t), cut1_at 32 _ _ (decL_no c), cut1_at 32 _ _ (decL_no b), cut1_at 32 _ _ (decL_no k), cut1_at 32 _ _ (tok_no h).1, cut1_no 32 P (word_no32 hP)]
theorem cut1_two {c : Int} {Z a b : List Int} {r : List (List Int)} (h : cut1 c Z = a :: b :: r) : ∃ Y, Z = a ++ c :: Y ∧ cut1 c Y = b :: r := by
  rcases cut1_cases c Z with ⟨_, h2⟩ | ⟨a', r', e, h1, h2⟩
  · rw [h2] at h
    simp at h
  · rw [h2] at h
    obtain ⟨h3, h4⟩ := List.cons.inj h
    exact ⟨r', by rw [e, h3], h4⟩
theorem cut1_one {c : Int} {Z a : List Int} (h : cut1 c Z = [a]) : Z = a := by
  rcases cut1_cases c Z with ⟨_, h2⟩ | ⟨a', r', e, h1, h2⟩
  · rw [h2] at h
    simpa using h
  · rw [h2] at h
    exact absurd (List.cons.inj h).2 (cut1_ne c r')
theorem cut1_six {Z X0 X1 X2 X3 X4 X5 : List Int} (h : cut1 32 Z = [X0, X1, X2, X3, X4, X5]) : Z = X0 ++ 32 :: (X1 ++ 32 :: (X2 ++ 32 :: (X3 ++ 32 :: (X4 ++ 32 :: X5)))) := by
  obtain ⟨Y0, e0, h⟩ := cut1_two h
  obtain ⟨Y1, e1, h⟩ := cut1_two h
  obtain ⟨Y2, e2, h⟩ := cut1_two h
  obtain ⟨Y3, e3, h⟩ := cut1_two h
  obtain ⟨Y4, e4, h⟩ := cut1_two h
  rw [e0, e1, e2, e3, e4, cut1_one h]
theorem numq_is {v : Int} {X : List Int} (h : NumQ v X) (hv : 0 ≤ v) : X = decL v.toNat := by
  rcases h with ⟨n, _, h, rfl⟩ | ⟨h, _⟩
  · rw [h]; rfl
  · omega
theorem numq_at {v : Int} {n : Nat} (hn : n < 10000000) (h : NumQ v (decL n)) : v = (n : Int) := by
  rcases h with ⟨m, hm, h, rfl⟩ | ⟨_, h⟩
  · rw [decL_inj hn hm h]
  · exact absurd rfl (h n hn)
theorem rprs_yes {Z X0 X1 X2 X3 X4 X5 : List Int} {v0 v1 v2 v3 : Int} (h : cut1 32 Z = [X0, X1, X2, X3, X4, X5]) (n0 : NumQ v0 X0) (n1 : NumQ v1 X1) (n2 : NumQ v2 X2) (n3 : NumQ v3 X3) (h0 : chkE v0 v1 v2 v3 X4 X5 = 0) : printE v0.toNat v1.toNat v2.toNat v3.toNat X4 X5 = Z := by
  obtain ⟨⟨t1, t2⟩, ⟨c1, c2⟩, ⟨b1, b2⟩, ⟨k1, k2⟩, _⟩ := chkE_ok h0
  rw [cut1_six h, numq_is n0 t1, numq_is n1 (by omega), numq_is n2 b1, numq_is n3 k1]
  rfl
theorem rprs_no {Z X0 X1 X2 X3 X4 X5 : List Int} {v0 v1 v2 v3 : Int} (h : cut1 32 Z = [X0, X1, X2, X3, X4, X5]) (n0 : NumQ v0 X0) (n1 : NumQ v1 X1) (n2 : NumQ v2 X2) (n3 : NumQ v3 X3) (hn : chkE v0 v1 v2 v3 X4 X5 ≠ 0) :
    ∀ (t c b k : Int) (M P : List Int), chkE t c b k M P = 0 → printE t.toNat c.toNat b.toNat k.toNat M P ≠ Z := by
  intro t c b k M P h0 hp
  obtain ⟨⟨t1, t2⟩, ⟨c1, c2⟩, ⟨b1, b2⟩, ⟨k1, k2⟩, hM, hP⟩ := chkE_ok h0
  rw [← hp, cut1_print _ _ _ _ hM hP] at h
  simp only [List.cons.injEq, and_true] at h
  obtain ⟨rfl, rfl, rfl, rfl, rfl, rfl⟩ := h
  have f0 := numq_at (by omega) n0
  have f1 := numq_at (by omega) n1
  have f2 := numq_at (by omega) n2
  have f3 := numq_at (by omega) n3
  refine hn ?_
  rw [f0, f1, f2, f3, Int.toNat_of_nonneg t1, Int.toNat_of_nonneg (show 0 ≤ c by omega), Int.toNat_of_nonneg b1, Int.toNat_of_nonneg k1]
  exact h0
theorem rprs_no6 {Z : List Int} (h : (cut1 32 Z).length ≠ 6) : ∀ (t c b k : Int) (M P : List Int), chkE t c b k M P = 0 → printE t.toNat c.toNat b.toNat k.toNat M P ≠ Z := by
  intro t c b k M P h0 hp
  obtain ⟨_, _, _, _, hM, hP⟩ := chkE_ok h0
  rw [← hp, cut1_print _ _ _ _ hM hP] at h
  exact h rfl
/-- An entry that may be is one alone of its text. -/
theorem print_one {t c b k t' c' b' k' : Int} {M P M' P' : List Int} (h : chkE t c b k M P = 0) (h' : chkE t' c' b' k' M' P' = 0) (e : printE t.toNat c.toNat b.toNat k.toNat M P = printE t'.toNat c'.toNat b'.toNat k'.toNat M' P') : t = t' ∧ c = c' ∧ b = b' ∧ k = k' ∧ M = M' ∧ P = P' := by
  obtain ⟨⟨t1, t2⟩, ⟨c1, c2⟩, ⟨b1, b2⟩, ⟨k1, k2⟩, hM, hP⟩ := chkE_ok h
  obtain ⟨⟨t1', t2'⟩, ⟨c1', c2'⟩, ⟨b1', b2'⟩, ⟨k1', k2'⟩, hM', hP'⟩ := chkE_ok h'
  have h1 := cut1_print t.toNat c.toNat b.toNat k.toNat hM hP
  rw [e, cut1_print _ _ _ _ hM' hP'] at h1
  simp only [List.cons.injEq, and_true] at h1
  obtain ⟨e0, e1, e2, e3, e4, e5⟩ := h1
  have f0 := decL_inj (by omega) (by omega) e0
  have f1 := decL_inj (by omega) (by omega) e1
  have f2 := decL_inj (by omega) (by omega) e2
  have f3 := decL_inj (by omega) (by omega) e3
  exact ⟨by omega, by omega, by omega, by omega, e4.symm, e5.symm⟩
/-- What the document's ParseEntry answers. -/
def PrsR (s : ByteArray) (e : Ending) : Prop :=
  (∃ (t c b k : Int) (m p : ByteArray), e = .returned (.tuple #[entV t c b k m p, .bool true]) ∧ chkE t c b k (unums m) (unums p) = 0 ∧ printE t.toNat c.toNat b.toNat k.toNat (unums m) (unums p) = unums s)
  ∨ (e = .returned (.tuple #[entV 0 0 0 0 ⟨#[]⟩ ⟨#[]⟩, .bool false]) ∧ ∀ (t c b k : Int) (M P : List Int), chkE t c b k M P = 0 → printE t.toNat c.toNat b.toNat k.toNat M P ≠ unums s)
end Go.Proofs.YteohgkgahkkjlaaGreatDoor
