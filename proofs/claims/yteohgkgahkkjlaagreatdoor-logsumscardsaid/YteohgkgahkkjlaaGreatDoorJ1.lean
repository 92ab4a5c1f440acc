/-
  WHAT WAS DONE: the number at a place, by counting: its mathematics. No claim by itself.
-/
import Derived.Test.YteohgkgahkkjlaaGreatDoorG3
namespace Go.Proofs.YteohgkgahkkjlaaGreatDoor
set_option maxRecDepth 100000
/-- How many are less; how many are not more. -/
def cLt (L : List Int) (x : Int) : Nat := (L.filter fun y => decide (y < x)).length
def cLe (L : List Int) (x : Int) : Nat := (L.filter fun y => decide (y ≤ x)).length
theorem filter_len_take (p : Int → Bool) (S : List Int) (k : Nat) (hk : k ≤ S.length) (h : ∀ i (hi : i < k), p (S[i]'(by omega)) = true) : k ≤ (S.filter p).length := by
  have e : S.filter p = (S.take k).filter p ++ (S.drop k).filter p := by rw [← List.filter_append, List.take_append_drop]
  have e2 : (S.take k).filter p = S.take k := List.filter_eq_self.2 fun x hx => by
    obtain ⟨i, hi, rfl⟩ := List.mem_take_iff_getElem.1 hx
    exact h i (by omega)
  rw [e, List.length_append, e2, List.length_take]
  omega
theorem filter_len_drop (p : Int → Bool) (S : List Int) (k : Nat) (h : ∀ i (hi : i < S.length), k ≤ i → p (S[i]'hi) = false) : (S.filter p).length ≤ k := by
  have e : S.filter p = (S.take k).filter p ++ (S.drop k).filter p := by rw [← List.filter_append, List.take_append_drop]
  have e2 : (S.drop k).filter p = [] := List.filter_eq_nil_iff.2 fun x hx => by
    obtain ⟨i, hi, rfl⟩ := List.mem_drop_iff_getElem.1 hx
    rw [h (k + i) (by omega) (by omega)]
    decide
  rw [e, e2, List.append_nil]
  exact Nat.le_trans (List.length_filter_le _ _) (by rw [List.length_take]; omega)
theorem rank_is {L : List Int} {k : Nat} (hk : k < L.length) (x : Int) : (cLt L x < k + 1 ∧ k + 1 ≤ cLe L x) → x = (sortL L).getD k 0 := by
  have hl := sortL_len L
  have hp := sortL_pair L
  have e1 : cLt L x = cLt (sortL L) x := ((sortL_perm L).filter _).length_eq.symm
  have e2 : cLe L x = cLe (sortL L) x := ((sortL_perm L).filter _).length_eq.symm
  rw [e1, e2]
  generalize sortL L = S at *
  have hk' : k < S.length := by omega
  have ev : S.getD k 0 = S[k] := by simp [List.getD, List.getElem?_eq_getElem hk']
  rw [ev]
  rintro ⟨h1, h2⟩
  have mono : ∀ i j (hi : i < S.length) (hj : j < S.length), i ≤ j → S[i] ≤ S[j] := fun i j hi hj hij => by
    by_cases e : i = j
    · subst e; exact Int.le_refl _
    · exact List.pairwise_iff_getElem.1 hp i j hi hj (by omega)
  have g1 : ¬ S[k] < x := fun h => by
    have := filter_len_take (fun y => decide (y < x)) S (k + 1) (by omega) (fun i hi => by
      have := mono i k (by omega) hk' (by omega)
      simp; omega)
    unfold cLt at h1
    omega
  have g2 : ¬ x < S[k] := fun h => by
    have := filter_len_drop (fun y => decide (y ≤ x)) S k (fun i hi hki => by
      have := mono k i hk' hi hki
      simp; omega)
    unfold cLe at h2
    omega
  omega
theorem rank_of {L : List Int} {k : Nat} (hk : k < L.length) : cLt L ((sortL L).getD k 0) < k + 1 ∧ k + 1 ≤ cLe L ((sortL L).getD k 0) := by
  have hl := sortL_len L
  have hp := sortL_pair L
  generalize hx : (sortL L).getD k 0 = x
  have e1 : cLt L x = cLt (sortL L) x := ((sortL_perm L).filter _).length_eq.symm
  have e2 : cLe L x = cLe (sortL L) x := ((sortL_perm L).filter _).length_eq.symm
  rw [e1, e2]
  generalize sortL L = S at *
  have hk' : k < S.length := by omega
  have ev : S.getD k 0 = S[k] := by simp [List.getD, List.getElem?_eq_getElem hk']
  rw [ev] at hx
  have mono : ∀ i j (hi : i < S.length) (hj : j < S.length), i ≤ j → S[i] ≤ S[j] := fun i j hi hj hij => by
    by_cases e : i = j
    · subst e; exact Int.le_refl _
    · exact List.pairwise_iff_getElem.1 hp i j hi hj (by omega)
  constructor
  · have := filter_len_drop (fun y => decide (y < x)) S k (fun i hi hki => by
      have := mono k i hk' hi hki
      simp; omega)
    unfold cLt
    omega
  · have := filter_len_take (fun y => decide (y ≤ x)) S (k + 1) (by omega) (fun i hi => by
      have := mono i k (by omega) hk' (by omega)
      simp; omega)
    unfold cLe
    omega
theorem filter_take_more (p : Int → Bool) (L : List Int) (k : Nat) (h : k < L.length) : ((L.take (k + 1)).filter p).length = ((L.take k).filter p).length + if p (L.getD k 0) = true then 1 else 0 := by
  rw [List.take_add_one, List.filter_append, List.length_append]
  simp only [List.getD, List.getElem?_eq_getElem h, Option.toList, Option.getD_some]
  by_cases e : p L[k] = true
  · rw [if_pos e, List.filter_cons_of_pos e]; rfl
  · rw [if_neg e, List.filter_cons_of_neg e]; rfl
end Go.Proofs.YteohgkgahkkjlaaGreatDoor
