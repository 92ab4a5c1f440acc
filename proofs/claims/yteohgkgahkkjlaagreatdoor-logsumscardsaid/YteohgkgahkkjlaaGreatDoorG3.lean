/-
  LOGORDER: a rank is one of them. The law's mathematics and walk. No claim by itself.
-/
import Derived.Test.YteohgkgahkkjlaaGreatDoorG2
import Derived.Deep.LoopGhost
import Derived.OwnWalk
namespace Go.Proofs.YteohgkgahkkjlaaGreatDoor
open Go Go.RowKit
set_option maxRecDepth 100000
theorem sortL_perm (L : List Int) : (sortL L).Perm L := List.mergeSort_perm L _
theorem sortL_pair (L : List Int) : (sortL L).Pairwise (fun x y => x ≤ y) := by
  have h := List.pairwise_mergeSort (le := fun (x y : Int) => decide (x ≤ y)) (by intro a b c; simp; omega) (by intro a b; simp; omega) L
  exact h.imp (fun h => by simpa using h)
theorem sortL_of {L M : List Int} (h : L.Perm M) : sortL L = sortL M := by
  refine List.Perm.eq_of_pairwise (le := fun x y => x ≤ y) (fun a b _ _ h1 h2 => by omega) (sortL_pair L) (sortL_pair M) ?_
  exact ((sortL_perm L).trans h).trans (sortL_perm M).symm
theorem sortL_mono {L : List Int} {i j : Nat} (h : i ≤ j) (hj : j < L.length) : (sortL L).getD i 0 ≤ (sortL L).getD j 0 := by
  have hl := sortL_len L
  by_cases e : i = j
  · rw [e]; exact Int.le_refl _
  · have := List.pairwise_iff_getElem.1 (sortL_pair L) i j (by omega) (by omega) (by omega)
    simp only [List.getD, List.getElem?_eq_getElem (show i < (sortL L).length by omega), List.getElem?_eq_getElem (show j < (sortL L).length by omega)]
    exact this
theorem sortL_mem {L : List Int} {i : Nat} (h : i < L.length) : (sortL L).getD i 0 ∈ L := by
  have hl := sortL_len L
  rw [← (sortL_perm L).mem_iff]
  simp only [List.getD, List.getElem?_eq_getElem (show i < (sortL L).length by omega)]
  exact List.getElem_mem _
theorem rkE_ok {L : List Int} {p : Int} (h : rkE L p = 0) : (1 ≤ p ∧ p ≤ 100) ∧ 0 < L.length ∧ L.length ≤ 1000 := by
  unfold rkE at h
  split at h
  · omega
  · split at h
    · omega
    · split at h
      · omega
      · refine ⟨?_, by omega, by omega⟩
        omega
theorem rkE_of {L : List Int} {p : Int} (h : (1 ≤ p ∧ p ≤ 100) ∧ 0 < L.length ∧ L.length ≤ 1000) : rkE L p = 0 := by
  unfold rkE
  rw [if_neg (fun k => k h.1), if_neg (by omega), if_neg (by omega)]
theorem rkV_ok {L : List Int} {p : Int} (h : rkE L p = 0) : rkV L p = (sortL L).getD ((rkP L.length p).toNat - 1) 0 ∧ (rkP L.length p).toNat - 1 < L.length := by
  have h1 := rkE_ok h
  have h2 := rk_place h1.2.1 h1.2.2 h1.1.1 h1.1.2
  exact ⟨by unfold rkV; rw [if_pos h], by omega⟩
theorem rkV_mem {L : List Int} {p : Int} (h : rkE L p = 0) : rkV L p ∈ L := by
  rw [(rkV_ok h).1]; exact sortL_mem (rkV_ok h).2
theorem rkV_perm {L M : List Int} {p : Int} (h : L.Perm M) : rkV L p = rkV M p ∧ rkE L p = rkE M p := by
  have e : rkE L p = rkE M p := by unfold rkE; rw [h.length_eq]
  refine ⟨?_, e⟩
  unfold rkV
  rw [e, sortL_of h, h.length_eq]
theorem rkV_mono {L : List Int} {p q : Int} (hp : rkE L p = 0) (hq : rkE L q = 0) (h : p ≤ q) : rkV L p ≤ rkV L q := by
  rw [(rkV_ok hp).1, (rkV_ok hq).1]
  refine sortL_mono ?_ (rkV_ok hq).2
  have : rkP L.length p ≤ rkP L.length q := by
    unfold rkP
    have := Int.mul_le_mul_of_nonneg_right h (show (0 : Int) ≤ (L.length : Int) by omega)
    omega
  omega
theorem rk_fact : rkV [3, 1, 2] 50 = 2 ∧ rkE [3, 1, 2] 50 = 0 := by
  have h : sortL [3, 1, 2] = [1, 2, 3] := List.Perm.eq_of_pairwise (le := fun x y => x ≤ y) (fun a b _ _ h1 h2 => by omega) (sortL_pair _) (by decide) ((sortL_perm _).trans (by decide))
  have h0 : rkE [3, 1, 2] 50 = 0 := by decide
  refine ⟨?_, h0⟩
  unfold rkV
  rw [if_pos h0, h]
  decide
/-- The last j ones, the last one first. -/
def bkL (L : List Int) (j : Nat) : List Int := L.reverse.take j
theorem bkL_len {L : List Int} {j : Nat} (h : j ≤ L.length) : (bkL L j).length = j := by simp [bkL]; omega
theorem bkL_all (L : List Int) : bkL L L.length = L.reverse := by unfold bkL; rw [← List.length_reverse, List.take_length]
theorem bkL_snoc {L : List Int} {j i : Nat} (h : i + j + 1 = L.length) : bkL L (j + 1) = bkL L j ++ [L.getD i 0] := by
  unfold bkL
  rw [List.take_add_one, List.getElem?_reverse (by omega), show L.length - 1 - j = i by omega, List.getElem?_eq_getElem (by omega)]
  simp [List.getD, List.getElem?_eq_getElem (show i < L.length by omega)]
theorem narg_of {w : World} {base : Nat} {v : Value} {L : List Int} (h : w.ownsRow base 3 1 v L.length (L.map (Value.int .i64))) : ∃ a c, v = .slice a L.length c ∧ NArg w a L.length c L := by
  rcases h.2 with ⟨e, h0⟩ | ⟨g, cap, cur, e, _, _, r1, r2, _⟩
  · exact ⟨none, 0, by rw [e, h0], Or.inl h0⟩
  · subst e
    refine ⟨_, _, rfl, Or.inr ⟨g, 0, rfl, r1, r2, fun t ht => ?_⟩⟩
    rw [Nat.zero_add]
    exact own_cell h rfl ht
end Go.Proofs.YteohgkgahkkjlaaGreatDoor
