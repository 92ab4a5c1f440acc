/-
  FROM THE ONE TO THE OTHER: names that stand ahead, one behind the other: of lists. No claim by itself.
-/
import Derived.Test.YtglmppadhlkkgagGreatDoorG5
namespace Go.Proofs.YtglmppadhlkkgagGreatDoor
open Go Go.RowKit
theorem lead_not1 {names : List (List Int)} {l : List Fd} {q k : Nat} {f g : Fd} (hq : l[q]? = some f) (hf : psdL f.1 = false) (hk : l[k]? = some g) (hg : psdL g.1 = true) (hqk : q < k) : ¬ LeadOk names l := by
  rintro ⟨A, B, rfl, hA, hB, -, -, -⟩
  have h1 : A.length ≤ q := by
    rcases Nat.lt_or_ge q A.length with h | h
    · rw [List.getElem?_append_left h] at hq
      have := hA f (List.mem_of_getElem? hq)
      rw [hf] at this
      cases this
    · exact h
  rw [List.getElem?_append_right (by omega)] at hk
  have := hB g (List.mem_of_getElem? hk)
  rw [hg] at this
  cases this
theorem lead_not2 {names : List (List Int)} {l : List Fd} {i k : Nat} {f g : Fd} (hi : l[i]? = some f) (hk : l[k]? = some g) (hg : psdL g.1 = true) (hik : i < k) (he : f.1 = g.1) : ¬ LeadOk names l := by
  rintro ⟨A, B, rfl, hA, hB, hN, -, -⟩
  have h1 : k < A.length := by
    rcases Nat.lt_or_ge k A.length with h | h
    · exact h
    · rw [List.getElem?_append_right h] at hk
      have := hB g (List.mem_of_getElem? hk)
      rw [hg] at this
      cases this
  rw [List.getElem?_append_left h1] at hk
  rw [List.getElem?_append_left (by omega)] at hi
  have hp := List.pairwise_iff_getElem.1 hN i k (by rw [List.length_map]; omega) (by rw [List.length_map]; omega) hik
  apply hp
  rw [List.getElem_map, List.getElem_map]
  have e1 : A[i] = f := by rw [List.getElem?_eq_getElem (by omega)] at hi; exact Option.some.inj hi
  have e2 : A[k] = g := by rw [List.getElem?_eq_getElem h1] at hk; exact Option.some.inj hk
  rw [e1, e2, he]
theorem lead_split {names : List (List Int)} {l : List Fd} {p : Nat} (hp : p ≤ l.length) (h1 : ∀ f ∈ l.take p, psdL f.1 = true) (h2 : ∀ f ∈ l.drop p, psdL f.1 = false) (h3 : ((l.take p).map Prod.fst).Nodup) :
    LeadOk names l ↔ p = names.length ∧ ∀ n ∈ names, n ∈ (l.take p).map Prod.fst := by
  constructor
  · rintro ⟨A, B, rfl, hA, hB, hN, hl, hm⟩
    have e : A.length = p := by
      rcases Nat.lt_trichotomy A.length p with h | h | h
      · rw [List.length_append] at hp
        have hb : A.length - A.length < B.length := by omega
        have hx : (A ++ B)[A.length]? = some B[0] := by rw [List.getElem?_append_right (Nat.le_refl _), Nat.sub_self, List.getElem?_eq_getElem]
        have hin : B[0]'(by omega) ∈ (A ++ B).take p := by
          apply List.mem_of_getElem? (i := A.length)
          rw [List.getElem?_take, if_pos h, hx]
        have a1 := h1 _ hin
        have a2 := hB _ (List.getElem_mem (by omega : 0 < B.length))
        rw [a1] at a2
        cases a2
      · exact h
      · have hx : (A ++ B)[p]? = some A[p] := by rw [List.getElem?_append_left h, List.getElem?_eq_getElem]
        have hin : A[p] ∈ (A ++ B).drop p := by
          apply List.mem_of_getElem? (i := 0)
          rw [List.getElem?_drop, Nat.add_zero, hx]
        have a1 := h2 _ hin
        have a2 := hA _ (List.getElem_mem h)
        rw [a2] at a1
        cases a1
    subst e
    have ht : (A ++ B).take A.length = A := by simp
    rw [ht]
    exact ⟨hl, hm⟩
  · rintro ⟨h4, h5⟩
    exact ⟨l.take p, l.drop p, (List.take_append_drop p l).symm, h1, h2, h3, by rw [List.length_take]; omega, h5⟩
/-- Where a name stands among those. -/
theorem val_at {n : List Int} {l : List Fd} {i : Nat} {f : Fd} (hi : l[i]? = some f) (hn : f.1 = n) (hb : ∀ j g, j < i → l[j]? = some g → g.1 ≠ n) : valL n l = f.2 := by
  induction l generalizing i with
  | nil => simp at hi
  | cons x l ih =>
    cases i with
    | zero =>
      obtain rfl : x = f := by simpa using hi
      simp [valL, List.find?, hn]
    | succ i =>
      have hx := hb 0 x (by omega) (by simp)
      have := ih (i := i) (by simpa using hi) (fun j g hj hg => hb (j + 1) g (by omega) (by simpa using hg))
      rw [← this]
      simp [valL, List.find?, hx]
end Go.Proofs.YtglmppadhlkkgagGreatDoor
