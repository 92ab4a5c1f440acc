/-
  ORDER: rows whose places are exchanged. No claim by itself.
-/
import Derived.Test.YtibipnipeaeonaaDoorZsm
namespace Go.Proofs.YtibipnipeaeonaaDoor
section
variable {α : Type} (z : α)
def swapL (D : List α) (i j : Nat) : List α := (D.set i (D.getD j z)).set j (D.getD i z)
variable {z}
theorem swapL_len (D : List α) (i j : Nat) : (swapL z D i j).length = D.length := by simp [swapL]
theorem getD_set' (D : List α) (i t : Nat) (v : α) (hi : i < D.length) : (D.set i v).getD t z = if t = i then v else D.getD t z := by
  rw [List.getD, List.getD, List.getElem?_set]
  by_cases e : i = t
  · subst e; simp [hi]
  · rw [if_neg e, if_neg (fun h => e h.symm)]
theorem swapL_get {D : List α} {i j : Nat} (hi : i < D.length) (hj : j < D.length) (t : Nat) : (swapL z D i j).getD t z = if t = j then D.getD i z else if t = i then D.getD j z else D.getD t z := by
  unfold swapL
  rw [getD_set' _ _ _ _ (by simpa using hj), getD_set' _ _ _ _ hi]
theorem ext_getD {L M : List α} (hl : L.length = M.length) (h : ∀ t, t < L.length → L.getD t z = M.getD t z) : L = M := by
  refine List.ext_getElem hl fun i h1 h2 => ?_
  have := h i h1
  rwa [List.getD, List.getD, List.getElem?_eq_getElem h1, List.getElem?_eq_getElem h2] at this
theorem getD_app (L M : List α) (t : Nat) : (L ++ M).getD t z = if t < L.length then L.getD t z else M.getD (t - L.length) z := by
  rw [List.getD, List.getD, List.getD, List.getElem?_append]
  split <;> rfl
theorem swap_adj (P Q : List α) (x y : α) : swapL z (P ++ x :: y :: Q) P.length (P.length + 1) = P ++ y :: x :: Q := by
  refine ext_getD (z := z) (by rw [swapL_len]; simp) fun t _ => ?_
  rw [swapL_get (by simp) (by simp)]
  simp only [getD_app]
  rw [if_neg (Nat.lt_irrefl P.length), if_neg (show ¬ P.length + 1 < P.length by omega), Nat.sub_self, show P.length + 1 - P.length = 1 by omega]
  by_cases h1 : t = P.length + 1
  · subst h1
    rw [if_pos rfl, if_neg (show ¬ P.length + 1 < P.length by omega), show P.length + 1 - P.length = 1 by omega]
    rfl
  · rw [if_neg h1]
    by_cases h2 : t = P.length
    · subst h2
      rw [if_pos rfl, if_neg (Nat.lt_irrefl P.length), Nat.sub_self]
      rfl
    · rw [if_neg h2]
      by_cases h3 : t < P.length
      · rw [if_pos h3, if_pos h3]
      · obtain ⟨u, hu⟩ : ∃ u, t - P.length = u + 2 := ⟨t - P.length - 2, by omega⟩
        rw [if_neg h3, if_neg h3, hu]
        rfl
theorem swapL_comm {D : List α} {i j : Nat} (hi : i < D.length) (hj : j < D.length) : swapL z D i j = swapL z D j i := by
  refine ext_getD (z := z) (by rw [swapL_len, swapL_len]) fun t _ => ?_
  rw [swapL_get hi hj, swapL_get hj hi]
  by_cases h1 : t = j
  · subst h1
    rw [if_pos rfl]
    by_cases h2 : t = i
    · subst h2; rw [if_pos rfl]
    · rw [if_neg h2, if_pos rfl]
  · rw [if_neg h1]
    by_cases h2 : t = i
    · subst h2; rw [if_pos rfl, if_pos rfl]
    · rw [if_neg h2, if_neg h2, if_neg h1]
theorem swap_adj' (P Q : List α) (x y : α) : swapL z (P ++ x :: y :: Q) (P.length + 1) P.length = P ++ y :: x :: Q := by
  rw [swapL_comm (by simp) (by simp)]
  exact swap_adj P Q x y
variable (z)
/-- Two ranges of n each are exchanged, as far as k. -/
structure SwR (D : List α) (a b k : Nat) (E : List α) : Prop where
  len : E.length = D.length
  at_ : ∀ t, E.getD t z = if a ≤ t ∧ t < a + k then D.getD (t - a + b) z else if b ≤ t ∧ t < b + k then D.getD (t - b + a) z else D.getD t z
variable {z}
theorem SwR.zero (D : List α) (a b : Nat) : SwR z D a b 0 D := ⟨rfl, fun t => by rw [if_neg (by omega), if_neg (by omega)]⟩
theorem SwR.next {D E : List α} {a b k n : Nat} (h : SwR z D a b k E) (hk : k < n) (hab : a + n ≤ b) (hb : b + n ≤ D.length) : SwR z D a b (k + 1) (swapL z E (a + k) (b + k)) := by
  refine ⟨by rw [swapL_len, h.len], fun t => ?_⟩
  rw [swapL_get (by rw [h.len]; omega) (by rw [h.len]; omega), h.at_, h.at_, h.at_]
  repeat' split
  all_goals first | (exfalso; omega) | rfl | (congr 1; omega)
theorem SwR.fin {A X M Y B E : List α} (h : SwR z (A ++ X ++ M ++ Y ++ B) A.length (A.length + X.length + M.length) X.length E) (hl : Y.length = X.length) : E = A ++ Y ++ M ++ X ++ B := by
  refine ext_getD (z := z) (by rw [h.len]; simp; omega) fun t _ => ?_
  rw [h.at_]
  simp only [getD_app, List.length_append]
  repeat' split
  all_goals first | (exfalso; omega) | rfl | (congr 1; omega)
/-- A row that is to be turned round between two ends, as far as it came. -/
def Rot (T : List α) (m i j : Nat) (D : List α) : Prop := ∃ A L R B : List α, D = A ++ L ++ R ++ B ∧ A.length + L.length = m ∧ L.length = i ∧ R.length = j ∧ T = A ++ R ++ L ++ B ∧ 0 < i ∧ 0 < j
theorem cut_list (L : List α) (k : Nat) (h : k ≤ L.length) : ∃ X Y, L = X ++ Y ∧ X.length = k := ⟨L.take k, L.drop k, (List.take_append_drop k L).symm, by simp; omega⟩
theorem Rot.bnd {T D : List α} {m i j : Nat} (h : Rot T m i j D) : i ≤ m ∧ m + j ≤ D.length ∧ 0 < i ∧ 0 < j := by
  obtain ⟨A, L, R, B, rfl, h1, h2, h3, _, h4, h5⟩ := h
  refine ⟨by omega, by simp; omega, h4, h5⟩
theorem Rot.left {T D E : List α} {m i j : Nat} (h : Rot T m i j D) (hij : j < i) (hE : SwR z D (m - i) m j E) : Rot T m (i - j) j E := by
  obtain ⟨A, L, R, B, rfl, h1, h2, h3, hT, h4, h5⟩ := h
  obtain ⟨X, Y, rfl, hX⟩ := cut_list L j (by omega)
  simp at h1 h2
  have e : E = A ++ R ++ Y ++ X ++ B := by
    refine SwR.fin (z := z) (A := A) (X := X) (M := Y) (Y := R) (B := B) ?_ (by omega)
    rw [show A.length = m - i by omega, hX, show m - i + j + Y.length = m by omega]
    simpa using hE
  refine ⟨A ++ R, Y, X, B, by rw [e], by simp; omega, by omega, hX, by rw [hT]; simp, by omega, h5⟩
theorem Rot.right {T D E : List α} {m i j : Nat} (h : Rot T m i j D) (hij : i < j) (hE : SwR z D (m - i) (m + j - i) i E) : Rot T m i (j - i) E := by
  obtain ⟨A, L, R, B, rfl, h1, h2, h3, hT, h4, h5⟩ := h
  obtain ⟨P, Q, rfl, hP⟩ := cut_list R (j - i) (by omega)
  simp at h3
  have e : E = A ++ Q ++ P ++ L ++ B := by
    refine SwR.fin (z := z) (A := A) (X := L) (M := P) (Y := Q) (B := B) ?_ (by omega)
    rw [show A.length = m - i by omega, h2, show m - i + i + P.length = m + j - i by omega]
    simpa using hE
  refine ⟨A, Q, P, L ++ B, by rw [e]; simp, by omega, by omega, hP, by rw [hT]; simp, h4, by omega⟩
theorem Rot.fin {T D E : List α} {m i : Nat} (h : Rot T m i i D) (hE : SwR z D (m - i) m i E) : E = T := by
  obtain ⟨A, L, R, B, rfl, h1, h2, h3, hT, h4, h5⟩ := h
  rw [hT]
  have := SwR.fin (z := z) (A := A) (X := L) (M := []) (Y := R) (B := B) (E := E) (by
    rw [show A.length = m - i by omega, h2]
    simpa [show m - i + i = m by omega] using hE) (by omega)
  rw [this]
  simp
end
end Go.Proofs.YtibipnipeaeonaaDoor
