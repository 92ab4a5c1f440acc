/-
  ORDER: what a merge in place does. No claim by itself.
-/
import Derived.Test.YtibipnipeaeonaaDoorZs3X
namespace Go.Proofs.YtibipnipeaeonaaDoor
open Go Go.RowKit
set_option maxRecDepth 100000
/-- One text on its way through others. -/
def Sh (A Y : List FB) (x : FB) (C : List FB) (k : Nat) (E : List FB) : Prop := ∃ U V, Y = U ++ V ∧ E = A ++ U ++ [x] ++ V ++ C ∧ k = A.length + U.length
theorem Sh.up {A Y C E : List FB} {x : FB} {k : Nat} (h : Sh A Y x C k E) (hk : k < A.length + Y.length) : Sh A Y x C (k + 1) (swapL fnone E k (k + 1)) := by
  obtain ⟨U, V, rfl, rfl, rfl⟩ := h
  match V, hk with
  | [], hk => simp at hk
  | v :: V, _ =>
    refine ⟨U ++ [v], V, by simp, ?_, by simp; omega⟩
    have e0 : A ++ U ++ [x] ++ v :: V ++ C = (A ++ U) ++ x :: v :: (V ++ C) := by simp
    rw [e0, show A.length + U.length = (A ++ U).length by simp, swap_adj]
    simp
theorem Sh.down {A Y C E : List FB} {x : FB} {k : Nat} (h : Sh A Y x C (k + 1) E) (hk : A.length < k + 1) : Sh A Y x C k (swapL fnone E (k + 1) k) := by
  obtain ⟨U, V, rfl, rfl, hk'⟩ := h
  obtain ⟨U', u, rfl⟩ := snoc_of (L := U) (fun e => by subst e; simp at hk'; omega)
  simp at hk'
  have e0 : A ++ (U' ++ [u]) ++ [x] ++ V ++ C = (A ++ U') ++ u :: x :: (V ++ C) := by simp
  have ek : k = (A ++ U').length := by simp; omega
  refine ⟨U', u :: V, by simp, ?_, by omega⟩
  rw [e0, ek, swap_adj']
  simp
theorem Sh.bnd {A Y C E : List FB} {x : FB} {k : Nat} (h : Sh A Y x C k E) : A.length ≤ k ∧ k ≤ A.length + Y.length ∧ E.length = A.length + Y.length + 1 + C.length := by
  obtain ⟨U, V, rfl, rfl, rfl⟩ := h
  refine ⟨by omega, by rw [List.length_append]; omega, by simp; omega⟩
theorem Sh.last {A Y C E : List FB} {x : FB} {k : Nat} (h : Sh A Y x C k E) (hk : k = A.length + Y.length) : E = A ++ (Y ++ [x]) ++ C := by
  obtain ⟨U, V, rfl, rfl, rfl⟩ := h
  have : V = [] := List.length_eq_zero_iff.1 (by rw [List.length_append] at hk; omega)
  subst this
  simp
theorem Sh.first {A Y C E : List FB} {x : FB} {k : Nat} (h : Sh A Y x C k E) (hk : k = A.length) : E = A ++ ([x] ++ Y) ++ C := by
  obtain ⟨U, V, rfl, rfl, rfl⟩ := h
  have : U = [] := List.length_eq_zero_iff.1 (by omega)
  subst this
  simp
/- what is at a place -/
theorem at_app (A L : List FB) (c : Nat) (h : A.length ≤ c) : (A ++ L).getD c fnone = L.getD (c - A.length) fnone := by rw [getD_app, if_neg (by omega)]
theorem at_left (L R : List FB) (c : Nat) (h : c < L.length) : (L ++ R).getD c fnone = L.getD c fnone := by rw [getD_app, if_pos h]
theorem at_X {A X R : List FB} {c : Nat} (h1 : A.length ≤ c) (h2 : c < A.length + X.length) : (A ++ X ++ R).getD c fnone = X.getD (c - A.length) fnone := by
  rw [List.append_assoc, at_app _ _ _ h1, at_left _ _ _ (by omega)]
theorem at_Y {A X Y B : List FB} {c : Nat} (h1 : A.length + X.length ≤ c) (h2 : c < A.length + X.length + Y.length) : (A ++ X ++ Y ++ B).getD c fnone = Y.getD (c - (A.length + X.length)) fnone := by
  have := at_X (A := A ++ X) (X := Y) (R := B) (c := c) (by simpa using h1) (by simpa using h2)
  simpa using this
theorem mem_fd {L : List FB} {x : FB} (h : x ∈ L) : ∃ i, i < L.length ∧ L.getD i fnone = x := by
  obtain ⟨i, hi, rfl⟩ := List.getElem_of_mem h
  exact ⟨i, hi, by rw [List.getD, List.getElem?_eq_getElem hi]; rfl⟩
def P1 (D : List FB) (a c : Nat) : Prop := lexLt (nmK (D.getD c fnone)) (nmK (D.getD a fnone)) = false
def P2 (D : List FB) (m c : Nat) : Prop := lexLt (nmK (D.getD m fnone)) (nmK (D.getD c fnone)) = true
def P3 (D : List FB) (p c : Nat) : Prop := lexLt (nmK (D.getD (p - c) fnone)) (nmK (D.getD c fnone)) = true
section
variable {A X Y B : List FB}
theorem p1_mono {x : FB} (hY : Srt nmK Y) : ∀ c c', A.length + 1 ≤ c → c ≤ c' → c' < A.length + 1 + Y.length → P1 (A ++ [x] ++ Y ++ B) A.length c → P1 (A ++ [x] ++ Y ++ B) A.length c' := by
  intro c c' h1 h2 h3 h
  unfold P1 at h ⊢
  have key : ∀ c, A.length + 1 ≤ c → c < A.length + 1 + Y.length → (A ++ [x] ++ Y ++ B).getD c fnone = Y.getD (c - (A.length + 1)) fnone := fun c h1 h2 => by rw [at_Y (by simpa using h1) (by simp; omega)]; simp
  rw [key c h1 (by omega)] at h
  rw [key c' (by omega) h3]
  exact lex_le_trans h (srt_get hY (by omega) (by omega) fnone)
theorem p1_end {x : FB} {i : Nat} (hY : Srt nmK Y) (h : Bs (P1 (A ++ [x] ++ Y ++ B) A.length) (A.length + 1) (A.length + 1 + Y.length) i i) : ∃ Y1 Y2, Y = Y1 ++ Y2 ∧ i = A.length + 1 + Y1.length ∧ Mrg nmK [x] Y (Y1 ++ [x] ++ Y2) := by
  have hlo := h.lo
  have hhi := h.hi
  obtain ⟨Y1, Y2, e, hl⟩ := cut_list Y (i - (A.length + 1)) (by omega)
  have ex : (A ++ [x] ++ Y ++ B).getD A.length fnone = x := by rw [show A ++ [x] ++ Y ++ B = A ++ x :: (Y ++ B) by simp]; exact getD_at _ _ _
  refine ⟨Y1, Y2, e, by omega, ?_⟩
  have key : ∀ c, A.length + 1 ≤ c → c < A.length + 1 + Y.length → (A ++ [x] ++ Y ++ B).getD c fnone = Y.getD (c - (A.length + 1)) fnone := fun c h1 h2 => by rw [at_Y (by simpa using h1) (by simp; omega)]; simp
  rw [e]
  refine mrg_oneL (e ▸ hY) (fun y hy => ?_) (fun y hy => ?_)
  · obtain ⟨t, ht, rfl⟩ := mem_fd hy
    have := h.no (A.length + 1 + t) (by omega) (by omega)
    unfold P1 at this
    rw [ex, key _ (by omega) (by have : Y.length = Y1.length + Y2.length := by rw [e]; simp
                                 omega), show A.length + 1 + t - (A.length + 1) = t by omega, e, at_left _ _ _ ht] at this
    cases hh : lexLt (nmK (Y1.getD t fnone)) (nmK x) with
    | true => rfl
    | false => exact absurd hh this
  · obtain ⟨t, ht, rfl⟩ := mem_fd hy
    have hlen : Y.length = Y1.length + Y2.length := by rw [e]; simp
    have := h.yes (A.length + 1 + (Y1.length + t)) (by omega) (by omega)
    unfold P1 at this
    rw [ex, key _ (by omega) (by omega), show A.length + 1 + (Y1.length + t) - (A.length + 1) = Y1.length + t by omega, e, at_app _ _ _ (by omega), show Y1.length + t - Y1.length = t by omega] at this
    exact this
theorem p2_mono {y : FB} (hX : Srt nmK X) : ∀ c c', A.length ≤ c → c ≤ c' → c' < A.length + X.length → P2 (A ++ X ++ [y] ++ B) (A.length + X.length) c → P2 (A ++ X ++ [y] ++ B) (A.length + X.length) c' := by
  intro c c' h1 h2 h3 h
  unfold P2 at h ⊢
  have e : ∀ c, A.length ≤ c → c < A.length + X.length → (A ++ X ++ [y] ++ B).getD c fnone = X.getD (c - A.length) fnone := fun c h1 h2 => by rw [List.append_assoc (A ++ X), at_X h1 h2]
  rw [e c h1 (by omega)] at h
  rw [e c' (by omega) h3]
  exact lt_le h (srt_get hX (by omega) (by omega) fnone)
theorem p2_end {y : FB} {i : Nat} (hX : Srt nmK X) (h : Bs (P2 (A ++ X ++ [y] ++ B) (A.length + X.length)) A.length (A.length + X.length) i i) : ∃ X1 X2, X = X1 ++ X2 ∧ i = A.length + X1.length ∧ Mrg nmK X [y] (X1 ++ [y] ++ X2) := by
  have hlo := h.lo
  have hhi := h.hi
  obtain ⟨X1, X2, e, hl⟩ := cut_list X (i - A.length) (by omega)
  have ey : (A ++ X ++ [y] ++ B).getD (A.length + X.length) fnone = y := by rw [show A ++ X ++ [y] ++ B = (A ++ X) ++ y :: B by simp, show A.length + X.length = (A ++ X).length by simp]; exact getD_at _ _ _
  have key : ∀ c, A.length ≤ c → c < A.length + X.length → (A ++ X ++ [y] ++ B).getD c fnone = X.getD (c - A.length) fnone := fun c h1 h2 => by rw [List.append_assoc (A ++ X), at_X h1 h2]
  have hlen : X.length = X1.length + X2.length := by rw [e]; simp
  refine ⟨X1, X2, e, by omega, ?_⟩
  rw [e]
  refine mrg_oneR (e ▸ hX) (fun x hx => ?_) (fun x hx => ?_)
  · obtain ⟨t, ht, rfl⟩ := mem_fd hx
    have := h.no (A.length + t) (by omega) (by omega)
    unfold P2 at this
    rw [ey, key _ (by omega) (by omega), show A.length + t - A.length = t by omega, e, at_left _ _ _ ht] at this
    exact not_lt_le this
  · obtain ⟨t, ht, rfl⟩ := mem_fd hx
    have := h.yes (A.length + (X1.length + t)) (by omega) (by omega)
    unfold P2 at this
    rw [ey, key _ (by omega) (by omega), show A.length + (X1.length + t) - A.length = X1.length + t by omega, e, at_app _ _ _ (by omega), show X1.length + t - X1.length = t by omega] at this
    exact this
/-- The numbers of a merge: where it is cut. -/
structure Cut3 (a m b mid s0 r0 : Nat) : Prop where
  am : a < m
  mb : m < b
  mid_ : mid = (a + b) / 2
  way : (mid < m ∧ s0 = mid + m - b ∧ r0 = mid) ∨ (m ≤ mid ∧ s0 = a ∧ r0 = m)
theorem Cut3.rng {a m b mid s0 r0 c : Nat} (h : Cut3 a m b mid s0 r0) (h1 : s0 ≤ c) (h2 : c < r0) : a ≤ c ∧ c < m ∧ m ≤ mid + m - 1 - c ∧ mid + m - 1 - c < b := by
  have := h.am; have := h.mb; have := h.mid_
  rcases h.way with ⟨h3, h4, h5⟩ | ⟨h3, h4, h5⟩ <;> omega
theorem p3_mono {a m b mid s0 r0 : Nat} (h : Cut3 a m b mid s0 r0) (ha : a = A.length) (hm : m = A.length + X.length) (hb : b = A.length + X.length + Y.length) (hX : Srt nmK X) (hY : Srt nmK Y) :
    ∀ c c', s0 ≤ c → c ≤ c' → c' < r0 → P3 (A ++ X ++ Y ++ B) (mid + m - 1) c → P3 (A ++ X ++ Y ++ B) (mid + m - 1) c' := by
  intro c c' h1 h2 h3 hp
  obtain ⟨q1, q2, q3, q4⟩ := h.rng h1 (by omega : c < r0)
  obtain ⟨t1, t2, t3, t4⟩ := h.rng (by omega : s0 ≤ c') h3
  unfold P3 at hp ⊢
  rw [at_Y (by omega) (by omega), List.append_assoc (A ++ X), at_X (by omega) (by omega)] at hp ⊢
  exact lt_le (le_lt (srt_get hY (by omega) (by omega) fnone) hp) (srt_get hX (by omega) (by omega) fnone)
theorem p3_end {a m b mid s0 r0 s : Nat} (h : Cut3 a m b mid s0 r0) (ha : a = A.length) (hm : m = A.length + X.length) (hb : b = A.length + X.length + Y.length) (hX : Srt nmK X) (hY : Srt nmK Y)
    (hs : Bs (P3 (A ++ X ++ Y ++ B) (mid + m - 1)) s0 r0 s s) : ∃ X1 X2 Y1 Y2, X = X1 ++ X2 ∧ Y = Y1 ++ Y2 ∧ s = a + X1.length ∧ mid + m - s = m + Y1.length ∧ s + Y1.length = mid ∧ s ≤ m ∧ a < mid ∧ mid < b ∧
      (∀ x ∈ X2, ∀ y ∈ Y1, lexLt (nmK y) (nmK x) = true) ∧ (∀ x ∈ X1, ∀ y ∈ Y2, lexLe (nmK x) (nmK y)) := by
  have g1 := h.am; have g2 := h.mb; have g3 := h.mid_
  have hlo := hs.lo; have hhi := hs.hi
  have bs : a ≤ s ∧ s ≤ m ∧ m ≤ mid + m - s ∧ mid + m - s ≤ b ∧ s ≤ mid := by
    rcases h.way with ⟨h3, h4, h5⟩ | ⟨h3, h4, h5⟩ <;> omega
  obtain ⟨b1, b2, b3, b4, b5⟩ := bs
  obtain ⟨X1, X2, eX, lX⟩ := cut_list X (s - a) (by omega)
  obtain ⟨Y1, Y2, eY, lY⟩ := cut_list Y (mid - s) (by omega)
  have LX : X.length = X1.length + X2.length := by rw [eX]; simp
  have LY : Y.length = Y1.length + Y2.length := by rw [eY]; simp
  have keyX : ∀ c, A.length ≤ c → c < A.length + X.length → (A ++ X ++ Y ++ B).getD c fnone = X.getD (c - A.length) fnone := fun c h1 h2 => by rw [List.append_assoc (A ++ X), at_X h1 h2]
  refine ⟨X1, X2, Y1, Y2, eX, eY, by omega, by omega, by omega, b2, by omega, by omega, fun x hx y hy => ?_, fun x hx y hy => ?_⟩
  · obtain ⟨i, hi, rfl⟩ := mem_fd hx
    obtain ⟨j, hj, rfl⟩ := mem_fd hy
    have hr : s < r0 := by rcases h.way with ⟨h3, h4, h5⟩ | ⟨h3, h4, h5⟩ <;> omega
    have hp := hs.yes s (Nat.le_refl _) hr
    unfold P3 at hp
    rw [at_Y (by omega) (by omega), keyX s (by omega) (by omega)] at hp
    have k1 : lexLe (nmK (Y1.getD j fnone)) (nmK (Y.getD (mid + m - 1 - s - (A.length + X.length)) fnone)) := by
      have := srt_get hY (i := j) (j := mid + m - 1 - s - (A.length + X.length)) (by omega) (by omega) fnone
      rwa [show Y.getD j fnone = Y1.getD j fnone by rw [eY]; exact at_left _ _ _ hj] at this
    have k2 : lexLe (nmK (X.getD (s - A.length) fnone)) (nmK (X2.getD i fnone)) := by
      have := srt_get hX (i := s - A.length) (j := X1.length + i) (by omega) (by omega) fnone
      rwa [show X.getD (X1.length + i) fnone = X2.getD i fnone by rw [eX, at_app _ _ _ (by omega), show X1.length + i - X1.length = i by omega]] at this
    exact lt_le (le_lt k1 hp) k2
  · obtain ⟨i, hi, rfl⟩ := mem_fd hx
    obtain ⟨j, hj, rfl⟩ := mem_fd hy
    have hr : s0 ≤ s - 1 := by rcases h.way with ⟨h3, h4, h5⟩ | ⟨h3, h4, h5⟩ <;> omega
    have hp := hs.no (s - 1) hr (by omega)
    unfold P3 at hp
    rw [at_Y (by omega) (by omega), keyX (s - 1) (by omega) (by omega)] at hp
    have hp := not_lt_le hp
    have k1 : lexLe (nmK (X1.getD i fnone)) (nmK (X.getD (s - 1 - A.length) fnone)) := by
      have := srt_get hX (i := i) (j := s - 1 - A.length) (by omega) (by omega) fnone
      rwa [show X.getD i fnone = X1.getD i fnone by rw [eX]; exact at_left _ _ _ hi] at this
    have k2 : lexLe (nmK (Y.getD (mid + m - 1 - (s - 1) - (A.length + X.length)) fnone)) (nmK (Y2.getD j fnone)) := by
      have := srt_get hY (i := mid + m - 1 - (s - 1) - (A.length + X.length)) (j := Y1.length + j) (by omega) (by omega) fnone
      rwa [show Y.getD (Y1.length + j) fnone = Y2.getD j fnone by rw [eY, at_app _ _ _ (by omega), show Y1.length + j - Y1.length = j by omega]] at this
    exact lex_le_trans (lex_le_trans k1 hp) k2
end
end Go.Proofs.YtibipnipeaeonaaDoor
