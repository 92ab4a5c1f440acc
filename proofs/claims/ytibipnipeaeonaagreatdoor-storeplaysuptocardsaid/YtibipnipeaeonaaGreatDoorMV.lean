/-
  ORDER: rows that are put in order, and those alike stay as they stood. No claim by itself.
-/
import Derived.BigRegion
import Derived.Laws.OwnMore
import Derived.Test.YtibipnipeaeonaaGreatDoorVl
import Derived.Test.YtibipnipeaeonaaGreatDoorMC
import Derived.Test.YtibipnipeaeonaaGreatDoorMB
namespace Go.Proofs.YtibipnipeaeonaaGreatDoor
/-- One text is ahead of another one. -/
def lexLt : List Int → List Int → Bool
  | _, [] => false
  | [], _ :: _ => true
  | a :: x, b :: y => if a < b then true else if a = b then lexLt x y else false
theorem lex_irr : ∀ x, lexLt x x = false
  | [] => rfl
  | a :: x => by rw [lexLt, if_neg (Int.lt_irrefl a), if_pos rfl]; exact lex_irr x
theorem lex_trans : ∀ {x y z}, lexLt x y = true → lexLt y z = true → lexLt x z = true
  | _, [], _, h, _ => by simp [lexLt] at h
  | _, _ :: _, [], _, h => by simp [lexLt] at h
  | [], _ :: _, _ :: _, _, _ => rfl
  | a :: x, b :: y, c :: z, h1, h2 => by
    rw [lexLt] at h1 h2 ⊢
    by_cases e1 : a < b
    · by_cases e2 : b < c
      · rw [if_pos (by omega)]
      · rw [if_neg e2] at h2
        split at h2
        · rw [if_pos (by omega)]
        · cases h2
    · rw [if_neg e1] at h1
      split at h1
      · rename_i e
        subst e
        by_cases e2 : a < c
        · rw [if_pos e2]
        · rw [if_neg e2] at h2 ⊢
          split at h2
          · rename_i e; rw [if_pos e]; exact lex_trans h1 h2
          · cases h2
      · cases h1
theorem lex_tri : ∀ {x y}, lexLt x y = false → lexLt y x = false → x = y
  | [], [], _, _ => rfl
  | [], _ :: _, h, _ => by simp [lexLt] at h
  | _ :: _, [], _, h => by simp [lexLt] at h
  | a :: x, b :: y, h1, h2 => by
    rw [lexLt] at h1 h2
    by_cases e1 : a < b
    · rw [if_pos e1] at h1; cases h1
    · by_cases e2 : b < a
      · rw [if_pos e2] at h2; cases h2
      · have e : a = b := by omega
        subst e
        rw [if_neg e1, if_pos rfl] at h1 h2
        rw [lex_tri h1 h2]
theorem lex_asym {x y} (h : lexLt x y = true) : lexLt y x = false := by
  cases e : lexLt y x with
  | false => rfl
  | true => have := lex_trans h e; rw [lex_irr] at this; cases this
/-- Not behind. -/
def lexLe (x y : List Int) : Prop := lexLt y x = false
theorem le_refl' (x) : lexLe x x := lex_irr x
theorem le_of_lt {x y} (h : lexLt x y = true) : lexLe x y := lex_asym h
theorem le_cases {x y} (h : lexLe x y) : lexLt x y = true ∨ x = y := by
  cases e : lexLt x y with
  | true => exact Or.inl rfl
  | false => exact Or.inr (lex_tri e h)
theorem lex_le_trans {x y z} (h1 : lexLe x y) (h2 : lexLe y z) : lexLe x z := by
  rcases le_cases h1 with h | rfl
  · rcases le_cases h2 with k | rfl
    · exact lex_asym (lex_trans h k)
    · exact lex_asym h
  · exact h2
theorem lt_le {x y z} (h1 : lexLt x y = true) (h2 : lexLe y z) : lexLt x z = true := by
  rcases le_cases h2 with k | rfl
  · exact lex_trans h1 k
  · exact h1
theorem le_lt {x y z} (h1 : lexLe x y) (h2 : lexLt y z = true) : lexLt x z = true := by
  rcases le_cases h1 with k | rfl
  · exact lex_trans k h2
  · exact h2
theorem lt_ne {x y} (h : lexLt x y = true) : x ≠ y := fun e => by rw [e, lex_irr] at h; cases h
theorem not_lt_le {x y} (h : ¬ lexLt x y = true) : lexLe y x := by
  show _ = _
  cases e : lexLt x y with
  | true => exact absurd e h
  | false => rfl
section
variable {α : Type} (κ : α → List Int)
/-- In order. -/
def Srt (L : List α) : Prop := L.Pairwise fun x y => lexLe (κ x) (κ y)
/-- Of each name the same ones, as they stood. -/
def Sby (L M : List α) : Prop := ∀ k, (L.filter fun x => κ x == k) = M.filter fun x => κ x == k
variable {κ}
theorem Sby.refl (L : List α) : Sby κ L L := fun _ => rfl
theorem Sby.symm {L M : List α} (h : Sby κ L M) : Sby κ M L := fun k => (h k).symm
theorem Sby.trans {L M N : List α} (h : Sby κ L M) (g : Sby κ M N) : Sby κ L N := fun k => (h k).trans (g k)
theorem Sby.app {L L' M M' : List α} (h : Sby κ L L') (g : Sby κ M M') : Sby κ (L ++ M) (L' ++ M') := fun k => by rw [List.filter_append, List.filter_append, h k, g k]
theorem Sby.mem {L M : List α} (h : Sby κ L M) {x : α} (hx : x ∈ L) : x ∈ M := by
  have : x ∈ L.filter fun y => κ y == κ x := List.mem_filter.2 ⟨hx, by simp⟩
  rw [h] at this
  exact (List.mem_filter.1 this).1
theorem Sby.swap {L M : List α} (h : ∀ x ∈ L, ∀ y ∈ M, κ x ≠ κ y) : Sby κ (L ++ M) (M ++ L) := fun k => by
  rw [List.filter_append, List.filter_append]
  by_cases e : ∃ x ∈ L, κ x = k
  · obtain ⟨x, hx, rfl⟩ := e
    have : (M.filter fun y => κ y == κ x) = [] := List.filter_eq_nil_iff.2 fun y hy => by simpa using fun e => h x hx y hy e.symm
    rw [this]; simp
  · have : (L.filter fun y => κ y == k) = [] := List.filter_eq_nil_iff.2 fun y hy => by simpa using fun e' => e ⟨y, hy, e'⟩
    rw [this]; simp
theorem sby_nil {M : List α} (h : Sby κ [] M) : M = [] := by
  cases M with
  | nil => rfl
  | cons y r => have := h.symm.mem (List.mem_cons_self ..) (x := y); simp at this
/-- There is one order alone. -/
theorem srt_one : ∀ {L M : List α}, Srt κ L → Srt κ M → Sby κ L M → L = M
  | [], M, _, _, h => (sby_nil h).symm
  | x :: r, [], _, _, h => by have := sby_nil h.symm; exact this
  | x :: r, y :: q, h1, h2, h => by
    have h1' := List.pairwise_cons.1 h1
    have h2' := List.pairwise_cons.1 h2
    have ek : κ x = κ y := by
      have hx : x ∈ y :: q := h.mem (List.mem_cons_self ..)
      have hy : y ∈ x :: r := h.symm.mem (List.mem_cons_self ..)
      have l1 : lexLe (κ y) (κ x) := by
        rcases List.mem_cons.1 hx with e | e
        · rw [e]; exact le_refl' _
        · exact h2'.1 x e
      have l2 : lexLe (κ x) (κ y) := by
        rcases List.mem_cons.1 hy with e | e
        · rw [e]; exact le_refl' _
        · exact h1'.1 y e
      exact lex_tri l1 l2
    have h0 := h (κ x)
    rw [List.filter_cons, List.filter_cons, if_pos (by simp), if_pos (by simp [ek])] at h0
    injection h0 with e1 e2
    subst e1
    rw [srt_one h1'.2 h2'.2 fun k => ?_]
    have hk := h k
    rw [List.filter_cons, List.filter_cons] at hk
    by_cases e : κ x = k
    · rw [if_pos (by simp [e]), if_pos (by simp [e])] at hk
      injection hk
    · rw [if_neg (by simp [e]), if_neg (by simp [e])] at hk
      exact hk
theorem srt_app {L M : List α} (h1 : Srt κ L) (h2 : Srt κ M) (h : ∀ x ∈ L, ∀ y ∈ M, lexLe (κ x) (κ y)) : Srt κ (L ++ M) := List.pairwise_append.2 ⟨h1, h2, h⟩
theorem srt_left {L M : List α} (h : Srt κ (L ++ M)) : Srt κ L := (List.pairwise_append.1 h).1
theorem srt_right {L M : List α} (h : Srt κ (L ++ M)) : Srt κ M := (List.pairwise_append.1 h).2.1
theorem srt_mid {L M : List α} (h : Srt κ (L ++ M)) : ∀ x ∈ L, ∀ y ∈ M, lexLe (κ x) (κ y) := (List.pairwise_append.1 h).2.2
theorem srt_get {L : List α} (h : Srt κ L) {i j : Nat} (hi : i ≤ j) (hj : j < L.length) (z : α) : lexLe (κ (L.getD i z)) (κ (L.getD j z)) := by
  by_cases e : i = j
  · subst e; exact le_refl' _
  · rw [List.getD, List.getD, List.getElem?_eq_getElem hj, List.getElem?_eq_getElem (by omega : i < L.length)]
    exact List.pairwise_iff_getElem.1 h i j (by omega) hj (by omega)
/-- Two rows, put together in order. -/
structure Mrg (κ : α → List Int) (X Y Z : List α) : Prop where
  srt : Srt κ Z
  sby : Sby κ (X ++ Y) Z
  len : Z.length = X.length + Y.length
theorem Mrg.mem {X Y Z : List α} (h : Mrg κ X Y Z) {x : α} (hx : x ∈ Z) : x ∈ X ∨ x ∈ Y := List.mem_append.1 (h.sby.symm.mem hx)
theorem mrg_nilL {Y : List α} (h : Srt κ Y) : Mrg κ [] Y Y := ⟨h, Sby.refl _, by simp⟩
theorem mrg_nilR {X : List α} (h : Srt κ X) : Mrg κ X [] X := ⟨h, by rw [List.append_nil]; exact Sby.refl _, by simp⟩
/-- One text goes in ahead of all that are not less. -/
theorem mrg_oneL {x : α} {Y1 Y2 : List α} (hY : Srt κ (Y1 ++ Y2)) (h1 : ∀ y ∈ Y1, lexLt (κ y) (κ x) = true) (h2 : ∀ y ∈ Y2, lexLe (κ x) (κ y)) : Mrg κ [x] (Y1 ++ Y2) (Y1 ++ [x] ++ Y2) := by
  refine ⟨?_, ?_, by simp; omega⟩
  · rw [List.append_assoc]
    refine srt_app (srt_left hY) (List.pairwise_cons.2 ⟨fun y hy => h2 y hy, srt_right hY⟩) fun u hu v hv => ?_
    rcases List.mem_cons.1 hv with rfl | hv
    · exact le_of_lt (h1 u hu)
    · exact srt_mid hY u hu v hv
  · rw [← List.append_assoc]
    refine Sby.app (Sby.swap fun u hu v hv => ?_) (Sby.refl _)
    rcases List.mem_singleton.1 hu with rfl
    exact fun e => lt_ne (h1 v hv) e.symm
theorem mrg_oneR {y : α} {X1 X2 : List α} (hX : Srt κ (X1 ++ X2)) (h1 : ∀ x ∈ X1, lexLe (κ x) (κ y)) (h2 : ∀ x ∈ X2, lexLt (κ y) (κ x) = true) : Mrg κ (X1 ++ X2) [y] (X1 ++ [y] ++ X2) := by
  refine ⟨?_, ?_, by simp; omega⟩
  · rw [List.append_assoc]
    refine srt_app (srt_left hX) (List.pairwise_cons.2 ⟨fun u hu => le_of_lt (h2 u hu), srt_right hX⟩) fun u hu v hv => ?_
    rcases List.mem_cons.1 hv with rfl | hv
    · exact h1 u hu
    · exact srt_mid hX u hu v hv
  · rw [List.append_assoc, List.append_assoc]
    refine Sby.app (Sby.refl _) (Sby.swap fun u hu v hv => ?_)
    rcases List.mem_singleton.1 hv with rfl
    exact fun e => lt_ne (h2 u hu) e.symm
/-- Two rows, cut and turned about in the middle: each half by itself. -/
theorem mrg_mid {X1 X2 Y1 Y2 Z1 Z2 : List α} (hX : Srt κ (X1 ++ X2)) (hY : Srt κ (Y1 ++ Y2)) (h1 : ∀ x ∈ X2, ∀ y ∈ Y1, lexLt (κ y) (κ x) = true) (h2 : ∀ x ∈ X1, ∀ y ∈ Y2, lexLe (κ x) (κ y))
    (hZ1 : Mrg κ X1 Y1 Z1) (hZ2 : Mrg κ X2 Y2 Z2) : Mrg κ (X1 ++ X2) (Y1 ++ Y2) (Z1 ++ Z2) := by
  refine ⟨srt_app hZ1.srt hZ2.srt fun u hu v hv => ?_, ?_, ?_⟩
  · rcases hZ1.mem hu with hu | hu <;> rcases hZ2.mem hv with hv | hv
    · exact srt_mid hX u hu v hv
    · exact h2 u hu v hv
    · exact le_of_lt (h1 v hv u hu)
    · exact srt_mid hY u hu v hv
  · have e : Sby κ (X1 ++ X2 ++ (Y1 ++ Y2)) (X1 ++ Y1 ++ (X2 ++ Y2)) := by
      rw [List.append_assoc, List.append_assoc]
      refine Sby.app (Sby.refl _) ?_
      rw [← List.append_assoc, ← List.append_assoc]
      exact Sby.app (Sby.swap fun u hu v hv e => lt_ne (h1 u hu v hv) e.symm) (Sby.refl _)
    exact e.trans (Sby.app hZ1.sby hZ2.sby)
  · have := hZ1.len; have := hZ2.len; simp; omega
/-- A row in pieces of s in order, and a rest. -/
def Runs (κ : α → List Int) (s : Nat) (D : List α) : Prop := ∃ (bs : List (List α)) (X : List α), D = bs.flatten ++ X ∧ (∀ b ∈ bs, b.length = s ∧ Srt κ b) ∧ X.length < s ∧ Srt κ X
theorem flat_len {s : Nat} : ∀ {bs : List (List α)}, (∀ b ∈ bs, b.length = s ∧ Srt κ b) → bs.flatten.length = bs.length * s
  | [], _ => by simp
  | b :: bs, h => by
    rw [List.flatten_cons, List.length_append, flat_len fun c hc => h c (List.mem_cons_of_mem _ hc), (h b (List.mem_cons_self ..)).1, List.length_cons, Nat.add_mul]
    omega
theorem runs_done {s : Nat} {D : List α} (h : Runs κ s D) (hs : 0 < s) (hD : D.length ≤ s) : Srt κ D := by
  obtain ⟨bs, X, rfl, hb, hX, hS⟩ := h
  match bs, hb with
  | [], _ => simpa using hS
  | [b], hb =>
    have hl := (hb b (List.mem_cons_self ..)).1
    simp at hD
    have : X = [] := List.length_eq_zero_iff.1 (by omega)
    subst this
    simpa using (hb b (List.mem_cons_self ..)).2
  | b :: c :: r, hb =>
    have h1 := (hb b (List.mem_cons_self ..)).1
    have h2 := (hb c (List.mem_cons_of_mem _ (List.mem_cons_self ..))).1
    simp at hD
    omega
/-- Where the greater ones begin, looked for by halves. -/
structure Bs (P : Nat → Prop) (s0 r0 s r : Nat) : Prop where
  lo : s0 ≤ s
  le : s ≤ r
  hi : r ≤ r0
  no : ∀ c, s0 ≤ c → c < s → ¬ P c
  yes : ∀ c, r ≤ c → c < r0 → P c
theorem Bs.start {P : Nat → Prop} {s0 r0 : Nat} (h : s0 ≤ r0) : Bs P s0 r0 s0 r0 := ⟨Nat.le_refl _, h, Nat.le_refl _, fun c h1 h2 => by omega, fun c h1 h2 => by omega⟩
theorem Bs.up {P : Nat → Prop} {s0 r0 s r c : Nat} (h : Bs P s0 r0 s r) (hm : ∀ c c', s0 ≤ c → c ≤ c' → c' < r0 → P c → P c') (h1 : s ≤ c) (h2 : c < r) (hn : ¬ P c) : Bs P s0 r0 (c + 1) r :=
  ⟨by have := h.lo; omega, by omega, h.hi, fun d h3 h4 hp => hn (hm d c h3 (by omega) (by have := h.hi; omega) hp), h.yes⟩
theorem Bs.down {P : Nat → Prop} {s0 r0 s r c : Nat} (h : Bs P s0 r0 s r) (hm : ∀ c c', s0 ≤ c → c ≤ c' → c' < r0 → P c → P c') (h1 : s ≤ c) (h2 : c < r) (hp : P c) : Bs P s0 r0 s c :=
  ⟨h.lo, h1, by have := h.hi; omega, h.no, fun d h3 h4 => hm c d (by have := h.lo; omega) h3 h4 hp⟩
end
end Go.Proofs.YtibipnipeaeonaaGreatDoor
/-
  ORDER: rows whose places are exchanged. No claim by itself.
-/
namespace Go.Proofs.YtibipnipeaeonaaGreatDoor
section
variable {α : Type} (z : α)
def swapL (D : List α) (i j : Nat) : List α := (D.set i (D.getD j z)).set j (D.getD i z)
variable {z}
theorem swapL_len (D : List α) (i j : Nat) : (swapL z D i j).length = D.length := by simp [swapL]
theorem getD_set' (D : List α) (i t : Nat) (v : α) (hi : i < D.length) : (D.set i v).getD t z = if t = i then v else D.getD t z := by
  rw [List.getD, List.getD, List.getElem?_set]
  by_cases e : i = t
  · subst e; simp [hi]
  · rw [if_neg e, if_neg (fun h => e h.symm)]
theorem swapL_get {D : List α} {i j : Nat} (hi : i < D.length) (hj : j < D.length) (t : Nat) : (swapL z D i j).getD t z = if t = j then D.getD i z else if t = i then D.getD j z else D.getD t z := by
  unfold swapL
  rw [getD_set' _ _ _ _ (by simpa using hj), getD_set' _ _ _ _ hi]
theorem ext_getD {L M : List α} (hl : L.length = M.length) (h : ∀ t, t < L.length → L.getD t z = M.getD t z) : L = M := by
  refine List.ext_getElem hl fun i h1 h2 => ?_
  have := h i h1
  rwa [List.getD, List.getD, List.getElem?_eq_getElem h1, List.getElem?_eq_getElem h2] at this
theorem getD_app (L M : List α) (t : Nat) : (L ++ M).getD t z = if t < L.length then L.getD t z else M.getD (t - L.length) z := by
  rw [List.getD, List.getD, List.getD, List.getElem?_append]
  split <;> rfl
theorem swap_adj (P Q : List α) (x y : α) : swapL z (P ++ x :: y :: Q) P.length (P.length + 1) = P ++ y :: x :: Q := by
  refine ext_getD (z := z) (by rw [swapL_len]; simp) fun t _ => ?_
  rw [swapL_get (by simp) (by simp)]
  simp only [getD_app]
  rw [if_neg (Nat.lt_irrefl P.length), if_neg (show ¬ P.length + 1 < P.length by omega), Nat.sub_self, show P.length + 1 - P.length = 1 by omega]
  by_cases h1 : t = P.length + 1
  · subst h1
    rw [if_pos rfl, if_neg (show ¬ P.length + 1 < P.length by omega), show P.length + 1 - P.length = 1 by omega]
    rfl
  · rw [if_neg h1]
    by_cases h2 : t = P.length
    · subst h2
      rw [if_pos rfl, if_neg (Nat.lt_irrefl P.length), Nat.sub_self]
      rfl
    · rw [if_neg h2]
      by_cases h3 : t < P.length
      · rw [if_pos h3, if_pos h3]
      · obtain ⟨u, hu⟩ : ∃ u, t - P.length = u + 2 := ⟨t - P.length - 2, by omega⟩
        rw [if_neg h3, if_neg h3, hu]
        rfl
theorem swapL_comm {D : List α} {i j : Nat} (hi : i < D.length) (hj : j < D.length) : swapL z D i j = swapL z D j i := by
  refine ext_getD (z := z) (by rw [swapL_len, swapL_len]) fun t _ => ?_
  rw [swapL_get hi hj, swapL_get hj hi]
  by_cases h1 : t = j
  · subst h1
    rw [if_pos rfl]
    by_cases h2 : t = i
    · subst h2; rw [if_pos rfl]
    · rw [if_neg h2, if_pos rfl]
  · rw [if_neg h1]
    by_cases h2 : t = i
    · subst h2; rw [if_pos rfl, if_pos rfl]
    · rw [if_neg h2, if_neg h2, if_neg h1]
theorem swap_adj' (P Q : List α) (x y : α) : swapL z (P ++ x :: y :: Q) (P.length + 1) P.length = P ++ y :: x :: Q := by
  rw [swapL_comm (by simp) (by simp)]
  exact swap_adj P Q x y
variable (z)
/-- Two ranges of n each are exchanged, as far as k. -/
structure SwR (D : List α) (a b k : Nat) (E : List α) : Prop where
  len : E.length = D.length
  at_ : ∀ t, E.getD t z = if a ≤ t ∧ t < a + k then D.getD (t - a + b) z else if b ≤ t ∧ t < b + k then D.getD (t - b + a) z else D.getD t z
variable {z}
theorem SwR.zero (D : List α) (a b : Nat) : SwR z D a b 0 D := ⟨rfl, fun t => by rw [if_neg (by omega), if_neg (by omega)]⟩
theorem SwR.next {D E : List α} {a b k n : Nat} (h : SwR z D a b k E) (hk : k < n) (hab : a + n ≤ b) (hb : b + n ≤ D.length) : SwR z D a b (k + 1) (swapL z E (a + k) (b + k)) := by
  refine ⟨by rw [swapL_len, h.len], fun t => ?_⟩
  rw [swapL_get (by rw [h.len]; omega) (by rw [h.len]; omega), h.at_, h.at_, h.at_]
  repeat' split
  all_goals first | (exfalso; omega) | rfl | (congr 1; omega)
theorem SwR.fin {A X M Y B E : List α} (h : SwR z (A ++ X ++ M ++ Y ++ B) A.length (A.length + X.length + M.length) X.length E) (hl : Y.length = X.length) : E = A ++ Y ++ M ++ X ++ B := by
  refine ext_getD (z := z) (by rw [h.len]; simp; omega) fun t _ => ?_
  rw [h.at_]
  simp only [getD_app, List.length_append]
  repeat' split
  all_goals first | (exfalso; omega) | rfl | (congr 1; omega)
/-- A row that is to be turned round between two ends, as far as it came. -/
def Rot (T : List α) (m i j : Nat) (D : List α) : Prop := ∃ A L R B : List α, D = A ++ L ++ R ++ B ∧ A.length + L.length = m ∧ L.length = i ∧ R.length = j ∧ T = A ++ R ++ L ++ B ∧ 0 < i ∧ 0 < j
theorem cut_list (L : List α) (k : Nat) (h : k ≤ L.length) : ∃ X Y, L = X ++ Y ∧ X.length = k := ⟨L.take k, L.drop k, (List.take_append_drop k L).symm, by simp; omega⟩
theorem Rot.bnd {T D : List α} {m i j : Nat} (h : Rot T m i j D) : i ≤ m ∧ m + j ≤ D.length ∧ 0 < i ∧ 0 < j := by
  obtain ⟨A, L, R, B, rfl, h1, h2, h3, _, h4, h5⟩ := h
  refine ⟨by omega, by simp; omega, h4, h5⟩
theorem Rot.left {T D E : List α} {m i j : Nat} (h : Rot T m i j D) (hij : j < i) (hE : SwR z D (m - i) m j E) : Rot T m (i - j) j E := by
  obtain ⟨A, L, R, B, rfl, h1, h2, h3, hT, h4, h5⟩ := h
  obtain ⟨X, Y, rfl, hX⟩ := cut_list L j (by omega)
  simp at h1 h2
  have e : E = A ++ R ++ Y ++ X ++ B := by
    refine SwR.fin (z := z) (A := A) (X := X) (M := Y) (Y := R) (B := B) ?_ (by omega)
    rw [show A.length = m - i by omega, hX, show m - i + j + Y.length = m by omega]
    simpa using hE
  refine ⟨A ++ R, Y, X, B, by rw [e], by simp; omega, by omega, hX, by rw [hT]; simp, by omega, h5⟩
theorem Rot.right {T D E : List α} {m i j : Nat} (h : Rot T m i j D) (hij : i < j) (hE : SwR z D (m - i) (m + j - i) i E) : Rot T m i (j - i) E := by
  obtain ⟨A, L, R, B, rfl, h1, h2, h3, hT, h4, h5⟩ := h
  obtain ⟨P, Q, rfl, hP⟩ := cut_list R (j - i) (by omega)
  simp at h3
  have e : E = A ++ Q ++ P ++ L ++ B := by
    refine SwR.fin (z := z) (A := A) (X := L) (M := P) (Y := Q) (B := B) ?_ (by omega)
    rw [show A.length = m - i by omega, h2, show m - i + i + P.length = m + j - i by omega]
    simpa using hE
  refine ⟨A, Q, P, L ++ B, by rw [e]; simp, by omega, by omega, hP, by rw [hT]; simp, h4, by omega⟩
theorem Rot.fin {T D E : List α} {m i : Nat} (h : Rot T m i i D) (hE : SwR z D (m - i) m i E) : E = T := by
  obtain ⟨A, L, R, B, rfl, h1, h2, h3, hT, h4, h5⟩ := h
  rw [hT]
  have := SwR.fin (z := z) (A := A) (X := L) (M := []) (Y := R) (B := B) (E := E) (by
    rw [show A.length = m - i by omega, h2]
    simpa [show m - i + i = m by omega] using hE) (by omega)
  rw [this]
  simp
end
end Go.Proofs.YtibipnipeaeonaaGreatDoor
/-
  ORDER: a row of fields whose places are exchanged, in memory. No claim by itself.
-/
namespace Go.Proofs.YtibipnipeaeonaaGreatDoor
open Go Go.RowKit
set_option maxRecDepth 100000
abbrev FB := ByteArray × ByteArray
def nmK (f : FB) : List Int := unums f.1
/-- A row of fields that is turned in its places: all else stays. -/
structure SW (w0 : World) (g off len cap : Nat) (D : List FB) (w : World) : Prop where
  row : FRow w g off len cap D
  blk : ∃ cur, w.heap[g]? = some (.cells cur 84 (0, 0))
  tn : Tn (fun k => k = g) w0 w
theorem SW.fro {w0 w : World} {g off len cap : Nat} {D : List FB} (h : SW w0 g off len cap D w) (j : Nat) : w.frozen? ⟨g, j, none⟩ = false := by
  obtain ⟨cur, hg⟩ := h.blk
  exact frozen_of_row w g j cur _ hg
theorem Tn.trans' {S : Nat → Prop} {a b c : World} (h : Tn S a b) (k : Tn S b c) : Tn S a c :=
  ⟨k.os.trans h.os, k.tape.trans h.tape, k.output.trans h.output, Nat.le_trans h.size k.size, fun i hi hs => (k.block i (Nat.lt_of_lt_of_le hi h.size) hs).trans (h.block i hi hs)⟩
theorem SW.below {w0 w w' : World} {g off len cap : Nat} {D : List FB} (h : SW w0 g off len cap D w) (hb : Below w.heap.size w w') : SW w0 g off len cap D w' := by
  obtain ⟨cur, hg⟩ := h.blk
  have hlt : g < w.heap.size := (Array.getElem?_eq_some_iff.1 hg).1
  exact ⟨h.row.below hb, ⟨cur, (hb.block g hlt).trans hg⟩, h.tn.trans' (Tn.of_below hb)⟩
theorem cell_set2 {w : World} {g : Nat} {cur : Array Value} (hg : w.heap[g]? = some (.cells cur 84 (0, 0))) {o v : _} {x : Value} (i : Nat) (hi : w.cell? ⟨g, i, none⟩ = some x) :
    (w.setCell ⟨g, o, none⟩ v).cell? ⟨g, i, none⟩ = if i = o then some v else some x := by
  have h1 := heap_setCell_same w g o cur 84 v hg
  rw [cell_of_row _ g i _ _ _ h1]
  rw [cell_of_row _ g i _ _ _ hg] at hi
  rw [Array.getElem?_setIfInBounds]
  by_cases e : o = i
  · subst e
    have : o < cur.size := (Array.getElem?_eq_some_iff.1 hi).1
    simp [this]
  · rw [if_neg e, if_neg (fun h => e h.symm), hi]
/-- One place is written. -/
theorem SW.put {w0 w : World} {g off len cap : Nat} {D : List FB} (h : SW w0 g off len cap D w) (i : Nat) (hi : i < len) (f : FB) :
    SW w0 g off len cap (D.set i f) ((w.setCell ⟨g, off + i * 2, none⟩ (.string f.1)).setCell ⟨g, off + i * 2 + 1, none⟩ (.string f.2)) := by
  obtain ⟨cur, hg⟩ := h.blk
  have h1 := heap_setCell_same w g (off + i * 2) cur 84 (.string f.1) hg
  have h2 := heap_setCell_same _ g (off + i * 2 + 1) _ 84 (.string f.2) h1
  have hl := h.row.hlen
  refine ⟨⟨by rw [List.length_set]; exact hl, h.row.hcap, h.row.hmax, fun t ht => ?_, fun t ht => ?_⟩, ⟨_, h2⟩, (h.tn.trans' (tn_set rfl)).trans' (tn_set rfl)⟩
  · have k1 := cell_set2 hg (o := off + i * 2) (v := .string f.1) (off + t * 2) (h.row.hname t ht)
    rw [getD_set' _ _ _ _ (by omega)]
    by_cases e : t = i
    · subst e
      rw [if_pos rfl] at k1 ⊢
      have k2 := cell_set2 h1 (o := off + t * 2 + 1) (v := .string f.2) (off + t * 2) k1
      rw [k2, if_neg (by omega)]
    · rw [if_neg (by omega)] at k1
      have k2 := cell_set2 h1 (o := off + i * 2 + 1) (v := .string f.2) (off + t * 2) k1
      rw [k2, if_neg (by omega), if_neg e]
  · have k1 := cell_set2 hg (o := off + i * 2) (v := .string f.1) (off + t * 2 + 1) (h.row.hvalue t ht)
    rw [if_neg (by omega)] at k1
    rw [getD_set' _ _ _ _ (by omega)]
    have k2 := cell_set2 h1 (o := off + i * 2 + 1) (v := .string f.2) (off + t * 2 + 1) k1
    rw [k2]
    by_cases e : t = i
    · subst e
      rw [if_pos rfl, if_pos rfl]
    · rw [if_neg (by omega), if_neg e]
theorem SW.drew {w0 w : World} {g off len cap : Nat} {D : List FB} (h : SW w0 g off len cap D w) : SW w0 g off len cap D w.drew := h.below ((Below.refl _ w).drew)
/-- Two places are exchanged. -/
theorem SW.swap {w0 w : World} {g off len cap : Nat} {D : List FB} (h : SW w0 g off len cap D w) (i j : Nat) (hi : i < len) (hj : j < len) {x1 x2 y1 y2 : ByteArray} (ha : D.getD i fnone = (x1, x2)) (hb : D.getD j fnone = (y1, y2)) :
    SW w0 g off len cap (swapL fnone D i j) ((((w.setCell ⟨g, off + i * 2, none⟩ (.string y1)).setCell ⟨g, off + i * 2 + 1, none⟩ (.string y2)).setCell ⟨g, off + j * 2, none⟩ (.string x1)).setCell ⟨g, off + j * 2 + 1, none⟩ (.string x2)).drew := by
  unfold swapL
  rw [ha, hb]
  exact ((h.put i hi (y1, y2)).put j hj (x1, x2)).drew
set_option maxHeartbeats 2000000 in
theorem zswr_any (w0 : World) (g off len cap a b n : Nat) (F : Value) (D : List FB) (w : World) (h : SW w0 g off len cap D w) (hab : a + n ≤ b) (hbn : b + n ≤ len) (hlen : len ≤ 4611686018427387904) :
    Calls Tryz.prog 106 #[.slice (some ⟨g, off, none⟩) len cap, .int .i64 a, .int .i64 b, .int .i64 n, F] w fun e w' => (∃ v, e = .returned v) ∧ ∃ E, SwR fnone D a b n E ∧ SW w0 g off len cap E w' := by
  have H := vl h
  have hl := h.row.hlen
  have HL := vl hl
  have hcap := h.row.hcap
  clear h hl
  go_enter Tryz.func106, Tryz.ntmps106
  go_wp2_with fail
  go_loopw [10] (fun i wr => ∃ (k : Nat) (E : List FB), i = .int .i64 k ∧ k ≤ n ∧ Vl (SwR fnone D a b k E) ∧ Vl (SW w0 g off len cap E wr)) (fun i _ => n - (intOf i).toNat)
  case atStart => exact ⟨0, D, rfl, by omega, SwR.zero _ _ _, H⟩
  case round =>
    obtain ⟨k, E, rfl, hk, HS, HW⟩ := hrel
    by_cases hlt : k < n
    · have hlt' : (k : Int) < (n : Int) := by omega
      have c1 := HW.out.row.hname (a + k) (by omega)
      have c2 := HW.out.row.hvalue (a + k) (by omega)
      have c3 := HW.out.row.hname (b + k) (by omega)
      have c4 := HW.out.row.hvalue (b + k) (by omega)
      obtain ⟨x, hx⟩ : ∃ x, E.getD (a + k) fnone = x := ⟨_, rfl⟩
      obtain ⟨y, hy⟩ : ∃ y, E.getD (b + k) fnone = y := ⟨_, rfl⟩
      rw [hx] at c1 c2
      rw [hy] at c3 c4
      have HX := vl hx
      have HY := vl hy
      have f1 := HW.out.fro
      have b1 : (a : Int) + (k : Int) < (len : Int) := by omega
      have b2 : (b : Int) + (k : Int) < (len : Int) := by omega
      have b3 : a + k < len := by omega
      have b4 : b + k < len := by omega
      have hne : a + k ≠ b + k := by omega
      have z1 : (0 : Int) ≤ (a : Int) + (k : Int) := by omega
      have z2 : (0 : Int) ≤ (b : Int) + (k : Int) := by omega
      obtain ⟨x1, x2⟩ := x
      obtain ⟨y1, y2⟩ := y
      obtain ⟨W4, hW4⟩ : ∃ W4, W4 = ((((wr.setCell ⟨g, off + (a + k) * 2, none⟩ (.string y1)).setCell ⟨g, off + (a + k) * 2 + 1, none⟩ (.string y2)).setCell ⟨g, off + (b + k) * 2, none⟩ (.string x1)).setCell ⟨g, off + (b + k) * 2 + 1, none⟩ (.string x2)).drew := ⟨_, rfl⟩
      have HW4 : Vl (SW w0 g off len cap (swapL fnone E (a + k) (b + k)) W4) := by
        rw [hW4]
        exact HW.out.swap (a + k) (b + k) b3 b4 HX.out HY.out
      have HS4 : Vl (SwR fnone D a b (k + 1) (swapL fnone E (a + k) (b + k))) := HS.out.next hlt hab (by rw [HL.out]; exact hbn)
      have HWD := vl hW4
      clear hx hy hW4
      go_wp2_with fail
      go_region
      rw [← HWD.out]
      clear HWD c1 c2 c3 c4 f1
      go_wp2_with fail
      go_roundw
      case rel => exact ⟨k + 1, _, by go_num, by omega, HS4, HW4⟩
      case measure => simp [intOf]; omega
    · have hke : k = n := by omega
      subst hke
      go_wp2_with fail
      go_end0
      exact ⟨⟨_, rfl⟩, E, HS.out, HW.out⟩
end Go.Proofs.YtibipnipeaeonaaGreatDoor
