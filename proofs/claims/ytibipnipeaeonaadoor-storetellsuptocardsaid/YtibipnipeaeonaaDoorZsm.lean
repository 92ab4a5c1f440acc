/-
  ORDER: rows that are put in order, and those alike stay as they stood. No claim by itself.
-/
import Derived.Test.YtibipnipeaeonaaDoorVl
namespace Go.Proofs.YtibipnipeaeonaaDoor
/-- One text is ahead of another one. -/
def lexLt : List Int → List Int → Bool
  | _, [] => false
  | [], _ :: _ => true
  | a :: x, b :: y => if a < b then true else if a = b then lexLt x y else false
theorem lex_irr : ∀ x, lexLt x x = false
  | [] => rfl
  | a :: x => by rw [lexLt, if_neg (Int.lt_irrefl a), if_pos rfl]; exact lex_irr x
theorem lex_trans : ∀ {x y z}, lexLt x y = true → lexLt y z = true → lexLt x z = true
  | _, [], _, h, _ => by simp [lexLt] at h
  | _, _ :: _, [], _, h => by simp [lexLt] at h
  | [], _ :: _, _ :: _, _, _ => rfl
  | a :: x, b :: y, c :: z, h1, h2 => by
    rw [lexLt] at h1 h2 ⊢
    by_cases e1 : a < b
    · by_cases e2 : b < c
      · rw [if_pos (by omega)]
      · rw [if_neg e2] at h2
        split at h2
        · rw [if_pos (by omega)]
        · cases h2
    · rw [if_neg e1] at h1
      split at h1
      · rename_i e
        subst e
        by_cases e2 : a < c
        · rw [if_pos e2]
        · rw [if_neg e2] at h2 ⊢
          split at h2
          · rename_i e; rw [if_pos e]; exact lex_trans h1 h2
          · cases h2
      · cases h1
theorem lex_tri : ∀ {x y}, lexLt x y = false → lexLt y x = false → x = y
  | [], [], _, _ => rfl
  | [], _ :: _, h, _ => by simp [lexLt] at h
  | _ :: _, [], _, h => by simp [lexLt] at h
  | a :: x, b :: y, h1, h2 => by
    rw [lexLt] at h1 h2
    by_cases e1 : a < b
    · rw [if_pos e1] at h1; cases h1
    · by_cases e2 : b < a
      · rw [if_pos e2] at h2; cases h2
      · have e : a = b := by omega
        subst e
        rw [if_neg e1, if_pos rfl] at h1 h2
        rw [lex_tri h1 h2]
theorem lex_asym {x y} (h : lexLt x y = true) : lexLt y x = false := by
  cases e : lexLt y x with
  | false => rfl
  | true => have := lex_trans h e; rw [lex_irr] at this; cases this
/-- Not behind. -/
def lexLe (x y : List Int) : Prop := lexLt y x = false
theorem le_refl' (x) : lexLe x x := lex_irr x
theorem le_of_lt {x y} (h : lexLt x y = true) : lexLe x y := lex_asym h
theorem le_cases {x y} (h : lexLe x y) : lexLt x y = true ∨ x = y := by
  cases e : lexLt x y with
  | true => exact Or.inl rfl
  | false => exact Or.inr (lex_tri e h)
theorem lex_le_trans {x y z} (h1 : lexLe x y) (h2 : lexLe y z) : lexLe x z := by
  rcases le_cases h1 with h | rfl
  · rcases le_cases h2 with k | rfl
    · exact lex_asym (lex_trans h k)
    · exact lex_asym h
  · exact h2
theorem lt_le {x y z} (h1 : lexLt x y = true) (h2 : lexLe y z) : lexLt x z = true := by
  rcases le_cases h2 with k | rfl
  · exact lex_trans h1 k
  · exact h1
theorem le_lt {x y z} (h1 : lexLe x y) (h2 : lexLt y z = true) : lexLt x z = true := by
  rcases le_cases h1 with k | rfl
  · exact lex_trans k h2
  · exact h2
theorem lt_ne {x y} (h : lexLt x y = true) : x ≠ y := fun e => by rw [e, lex_irr] at h; cases h
theorem not_lt_le {x y} (h : ¬ lexLt x y = true) : lexLe y x := by
  show _ = _
  cases e : lexLt x y with
  | true => exact absurd e h
  | false => rfl
section
variable {α : Type} (κ : α → List Int)
/-- In order. -/
def Srt (L : List α) : Prop := L.Pairwise fun x y => lexLe (κ x) (κ y)
/-- Of each name the same ones, as they stood. -/
def Sby (L M : List α) : Prop := ∀ k, (L.filter fun x => κ x == k) = M.filter fun x => κ x == k
variable {κ}
theorem Sby.refl (L : List α) : Sby κ L L := fun _ => rfl
theorem Sby.symm {L M : List α} (h : Sby κ L M) : Sby κ M L := fun k => (h k).symm
theorem Sby.trans {L M N : List α} (h : Sby κ L M) (g : Sby κ M N) : Sby κ L N := fun k => (h k).trans (g k)
theorem Sby.app {L L' M M' : List α} (h : Sby κ L L') (g : Sby κ M M') : Sby κ (L ++ M) (L' ++ M') := fun k => by rw [List.filter_append, List.filter_append, h k, g k]
theorem Sby.mem {L M : List α} (h : Sby κ L M) {x : α} (hx : x ∈ L) : x ∈ M := by
  have : x ∈ L.filter fun y => κ y == κ x := List.mem_filter.2 ⟨hx, by simp⟩
  rw [h] at this
  exact (List.mem_filter.1 this).1
theorem Sby.swap {L M : List α} (h : ∀ x ∈ L, ∀ y ∈ M, κ x ≠ κ y) : Sby κ (L ++ M) (M ++ L) := fun k => by
  rw [List.filter_append, List.filter_append]
  by_cases e : ∃ x ∈ L, κ x = k
  · obtain ⟨x, hx, rfl⟩ := e
    have : (M.filter fun y => κ y == κ x) = [] := List.filter_eq_nil_iff.2 fun y hy => by simpa using fun e => h x hx y hy e.symm
    rw [this]; simp
  · have : (L.filter fun y => κ y == k) = [] := List.filter_eq_nil_iff.2 fun y hy => by simpa using fun e' => e ⟨y, hy, e'⟩
    rw [this]; simp
theorem sby_nil {M : List α} (h : Sby κ [] M) : M = [] := by
  cases M with
  | nil => rfl
  | cons y r => have := h.symm.mem (List.mem_cons_self ..) (x := y); simp at this
/-- There is one order alone. -/
theorem srt_one : ∀ {L M : List α}, Srt κ L → Srt κ M → Sby κ L M → L = M
  | [], M, _, _, h => (sby_nil h).symm
  | x :: r, [], _, _, h => by have := sby_nil h.symm; exact this
  | x :: r, y :: q, h1, h2, h => by
    have h1' := List.pairwise_cons.1 h1
    have h2' := List.pairwise_cons.1 h2
    have ek : κ x = κ y := by
      have hx : x ∈ y :: q := h.mem (List.mem_cons_self ..)
      have hy : y ∈ x :: r := h.symm.mem (List.mem_cons_self ..)
      have l1 : lexLe (κ y) (κ x) := by
        rcases List.mem_cons.1 hx with e | e
        · rw [e]; exact le_refl' _
        · exact h2'.1 x e
      have l2 : lexLe (κ x) (κ y) := by
        rcases List.mem_cons.1 hy with e | e
        · rw [e]; exact le_refl' _
        · exact h1'.1 y e
      exact lex_tri l1 l2
    have h0 := h (κ x)
    rw [List.filter_cons, List.filter_cons, if_pos (by simp), if_pos (by simp [ek])] at h0
    injection h0 with e1 e2
    subst e1
    rw [srt_one h1'.2 h2'.2 fun k => ?_]
    have hk := h k
    rw [List.filter_cons, List.filter_cons] at hk
    by_cases e : κ x = k
    · rw [if_pos (by simp [e]), if_pos (by simp [e])] at hk
      injection hk
    · rw [if_neg (by simp [e]), if_neg (by simp [e])] at hk
      exact hk
theorem srt_app {L M : List α} (h1 : Srt κ L) (h2 : Srt κ M) (h : ∀ x ∈ L, ∀ y ∈ M, lexLe (κ x) (κ y)) : Srt κ (L ++ M) := List.pairwise_append.2 ⟨h1, h2, h⟩
theorem srt_left {L M : List α} (h : Srt κ (L ++ M)) : Srt κ L := (List.pairwise_append.1 h).1
theorem srt_right {L M : List α} (h : Srt κ (L ++ M)) : Srt κ M := (List.pairwise_append.1 h).2.1
theorem srt_mid {L M : List α} (h : Srt κ (L ++ M)) : ∀ x ∈ L, ∀ y ∈ M, lexLe (κ x) (κ y) := (List.pairwise_append.1 h).2.2
theorem srt_get {L : List α} (h : Srt κ L) {i j : Nat} (hi : i ≤ j) (hj : j < L.length) (z : α) : lexLe (κ (L.getD i z)) (κ (L.getD j z)) := by
  by_cases e : i = j
  · subst e; exact le_refl' _
  · rw [List.getD, List.getD, List.getElem?_eq_getElem hj, List.getElem?_eq_getElem (by omega : i < L.length)]
    exact List.pairwise_iff_getElem.1 h i j (by omega) hj (by omega)
/-- Two rows, put together in order. -/
structure Mrg (κ : α → List Int) (X Y Z : List α) : Prop where
  srt : Srt κ Z
  sby : Sby κ (X ++ Y) Z
  len : Z.length = X.length + Y.length
theorem Mrg.mem {X Y Z : List α} (h : Mrg κ X Y Z) {x : α} (hx : x ∈ Z) : x ∈ X ∨ x ∈ Y := List.mem_append.1 (h.sby.symm.mem hx)
theorem mrg_nilL {Y : List α} (h : Srt κ Y) : Mrg κ [] Y Y := ⟨h, Sby.refl _, by simp⟩
theorem mrg_nilR {X : List α} (h : Srt κ X) : Mrg κ X [] X := ⟨h, by rw [List.append_nil]; exact Sby.refl _, by simp⟩
/-- One text goes in ahead of all that are not less. -/
theorem mrg_oneL {x : α} {Y1 Y2 : List α} (hY : Srt κ (Y1 ++ Y2)) (h1 : ∀ y ∈ Y1, lexLt (κ y) (κ x) = true) (h2 : ∀ y ∈ Y2, lexLe (κ x) (κ y)) : Mrg κ [x] (Y1 ++ Y2) (Y1 ++ [x] ++ Y2) := by
  refine ⟨?_, ?_, by simp; omega⟩
  · rw [List.append_assoc]
    refine srt_app (srt_left hY) (List.pairwise_cons.2 ⟨fun y hy => h2 y hy, srt_right hY⟩) fun u hu v hv => ?_
    rcases List.mem_cons.1 hv with rfl | hv
    · exact le_of_lt (h1 u hu)
    · exact srt_mid hY u hu v hv
  · rw [← List.append_assoc]
    refine Sby.app (Sby.swap fun u hu v hv => ?_) (Sby.refl _)
    rcases List.mem_singleton.1 hu with rfl
    exact fun e => lt_ne (h1 v hv) e.symm
theorem mrg_oneR {y : α} {X1 X2 : List α} (hX : Srt κ (X1 ++ X2)) (h1 : ∀ x ∈ X1, lexLe (κ x) (κ y)) (h2 : ∀ x ∈ X2, lexLt (κ y) (κ x) = true) : Mrg κ (X1 ++ X2) [y] (X1 ++ [y] ++ X2) := by
  refine ⟨?_, ?_, by simp; omega⟩
  · rw [List.append_assoc]
    refine srt_app (srt_left hX) (List.pairwise_cons.2 ⟨fun u hu => le_of_lt (h2 u hu), srt_right hX⟩) fun u hu v hv => ?_
    rcases List.mem_cons.1 hv with rfl | hv
    · exact h1 u hu
    · exact srt_mid hX u hu v hv
  · rw [List.append_assoc, List.append_assoc]
    refine Sby.app (Sby.refl _) (Sby.swap fun u hu v hv => ?_)
    rcases List.mem_singleton.1 hv with rfl
    exact fun e => lt_ne (h2 u hu) e.symm
/-- Two rows, cut and turned about in the middle: each half by itself. -/
theorem mrg_mid {X1 X2 Y1 Y2 Z1 Z2 : List α} (hX : Srt κ (X1 ++ X2)) (hY : Srt κ (Y1 ++ Y2)) (h1 : ∀ x ∈ X2, ∀ y ∈ Y1, lexLt (κ y) (κ x) = true) (h2 : ∀ x ∈ X1, ∀ y ∈ Y2, lexLe (κ x) (κ y))
    (hZ1 : Mrg κ X1 Y1 Z1) (hZ2 : Mrg κ X2 Y2 Z2) : Mrg κ (X1 ++ X2) (Y1 ++ Y2) (Z1 ++ Z2) := by
  refine ⟨srt_app hZ1.srt hZ2.srt fun u hu v hv => ?_, ?_, ?_⟩
  · rcases hZ1.mem hu with hu | hu <;> rcases hZ2.mem hv with hv | hv
    · exact srt_mid hX u hu v hv
    · exact h2 u hu v hv
    · exact le_of_lt (h1 v hv u hu)
    · exact srt_mid hY u hu v hv
  · have e : Sby κ (X1 ++ X2 ++ (Y1 ++ Y2)) (X1 ++ Y1 ++ (X2 ++ Y2)) := by
      rw [List.append_assoc, List.append_assoc]
      refine Sby.app (Sby.refl _) ?_
      rw [← List.append_assoc, ← List.append_assoc]
      exact Sby.app (Sby.swap fun u hu v hv e => lt_ne (h1 u hu v hv) e.symm) (Sby.refl _)
    exact e.trans (Sby.app hZ1.sby hZ2.sby)
  · have := hZ1.len; have := hZ2.len; simp; omega
/-- A row in pieces of s in order, and a rest. -/
def Runs (κ : α → List Int) (s : Nat) (D : List α) : Prop := ∃ (bs : List (List α)) (X : List α), D = bs.flatten ++ X ∧ (∀ b ∈ bs, b.length = s ∧ Srt κ b) ∧ X.length < s ∧ Srt κ X
theorem flat_len {s : Nat} : ∀ {bs : List (List α)}, (∀ b ∈ bs, b.length = s ∧ Srt κ b) → bs.flatten.length = bs.length * s
  | [], _ => by simp
  | b :: bs, h => by
    rw [List.flatten_cons, List.length_append, flat_len fun c hc => h c (List.mem_cons_of_mem _ hc), (h b (List.mem_cons_self ..)).1, List.length_cons, Nat.add_mul]
    omega
theorem runs_done {s : Nat} {D : List α} (h : Runs κ s D) (hs : 0 < s) (hD : D.length ≤ s) : Srt κ D := by
  obtain ⟨bs, X, rfl, hb, hX, hS⟩ := h
  match bs, hb with
  | [], _ => simpa using hS
  | [b], hb =>
    have hl := (hb b (List.mem_cons_self ..)).1
    simp at hD
    have : X = [] := List.length_eq_zero_iff.1 (by omega)
    subst this
    simpa using (hb b (List.mem_cons_self ..)).2
  | b :: c :: r, hb =>
    have h1 := (hb b (List.mem_cons_self ..)).1
    have h2 := (hb c (List.mem_cons_of_mem _ (List.mem_cons_self ..))).1
    simp at hD
    omega
/-- Where the greater ones begin, looked for by halves. -/
structure Bs (P : Nat → Prop) (s0 r0 s r : Nat) : Prop where
  lo : s0 ≤ s
  le : s ≤ r
  hi : r ≤ r0
  no : ∀ c, s0 ≤ c → c < s → ¬ P c
  yes : ∀ c, r ≤ c → c < r0 → P c
theorem Bs.start {P : Nat → Prop} {s0 r0 : Nat} (h : s0 ≤ r0) : Bs P s0 r0 s0 r0 := ⟨Nat.le_refl _, h, Nat.le_refl _, fun c h1 h2 => by omega, fun c h1 h2 => by omega⟩
theorem Bs.up {P : Nat → Prop} {s0 r0 s r c : Nat} (h : Bs P s0 r0 s r) (hm : ∀ c c', s0 ≤ c → c ≤ c' → c' < r0 → P c → P c') (h1 : s ≤ c) (h2 : c < r) (hn : ¬ P c) : Bs P s0 r0 (c + 1) r :=
  ⟨by have := h.lo; omega, by omega, h.hi, fun d h3 h4 hp => hn (hm d c h3 (by omega) (by have := h.hi; omega) hp), h.yes⟩
theorem Bs.down {P : Nat → Prop} {s0 r0 s r c : Nat} (h : Bs P s0 r0 s r) (hm : ∀ c c', s0 ≤ c → c ≤ c' → c' < r0 → P c → P c') (h1 : s ≤ c) (h2 : c < r) (hp : P c) : Bs P s0 r0 s c :=
  ⟨h.lo, h1, by have := h.hi; omega, h.no, fun d h3 h4 => hm c d (by have := h.lo; omega) h3 h4 hp⟩
end
end Go.Proofs.YtibipnipeaeonaaDoor
