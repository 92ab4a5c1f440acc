/-
  READING FROM LEFT TO RIGHT, as mathematics: what is read of bytes, and what of a beginning of them. No claim by itself.
-/
import Derived.Test.YtibjbdcmhjbndaaDoorUmath2
namespace Go.Proofs.YtibjbdcmhjbndaaDoor
set_option maxRecDepth 100000
/-- What is read of bytes: the fault (0: none), what it is, what is behind it. -/
abbrev Pz (α : Type) := List Int → Int × α × List Int
def failP {α : Type} [Inhabited α] (e : Int) : Pz α := fun _ => (e, default, [])
def retP {α : Type} (v : α) : Pz α := fun b => (0, v, b)
def bindP {α β : Type} [Inhabited β] (p : Pz α) (f : α → Pz β) : Pz β := fun b => if (p b).1 = 0 then f (p b).2.1 (p b).2.2 else ((p b).1, default, [])
theorem bindP_ok {α β : Type} [Inhabited β] {p : Pz α} {f : α → Pz β} {b : List Int} {v : α} {r : List Int} (h : p b = (0, v, r)) : bindP p f b = f v r := by unfold bindP; rw [h]; rfl
theorem bindP_no {α β : Type} [Inhabited β] {p : Pz α} {f : α → Pz β} {b : List Int} (h : (p b).1 ≠ 0) : bindP p f b = ((p b).1, default, []) := by unfold bindP; rw [if_neg h]
theorem bindP_inv {α β : Type} [Inhabited β] {p : Pz α} {f : α → Pz β} {b : List Int} {x : β} {r : List Int} (h : bindP p f b = (0, x, r)) : ∃ v r1, p b = (0, v, r1) ∧ f v r1 = (0, x, r) := by
  unfold bindP at h
  match hp : p b with
  | (e, v, r1) =>
    rw [hp] at h
    by_cases he : e = 0
    · subst he; exact ⟨v, r1, rfl, by simpa using h⟩
    · simp [he] at h
/-- It hangs on what it takes alone; cut off, it wants more. -/
structure PzLaw {α : Type} (p : Pz α) : Prop where
  app : ∀ {b v r} (X), p b = (0, v, r) → p (b ++ X) = (0, v, r ++ X)
  len : ∀ {b v r}, p b = (0, v, r) → r.length ≤ b.length
  cut : ∀ {b v r} (c), p b = (0, v, r) → c < b.length - r.length → (p (b.take c)).1 = 8
  more : ∀ {b v r} (c), p b = (0, v, r) → b.length - r.length ≤ c → (p (b.take c)).1 = 8 ∨ p (b.take c) = (0, v, r.take (c - (b.length - r.length)))
theorem law_fail {α : Type} [Inhabited α] {e : Int} (he : e ≠ 0) : PzLaw (failP e : Pz α) := by
  have no : ∀ {b v r}, (failP e : Pz α) b = (0, v, r) → False := fun h => by
    unfold failP at h
    exact he (congrArg Prod.fst h)
  exact ⟨fun _ h => (no h).elim, fun h => (no h).elim, fun _ h => (no h).elim, fun _ h => (no h).elim⟩
theorem retP_inv {α : Type} {v x : α} {b r : List Int} (h : retP v b = (0, x, r)) : x = v ∧ r = b := by
  unfold retP at h
  simp at h
  exact ⟨h.1.symm, h.2.symm⟩
theorem law_ret {α : Type} (v : α) : PzLaw (retP v) := by
  refine ⟨fun X h => ?_, fun h => ?_, fun c h hc => ?_, fun c h _ => ?_⟩
  all_goals obtain ⟨rfl, rfl⟩ := retP_inv h
  · rfl
  · exact Nat.le_refl _
  · omega
  · right; simp [retP]
theorem law_bind {α β : Type} [Inhabited β] {p : Pz α} {f : α → Pz β} (hp : PzLaw p) (hf : ∀ v, PzLaw (f v)) : PzLaw (bindP p f) := by
  refine ⟨fun X h => ?_, fun h => ?_, fun c h hc => ?_, fun c h hc => ?_⟩
  · obtain ⟨v, r1, h1, h2⟩ := bindP_inv h
    rw [bindP_ok (hp.app X h1), (hf v).app X h2]
  · obtain ⟨v, r1, h1, h2⟩ := bindP_inv h
    exact Nat.le_trans ((hf v).len h2) (hp.len h1)
  · obtain ⟨v, r1, h1, h2⟩ := bindP_inv h
    have l1 := hp.len h1
    have l2 := (hf v).len h2
    rename_i b _ r
    by_cases hc1 : c < b.length - r1.length
    · have e := hp.cut c h1 hc1
      rw [bindP_no (by rw [e]; omega), e]
    · rcases hp.more c h1 (by omega) with e | e
      · rw [bindP_no (by rw [e]; omega), e]
      · rw [bindP_ok e]
        exact (hf v).cut _ h2 (by omega)
  · obtain ⟨v, r1, h1, h2⟩ := bindP_inv h
    have l1 := hp.len h1
    have l2 := (hf v).len h2
    rename_i b _ r
    rcases hp.more c h1 (by omega) with e | e
    · left; rw [bindP_no (by rw [e]; omega), e]
    · rw [bindP_ok e]
      rcases (hf v).more (c - (b.length - r1.length)) h2 (by omega) with e2 | e2
      · exact Or.inl e2
      · right
        rw [e2]
        congr 3
        omega
theorem law_if {α : Type} {c : Prop} [Decidable c] {p q : Pz α} (hp : PzLaw p) (hq : PzLaw q) : PzLaw (if c then p else q) := by
  split
  · exact hp
  · exact hq
/-- A text. -/
def mtsP : List Int → Pz Unit
  | [], b => (0, (), b)
  | _ :: _, [] => (8, (), [])
  | c :: s, d :: r => if d = c then mtsP s r else (2, (), [])
theorem mtsP_say : ∀ (s X : List Int), mtsP s (s ++ X) = (0, (), X)
  | [], X => by simp [mtsP]
  | c :: s, X => by simp [mtsP, mtsP_say s X]
theorem mtsP_inv : ∀ {s b : List Int} {u : Unit} {r : List Int}, mtsP s b = (0, u, r) → b = s ++ r
  | [], b, u, r, h => by simp [mtsP] at h; simp [h]
  | c :: s, [], u, r, h => by simp [mtsP] at h
  | c :: s, d :: q, u, r, h => by
    unfold mtsP at h
    split at h
    · rename_i e
      rw [mtsP_inv h, e]
      rfl
    · simp at h
theorem mtsP_short : ∀ (s X : List Int) (c : Nat), c < s.length → (mtsP s ((s ++ X).take c)).1 = 8
  | [], X, c, h => by simp at h
  | d :: s, X, 0, _ => by simp [mtsP]
  | d :: s, X, c + 1, h => by
    simp only [List.cons_append, List.take_succ_cons, mtsP, if_true]
    exact mtsP_short s X c (by simpa using h)
theorem law_mts (s : List Int) : PzLaw (mtsP s) := by
  refine ⟨fun X h => ?_, fun h => ?_, fun c h hc => ?_, fun c h hc => ?_⟩
  all_goals have e := mtsP_inv h
  · rw [e, List.append_assoc, mtsP_say]
  · rw [e]; simp
  · rw [e] at hc ⊢
    exact mtsP_short _ _ _ (by simp at hc; omega)
  · right
    rw [e] at hc ⊢
    have hc' : s.length ≤ c := by simp at hc; omega
    rw [List.take_append, List.take_of_length_le hc', mtsP_say]
    congr 3
    simp
/-- What stands ahead of a byte, at most 400 bytes of a kind. -/
def untP (stop : Int) (ok : Int → Bool) : Nat → Pz (List Int)
  | _, [] => (8, [], [])
  | k, c :: r => if c = stop then (0, [], c :: r) else if ok c = false ∨ 400 ≤ k then (2, [], []) else
    if (untP stop ok (k + 1) r).1 = 0 then (0, c :: (untP stop ok (k + 1) r).2.1, (untP stop ok (k + 1) r).2.2) else ((untP stop ok (k + 1) r).1, [], [])
theorem untP_say {stop : Int} {ok : Int → Bool} : ∀ (t X : List Int) (k : Nat), (∀ c ∈ t, ok c = true ∧ c ≠ stop) → t.length + k ≤ 400 → untP stop ok k (t ++ stop :: X) = (0, t, stop :: X)
  | [], X, k, _, _ => by simp [untP]
  | c :: t, X, k, h, hl => by
    have h1 := h c (by simp)
    have ih := untP_say t X (k + 1) (fun x hx => h x (by simp [hx])) (by simp at hl; omega)
    simp only [List.cons_append, untP]
    simp at hl
    rw [if_neg h1.2, if_neg (by rw [h1.1]; simp; omega), ih]
    simp
theorem untP_inv {stop : Int} {ok : Int → Bool} : ∀ {b : List Int} {k : Nat} {t r : List Int}, untP stop ok k b = (0, t, r) → (∃ X, r = stop :: X ∧ b = t ++ r) ∧ (∀ c ∈ t, ok c = true ∧ c ≠ stop) ∧ (t = [] ∨ t.length + k ≤ 400)
  | [], k, t, r, h => by simp [untP] at h
  | c :: q, k, t, r, h => by
    unfold untP at h
    split at h
    · rename_i e
      simp at h
      obtain ⟨rfl, rfl⟩ := h
      exact ⟨⟨q, by rw [e], rfl⟩, (fun x hx => by cases hx), Or.inl rfl⟩
    · rename_i hne
      split at h
      · simp at h
      · rename_i hok
        split at h
        · rename_i h0
          match hu : untP stop ok (k + 1) q with
          | (e, t', r') =>
            rw [hu] at h h0
            simp at h h0
            subst h0
            obtain ⟨rfl, rfl⟩ := h
            obtain ⟨⟨X, i1, i2⟩, i3, i4⟩ := untP_inv hu
            have hk : ok c = true ∧ k < 400 := by
              cases hx : ok c
              · exact absurd (Or.inl hx) hok
              · exact ⟨rfl, by omega⟩
            refine ⟨⟨X, i1, by rw [i2]; simp⟩, fun x hx => ?_, Or.inr ?_⟩
            · rcases List.mem_cons.1 hx with rfl | hx
              · exact ⟨hk.1, hne⟩
              · exact i3 x hx
            · rcases i4 with rfl | i4
              · simp; omega
              · simp; omega
        · rename_i h0
          simp at h
          exact absurd h.1 h0
theorem untP_short {stop : Int} {ok : Int → Bool} : ∀ (t X : List Int) (k c : Nat), (∀ c ∈ t, ok c = true ∧ c ≠ stop) → t.length + k ≤ 400 → c ≤ t.length → (untP stop ok k ((t ++ stop :: X).take c)).1 = 8
  | t, X, k, 0, _, _, _ => by simp [untP]
  | [], X, k, c + 1, _, _, hc => by simp at hc
  | d :: t, X, k, c + 1, h, hl, hc => by
    have h1 := h d (by simp)
    have ih := untP_short t X (k + 1) c (fun x hx => h x (by simp [hx])) (by simp at hl; omega) (by simpa using hc)
    simp only [List.cons_append, List.take_succ_cons, untP]
    simp at hl
    rw [if_neg h1.2, if_neg (by rw [h1.1]; simp; omega), ih]
    simp
theorem law_unt (stop : Int) (ok : Int → Bool) : PzLaw (untP stop ok 0) := by
  refine ⟨fun X h => ?_, fun h => ?_, fun c h hc => ?_, fun c h hc => ?_⟩
  all_goals
    obtain ⟨⟨Y, rfl, e⟩, h2, h3⟩ := untP_inv h
    rename_i t
    have hl : t.length + 0 ≤ 400 := by rcases h3 with rfl | h3 <;> simp_all
    rw [e]
  · rw [List.append_assoc, List.cons_append]
    exact untP_say t _ 0 h2 hl
  · simp
  · rw [e] at hc
    exact untP_short t Y 0 c h2 hl (by simp at hc; omega)
  · rw [e] at hc
    have hc' : t.length ≤ c := by simp at hc; omega
    by_cases hq : c = t.length
    · left
      exact untP_short t Y 0 c h2 hl (by omega)
    · right
      have e2 : (t ++ stop :: Y).take c = t ++ stop :: Y.take (c - t.length - 1) := by
        rw [List.take_append, List.take_of_length_le hc']
        match hx : c - t.length with
        | 0 => omega
        | m + 1 => simp
      rw [e2, untP_say t _ 0 h2 hl]
      congr 3
      simp
      match hx : c - t.length with
      | 0 => omega
      | m + 1 => simp
end Go.Proofs.YtibjbdcmhjbndaaDoor
