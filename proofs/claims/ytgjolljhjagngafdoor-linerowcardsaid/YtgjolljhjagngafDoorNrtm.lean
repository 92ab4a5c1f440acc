/-
  MESSAGES AS LINES: the mathematics of the document's ReadTell. No claim by itself.
-/
import Derived.Test.YtgjolljhjagngafDoorNmath2
namespace Go.Proofs.YtgjolljhjagngafDoor
theorem dig_pos {c : Int} (h : ¬ dig c < 0) : 0 ≤ dig c := by omega
theorem rdN_is (m : Int) : ∀ (b : List Int) (k : Nat) (n v : Int) (r : List Int), rdN m k n b = (0, v, r) → 0 ≤ n → m + n ≤ 8000 → 0 ≤ v ∧ m + v ≤ 8000 ∧ r <:+ b := by
  intro b
  induction b with
  | nil => intro k n v r h; simp [rdN] at h
  | cons c q ih =>
    intro k n v r h hn hm
    rw [rdN] at h
    by_cases h1 : dig c < 0
    · rw [if_pos h1] at h
      by_cases h2 : k = 0
      · rw [if_pos h2] at h; simp at h
      · rw [if_neg h2] at h
        simp only [Prod.mk.injEq, true_and] at h
        obtain ⟨rfl, rfl⟩ := h
        exact ⟨hn, hm, List.suffix_refl _⟩
    · rw [if_neg h1] at h
      by_cases h2 : k = 1 ∧ n = 0
      · rw [if_pos h2] at h; simp at h
      · rw [if_neg h2] at h
        by_cases h3 : 8000 < m + (n * 16 + dig c)
        · rw [if_pos h3] at h; simp at h
        · rw [if_neg h3] at h
          have := ih _ _ _ _ h (by omega) (by omega)
          exact ⟨this.1, this.2.1, this.2.2.trans (List.suffix_cons _ _)⟩
theorem mt_is {b r : List Int} (h : mt b = (0, r)) : r <:+ b := by
  match b with
  | [] => simp [mt] at h
  | [c] =>
    rw [mt] at h
    split at h <;> simp at h
  | c :: d :: q =>
    rw [mt] at h
    by_cases hc : c = 13
    · rw [if_pos hc] at h
      by_cases hd : d = 10
      · rw [if_pos hd] at h
        simp only [Prod.mk.injEq, true_and] at h
        subst h
        exact (List.suffix_cons _ _).trans (List.suffix_cons _ _)
      · rw [if_neg hd] at h; simp at h
    · rw [if_neg hc] at h; simp at h
/-- What comes of pieces: a tail is left, the body is of its bytes, not too great; or a fault and nothing. -/
theorem unF_is : ∀ (f : Nat) (body b : List Int), body.length ≤ 8000 → (∃ e, e ≠ 0 ∧ unF f body b = (e, [], [])) ∨ (∃ B r, unF f body b = (0, B, r) ∧ r <:+ b ∧ B.length ≤ 8000 ∧ ∀ x ∈ B, x ∈ body ∨ x ∈ b) := by
  intro f
  induction f with
  | zero => intro body b _; exact Or.inl ⟨8, by simp, rfl⟩
  | succ f ih =>
    intro body b hb
    rcases unF_cases body b with ⟨e, he, h⟩ | ⟨n, r, r2, r3, h⟩
    · exact Or.inl ⟨e, he, h f⟩
    · have s1 := rdN_is _ _ _ _ _ _ h.h1 (by omega) (by omega)
      have s2 := mt_is h.h2
      have s4 := mt_is h.h4
      have s3 : r3 <:+ b := s4.trans ((List.drop_suffix _ _).trans (s2.trans s1.2.2))
      by_cases hn : n = 0
      · subst hn
        exact Or.inr ⟨body, r3, unF_end h, s3, hb, fun x hx => Or.inl hx⟩
      · rw [unF_go h hn]
        have hl := h.h3
        have hlen : (body ++ r2.take n.toNat).length ≤ 8000 := by
          simp only [List.length_append, List.length_take]
          omega
        rcases ih (body ++ r2.take n.toNat) r3 hlen with h5 | ⟨B, q, h5, h6, h7, h8⟩
        · exact Or.inl h5
        · refine Or.inr ⟨B, q, h5, h6.trans s3, h7, fun x hx => ?_⟩
          rcases h8 x hx with h9 | h9
          · rcases List.mem_append.1 h9 with h10 | h10
            · exact Or.inl h10
            · exact Or.inr ((s2.trans s1.2.2).subset (List.mem_of_mem_take h10))
          · exact Or.inr (s3.subset h9)
theorem suf_drop {r b : List Int} (h : r <:+ b) : r = b.drop (b.length - r.length) := by
  obtain ⟨t, rfl⟩ := h
  simp
/-- What comes of pieces, by both words. -/
theorem unch_is (b : List Int) : (∃ e, e ≠ 0 ∧ unchF b = (e, [], 0) ∧ unchP b = (e, [], [])) ∨ (∃ (B : List Int) (u : Nat), unchF b = (0, B, (u : Int)) ∧ unchP b = (0, B, b.drop u) ∧ u ≤ b.length ∧ B.length ≤ 8000 ∧ ∀ x ∈ B, x ∈ b) := by
  rcases unF_is (b.length + 1) [] b (by simp) with ⟨e, he, h⟩ | ⟨B, r, h, hs, hB, hx⟩
  · left
    refine ⟨e, he, ?_, ?_⟩
    · unfold unchF; rw [h]; simp [he]
    · unfold unchP; rw [h]
  · right
    have hl := hs.length_le
    refine ⟨B, b.length - r.length, ?_, ?_, by omega, hB, fun x hm => ?_⟩
    · unfold unchF; rw [h]; simp; omega
    · unfold unchP; rw [h]; simp only []; rw [← suf_drop hs]
    · rcases hx x hm with h1 | h1
      · cases h1
      · exact h1
end Go.Proofs.YtgjolljhjagngafDoor
