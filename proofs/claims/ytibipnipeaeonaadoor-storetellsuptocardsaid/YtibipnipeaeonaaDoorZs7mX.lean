/-
  ORDER: the library's stable sort. No claim by itself.
-/
import Derived.Test.YtibipnipeaeonaaDoorZs6X
namespace Go.Proofs.YtibipnipeaeonaaDoor
open Go Go.RowKit
set_option maxRecDepth 100000
def Ph1 (D : List FB) (a : Nat) (E : List FB) : Prop := ∃ (bs : List (List FB)) (R : List FB), E = bs.flatten ++ R ∧ (∀ b ∈ bs, b.length = 20 ∧ Srt nmK b) ∧ bs.flatten.length = a ∧ Sby nmK D E
theorem Ph1.next {D E : List FB} {a : Nat} (h : Ph1 D a E) (ha : a + 20 ≤ E.length) : ∃ A X R, E = A ++ X ++ R ∧ A.length = a ∧ X.length = 20 ∧ ∀ Z, Srt nmK Z → Sby nmK X Z → Z.length = X.length → Ph1 D (a + 20) (A ++ Z ++ R) := by
  obtain ⟨bs, R, rfl, hb, hl, hs⟩ := h
  simp only [List.length_append] at ha
  obtain ⟨X, R', rfl, hX⟩ := cut_list R 20 (by omega)
  refine ⟨bs.flatten, X, R', by simp, hl, hX, fun Z h1 h2 h3 => ⟨bs ++ [Z], R', by simp, fun b hb' => ?_, by simp only [List.length_append, List.flatten_append, List.flatten_cons, List.flatten_nil, List.append_nil]; omega, ?_⟩⟩
  · rcases List.mem_append.1 hb' with h | h
    · exact hb b h
    · rw [List.mem_singleton.1 h]; exact ⟨by omega, h1⟩
  · refine hs.trans ?_
    rw [← List.append_assoc]
    exact Sby.app (Sby.app (Sby.refl _) h2) (Sby.refl _)
theorem Ph1.fin {D E : List FB} {a : Nat} (h : Ph1 D a E) (ha : E.length < a + 20) : ∃ A X, E = A ++ X ++ [] ∧ A.length = a ∧ A.length + X.length = E.length ∧ ∀ Z, Srt nmK Z → Sby nmK X Z → Z.length = X.length → Runs nmK 20 (A ++ Z ++ []) ∧ Sby nmK D (A ++ Z ++ []) := by
  obtain ⟨bs, R, rfl, hb, hl, hs⟩ := h
  simp only [List.length_append] at ha
  refine ⟨bs.flatten, R, by simp, hl, by rw [List.length_append], fun Z h1 h2 h3 => ⟨⟨bs, Z, by simp, hb, by omega, h1⟩, ?_⟩⟩
  rw [List.append_nil]
  exact hs.trans (Sby.app (Sby.refl _) h2)
def Ph2 (D : List FB) (s a : Nat) (E : List FB) : Prop := ∃ (ds ts : List (List FB)) (X : List FB), E = ds.flatten ++ (ts.flatten ++ X) ∧ (∀ b ∈ ds, b.length = 2 * s ∧ Srt nmK b) ∧ (∀ b ∈ ts, b.length = s ∧ Srt nmK b) ∧ X.length < s ∧ Srt nmK X ∧ ds.flatten.length = a ∧ Sby nmK D E
theorem Ph2.start {D E : List FB} {s : Nat} (h : Runs nmK s E) (hs : Sby nmK D E) : Ph2 D s 0 E := by
  obtain ⟨bs, X, e, hb, hX, hS⟩ := h
  exact ⟨[], bs, X, by simpa using e, (fun b hb => by cases hb), hb, hX, hS, rfl, hs⟩
theorem Ph2.next {D E : List FB} {s a : Nat} (h : Ph2 D s a E) (ha : a + 2 * s ≤ E.length) : ∃ A X Y B, E = A ++ X ++ Y ++ B ∧ A.length = a ∧ X.length = s ∧ Y.length = s ∧ Srt nmK X ∧ Srt nmK Y ∧ ∀ Z, Mrg nmK X Y Z → Ph2 D s (a + 2 * s) (A ++ Z ++ B) := by
  obtain ⟨ds, ts, X, rfl, hd, ht, hX, hS, hl, hs⟩ := h
  simp only [List.length_append] at ha
  match ts, ht with
  | [], _ => simp only [List.flatten_nil, List.length_nil] at ha; omega
  | [t], ht =>
    have := (ht t (List.mem_singleton.2 rfl)).1
    simp only [List.flatten_cons, List.flatten_nil, List.append_nil] at ha; omega
  | t :: u :: r, ht =>
    have k1 := ht t (by simp)
    have k2 := ht u (by simp)
    refine ⟨ds.flatten, t, u, r.flatten ++ X, by simp, hl, k1.1, k2.1, k1.2, k2.2, fun Z hZ => ⟨ds ++ [Z], r, X, by simp, fun b hb => ?_, fun b hb => ht b (by simp [hb]), hX, hS, ?_, ?_⟩⟩
    · rcases List.mem_append.1 hb with h | h
      · exact hd b h
      · rw [List.mem_singleton.1 h]; exact ⟨by rw [hZ.len]; omega, hZ.srt⟩
    · have := hZ.len; simp only [List.length_append, List.flatten_append, List.flatten_cons, List.flatten_nil, List.append_nil]; omega
    · refine hs.trans ?_
      have e : ds.flatten ++ ((t :: u :: r).flatten ++ X) = ds.flatten ++ (t ++ u) ++ (r.flatten ++ X) := by simp
      rw [e]
      exact Sby.app (Sby.app (Sby.refl _) hZ.sby) (Sby.refl _)
theorem Ph2.fin {D E : List FB} {s a : Nat} (h : Ph2 D s a E) (ha : E.length < a + 2 * s) : (E.length ≤ a + s ∧ Runs nmK (2 * s) E ∧ Sby nmK D E) ∨
    (a + s < E.length ∧ ∃ A X Y, E = A ++ X ++ Y ++ [] ∧ A.length = a ∧ X.length = s ∧ A.length + X.length + Y.length = E.length ∧ Srt nmK X ∧ Srt nmK Y ∧ Y ≠ [] ∧ ∀ Z, Mrg nmK X Y Z → Runs nmK (2 * s) (A ++ Z ++ []) ∧ Sby nmK D (A ++ Z ++ [])) := by
  obtain ⟨ds, ts, X, rfl, hd, ht, hX, hS, hl, hs⟩ := h
  simp only [List.length_append] at ha
  match ts, ht with
  | [], _ => exact Or.inl ⟨by simp only [List.length_append, List.flatten_nil, List.length_nil, List.nil_append] at ha ⊢; omega, ⟨ds, X, by simp, hd, by omega, hS⟩, hs⟩
  | [t], ht =>
    have k := ht t (List.mem_singleton.2 rfl)
    by_cases e : X = []
    · subst e
      exact Or.inl ⟨by simp only [List.length_append, List.flatten_cons, List.flatten_nil, List.append_nil, List.length_nil] at ha ⊢; omega, ⟨ds, t, by simp, hd, by simp only [List.flatten_cons, List.flatten_nil, List.append_nil, List.length_nil] at ha; omega, k.2⟩, hs⟩
    · have hpos : 0 < X.length := List.length_pos_iff.2 e
      refine Or.inr ⟨by simp only [List.length_append, List.flatten_cons, List.flatten_nil, List.append_nil]; omega, ds.flatten, t, X, by simp, hl, k.1, by simp only [List.length_append, List.flatten_cons, List.flatten_nil, List.append_nil]; omega, k.2, hS, e, fun Z hZ => ⟨⟨ds, Z, by simp, hd, by rw [hZ.len]; omega, hZ.srt⟩, ?_⟩⟩
      rw [List.append_nil]
      refine hs.trans ?_
      have e2 : ds.flatten ++ ([t].flatten ++ X) = ds.flatten ++ (t ++ X) := by simp
      rw [e2]
      exact Sby.app (Sby.refl _) hZ.sby
  | t :: u :: r, ht =>
    have k1 := (ht t (by simp)).1
    have k2 := (ht u (by simp)).1
    simp only [List.length_append, List.flatten_cons] at ha; omega
end Go.Proofs.YtibipnipeaeonaaDoor
