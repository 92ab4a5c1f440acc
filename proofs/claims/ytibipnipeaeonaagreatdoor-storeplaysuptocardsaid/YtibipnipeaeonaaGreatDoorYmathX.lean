/-
  FROM THE ONE TO THE OTHER: what the library's cutting and putting together of texts come to, of lists. No claim by itself.
-/
import Derived.Lib.Split
import Derived.Lib.Join
import Derived.Lib.Atoi
import Derived.Test.YtibipnipeaeonaaGreatDoorXmathX
namespace Go.Proofs.YtibipnipeaeonaaGreatDoor
open Go Go.RowKit
def numsU (l : List UInt8) : List Int := l.map fun c => (c.toNat : Int)
theorem numsU_getD (l : List UInt8) (k : Nat) (h : k < l.length) : (numsU l).getD k 0 = (l[k].toNat : Int) := by
  simp [numsU, List.getD, List.getElem?_eq_getElem h]
theorem byte_ne {x y : UInt8} (h : (x.toNat : Int) = (y.toNat : Int)) : x = y := UInt8.toNat_inj.1 (by omega)
theorem occ_two (s : List UInt8) (a b : UInt8) (i : Nat) (hi : i + 1 < s.length) : Lib.occAt s [a, b] i = true ↔ ((numsU s).getD i 0 = (a.toNat : Int) ∧ (numsU s).getD (i + 1) 0 = (b.toNat : Int)) := by
  have h0 : i < s.length := by omega
  rw [numsU_getD s i h0, numsU_getD s (i + 1) hi]
  unfold Lib.occAt
  rw [List.drop_eq_getElem_cons h0, List.drop_eq_getElem_cons hi]
  simp only [List.isPrefixOf, Bool.and_true, Bool.and_eq_true, beq_iff_eq]
  constructor
  · rintro ⟨rfl, rfl⟩; exact ⟨rfl, rfl⟩
  · rintro ⟨h1, h2⟩; exact ⟨(byte_ne h1).symm, (byte_ne h2).symm⟩
theorem split_cut (a b : UInt8) : ∀ (n : Nat) (s : List UInt8), s.length ≤ n → (Lib.splitK [a, b] 0 (Lib.count s [a, b]) s).map numsU = cut2 a.toNat b.toNat (numsU s)
  | n, s, hn => by
    rcases Lib.index_spec s [a, b] with ⟨h1, h2⟩ | ⟨i, h1, h2, h3, h4⟩
    · rw [Lib.count_miss h1]
      rw [cut2_end]
      · rfl
      · intro k hk he
        have hk' : k + 1 < s.length := by simpa [numsU] using hk
        have := (occ_two s a b k hk').2 he
        rw [h2 k (by omega)] at this
        exact Bool.noConfusion this
    · have hr : i + 2 ≤ s.length := by
        rcases Lib.occAt_room h3 with h | h
        · simpa using h
        · simp at h
      have he := (occ_two s a b i (by omega)).1 h3
      rw [Lib.count_hit (by simp) h1, Nat.add_comm 1, Lib.splitK]
      rw [if_neg (by rw [h1]; simp), h1]
      have e0 : (Int.toNat (i : Int)) = i := by omega
      rw [e0, List.map_cons]
      have hm : n = 0 ∨ ∃ m, n = m + 1 := by cases n with
        | zero => exact Or.inl rfl
        | succ m => exact Or.inr ⟨m, rfl⟩
      rcases hm with rfl | ⟨m, rfl⟩
      · omega
      · rw [show i + 0 = i by omega, show [a, b].length = 2 from rfl, split_cut a b m (s.drop (i + 2)) (by simp; omega)]
        have hs : numsU s = numsU (s.take i) ++ (a.toNat : Int) :: (b.toNat : Int) :: numsU (s.drop (i + 2)) := by
          have e1 : s = s.take i ++ s.drop i := (List.take_append_drop _ _).symm
          rw [List.drop_eq_getElem_cons (show i < s.length by omega), List.drop_eq_getElem_cons (show i + 1 < s.length by omega)] at e1
          rw [numsU_getD s i (by omega), numsU_getD s (i + 1) (by omega)] at he
          rw [← he.1, ← he.2]
          exact (congrArg numsU e1).trans (by simp only [numsU, List.map_append, List.map_cons])
        conv => rhs; rw [hs]
        rw [cut2_take]
        intro k hk
        have hki : k < i := by simpa [numsU, Nat.min_eq_left (show i ≤ s.length by omega)] using hk
        rw [← hs]
        intro hx
        have := (occ_two s a b k (by omega)).2 hx
        rw [h4 k hki] at this
        exact Bool.noConfusion this
theorem splitB_cut (a b : UInt8) (s : ByteArray) : (Lib.splitB ⟨#[a, b]⟩ 0 (Lib.countB s ⟨#[a, b]⟩) s).map (fun x => numsU x.data.toList) = cut2 a.toNat b.toNat (numsU s.data.toList) := by
  have h := Lib.splitB_data ⟨#[a, b]⟩ 0 (Lib.countB s ⟨#[a, b]⟩) s
  have h2 := split_cut a b s.data.toList.length s.data.toList (Nat.le_refl _)
  rw [← h2]
  have : (fun x : ByteArray => numsU x.data.toList) = numsU ∘ (fun x => x.data.toList) := rfl
  rw [this, ← List.map_map, h]
theorem join_U (a b : UInt8) : ∀ (l : List (List UInt8)), numsU (Lib.join l [a, b]) = join2 a.toNat b.toNat (l.map numsU)
  | [] => rfl
  | [x] => by rw [Lib.join_one]; rfl
  | x :: y :: l => by
    have ih := join_U a b (y :: l)
    rw [List.map_cons, join2_cons (by simp), ← ih]
    simp [Lib.join, List.intercalate, numsU, List.intersperse]
theorem cut2_len (a b : Int) : ∀ s : List Int, (cut2 a b s).length ≤ s.length + 1
  | [] => by simp [cut2]
  | [c] => by simp [cut2]
  | c :: d :: r => by
    unfold cut2
    split
    · have := cut2_len a b r
      simp; omega
    · have := cut2_len a b (d :: r)
      cases h : cut2 a b (d :: r) with
      | nil => simp [hdCons]
      | cons x l =>
        rw [h] at this
        simp [hdCons] at this ⊢
        omega
end Go.Proofs.YtibipnipeaeonaaGreatDoor
