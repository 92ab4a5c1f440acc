/-
  WHAT WAS DONE: the paths that stand there most often: their mathematics. No claim by itself.
-/
import Derived.Sort.Statements
import Derived.Maps.OwnSet
import Derived.Maps.OwnOps
import Derived.Maps.Views
import Derived.BigRegion
import Derived.BigQuiet
import Derived.Deep.QuietTactic
import Derived.Deep.RegionHeld3
import Derived.Sort.LotA
import Derived.Sort.Walk0
import Derived.Lib.SplitLaws
import Derived.Sort.Grow
import Derived.Sort.KeysCollected
import Derived.Shelf.SlSortCmp.Kit1
import Derived.Sort.OwnSorted
import Derived.Below
import Derived.Shelf.Abstract
import Derived.WalkKit
import Derived.OwnWalkIn
import Derived.Test.YteohgkgahkkjlaaGreatDoorVl
import Derived.Test.YteohgkgahkkjlaaGreatDoorNtok
namespace Go.Proofs.YteohgkgahkkjlaaGreatDoor
open Go.Sort
section
variable {α : Type} [DecidableEq α]
/-- How often. -/
def cnt (P : List α) (x : α) : Nat := (P.filter fun y => decide (y = x)).length
theorem cnt_pos {P : List α} {x : α} : 0 < cnt P x ↔ x ∈ P := by
  unfold cnt
  constructor
  · intro h
    obtain ⟨y, hy⟩ := List.exists_mem_of_length_pos h
    obtain ⟨h1, h2⟩ := List.mem_filter.1 hy
    rw [← of_decide_eq_true h2]; exact h1
  · intro h
    exact List.length_pos_of_mem (List.mem_filter.2 ⟨h, by simp⟩)
theorem cnt_snoc (P : List α) (a x : α) : cnt (P ++ [a]) x = cnt P x + if a = x then 1 else 0 := by
  unfold cnt
  rw [List.filter_append, List.length_append]
  by_cases h : a = x
  · rw [if_pos h, List.filter_cons_of_pos (by simpa using h)]; rfl
  · rw [if_neg h, List.filter_cons_of_neg (by simpa using h)]; rfl
/-- How many first ones there are. -/
def firsts : List α → Nat → Nat
  | _, 0 => 0
  | P, n + 1 => firsts P n + if (P.take n).all (fun y => P[n]?.all fun x => decide (y ≠ x)) = true then 1 else 0
theorem remove_len {x : α} : ∀ {L : List α}, L.Nodup → x ∈ L → L.length = (L.filter fun y => decide (y ≠ x)).length + 1
  | [], _, h => by cases h
  | a :: r, hn, h => by
    have hn' := List.nodup_cons.1 hn
    by_cases e : a = x
    · subst e
      rw [List.filter_cons_of_neg (by simp)]
      have : r.filter (fun y => decide (y ≠ a)) = r := List.filter_eq_self.2 fun y hy => decide_eq_true (fun e => hn'.1 (e ▸ hy))
      rw [this]; rfl
    · rw [List.filter_cons_of_pos (by simpa using e), List.length_cons, List.length_cons]
      have := remove_len hn'.2 ((List.mem_cons.1 h).resolve_left (fun k => e k.symm))
      omega
/-- Two lists of the same ones, none twice, are of one length. -/
theorem same_len : ∀ {L M : List α}, L.Nodup → M.Nodup → (∀ x, x ∈ L ↔ x ∈ M) → L.length = M.length
  | [], M, _, _, h => by
    cases M with
    | nil => rfl
    | cons a r => exact absurd ((h a).2 (List.mem_cons_self)) (by simp)
  | a :: r, M, hl, hm, h => by
    have hl' := List.nodup_cons.1 hl
    have ha : a ∈ M := (h a).1 List.mem_cons_self
    rw [remove_len hm ha, List.length_cons]
    have hm2 : (M.filter fun y => decide (y ≠ a)).Nodup := hm.sublist List.filter_sublist
    rw [same_len hl'.2 hm2 (fun x => ?_)]
    rw [List.mem_filter]
    constructor
    · intro hx
      exact ⟨(h x).1 (List.mem_cons_of_mem _ hx), decide_eq_true (fun e => hl'.1 (e ▸ hx))⟩
    · rintro ⟨hx, hne⟩
      exact ((List.mem_cons.1 ((h x).2 hx)).resolve_left (of_decide_eq_true hne))
/-- The first ones. -/
def fst1 : List α → List α → List α
  | _, [] => []
  | Q, x :: r => if x ∈ Q then fst1 Q r else x :: fst1 (x :: Q) r
theorem fst1_mem : ∀ {Q P : List α} {x : α}, x ∈ fst1 Q P ↔ x ∈ P ∧ x ∉ Q
  | Q, [], x => by simp [fst1]
  | Q, a :: r, x => by
    unfold fst1
    by_cases h : a ∈ Q
    · rw [if_pos h, fst1_mem, List.mem_cons]
      constructor
      · rintro ⟨h1, h2⟩; exact ⟨Or.inr h1, h2⟩
      · rintro ⟨h1 | h1, h2⟩
        · exact absurd (h1 ▸ h) h2
        · exact ⟨h1, h2⟩
    · rw [if_neg h, List.mem_cons, fst1_mem, List.mem_cons, List.mem_cons]
      constructor
      · rintro (h1 | ⟨h1, h2⟩)
        · exact ⟨Or.inl h1, h1 ▸ h⟩
        · exact ⟨Or.inr h1, fun k => h2 (Or.inr k)⟩
      · rintro ⟨h1, h2⟩
        by_cases e : x = a
        · exact Or.inl e
        · exact Or.inr ⟨h1.resolve_left e, fun k => k.elim e h2⟩
theorem fst1_nodup : ∀ {Q P : List α}, (fst1 Q P).Nodup
  | Q, [] => by simp [fst1]
  | Q, a :: r => by
    unfold fst1
    by_cases h : a ∈ Q
    · rw [if_pos h]; exact fst1_nodup
    · rw [if_neg h]
      exact List.nodup_cons.2 ⟨fun k => (fst1_mem.1 k).2 List.mem_cons_self, fst1_nodup⟩
theorem fst1_congr : ∀ {Q R P : List α}, (∀ x, x ∈ Q ↔ x ∈ R) → fst1 Q P = fst1 R P
  | Q, R, [], _ => rfl
  | Q, R, a :: r, h => by
    unfold fst1
    by_cases k : a ∈ Q
    · rw [if_pos k, if_pos ((h a).1 k), fst1_congr h]
    · rw [if_neg k, if_neg (fun j => k ((h a).2 j))]
      rw [fst1_congr (Q := a :: Q) (R := a :: R) (fun x => by rw [List.mem_cons, List.mem_cons, h x])]
theorem fst1_snoc : ∀ {Q P : List α} {a : α}, fst1 Q (P ++ [a]) = fst1 Q P ++ if a ∈ Q ∨ a ∈ P then [] else [a]
  | Q, [], a => by
    by_cases h : a ∈ Q <;> simp [fst1, h]
  | Q, b :: r, a => by
    rw [List.cons_append]
    unfold fst1
    by_cases h : b ∈ Q
    · rw [if_pos h, if_pos h, fst1_snoc]
      congr 1
      by_cases h1 : a ∈ Q ∨ a ∈ r
      · rw [if_pos h1, if_pos (h1.imp_right (List.mem_cons_of_mem _))]
      · rw [if_neg h1, if_neg (fun k => h1 (k.imp_right fun k => (List.mem_cons.1 k).resolve_left (fun e => h1 (Or.inl (e ▸ h)))))]
    · rw [if_neg h, if_neg h, fst1_snoc, List.cons_append]
      congr 2
      have e : (a ∈ b :: Q ∨ a ∈ r) ↔ (a ∈ Q ∨ a ∈ b :: r) := by
        simp only [List.mem_cons]; constructor
        · rintro ((h | h) | h)
          · exact Or.inr (Or.inl h)
          · exact Or.inl h
          · exact Or.inr (Or.inr h)
        · rintro (h | h | h)
          · exact Or.inl (Or.inr h)
          · exact Or.inl (Or.inl h)
          · exact Or.inr h
      simp only [e]
/-- How many different ones there are. -/
def kinds (P : List α) : Nat := (fst1 [] P).length
theorem kinds_snoc (P : List α) (a : α) : kinds (P ++ [a]) = kinds P + if a ∈ P then 0 else 1 := by
  unfold kinds
  rw [fst1_snoc, List.length_append]
  by_cases h : a ∈ P <;> simp [h]
theorem kinds_of {P K : List α} (hn : K.Nodup) (h : ∀ x, x ∈ K ↔ x ∈ P) : K.length = kinds P :=
  same_len hn fst1_nodup (fun x => by rw [h x, fst1_mem]; simp)
end
/-- What stands first of a row in order is ahead of what is left out. -/
theorem top_out {α : Type} {lt : α → α → Prop} {K : List α} (hs : K.Pairwise lt) {m : Nat} {x : α} (hx : x ∈ K) (hm : 0 < m) (hl : m ≤ K.length) (hn : x ∉ K.take m) : lt (K[m - 1]'(by omega)) x := by
  obtain ⟨i, hi, rfl⟩ := List.getElem_of_mem hx
  have : ¬ i < m := fun h => hn (List.mem_take_iff_getElem.2 ⟨i, by omega, rfl⟩)
  exact List.pairwise_iff_getElem.1 hs (m - 1) i (by omega) hi (by omega)
/- In which order they stand. -/
def c3 (a b : Int) : Int := if a < b then -1 else if b < a then 1 else 0
def c3s (x y : List UInt8) : Int := if x < y then -1 else if x = y then 0 else 1
def topC (n : List UInt8 → Nat) (x y : List UInt8) : Int := if c3 (n y) (n x) = 0 then c3s x y else c3 (n y) (n x)
def topL (n : List UInt8 → Nat) (x y : List UInt8) : Prop := n y < n x ∨ (n x = n y ∧ x < y)
theorem topC_lt (n : List UInt8 → Nat) (x y : List UInt8) : topC n x y < 0 ↔ topL n x y := by
  unfold topC topL c3 c3s
  by_cases h1 : n y < n x
  · have : ((n y : Int) < (n x : Int)) := by omega
    simp [this, h1]
  · by_cases h2 : n x < n y
    · have a1 : ¬ ((n y : Int) < (n x : Int)) := by omega
      have a2 : ((n x : Int) < (n y : Int)) := by omega
      have a3 : ¬ n x = n y := by omega
      simp [a1, a2, a3, h1]
    · have a1 : ¬ ((n y : Int) < (n x : Int)) := by omega
      have a2 : ¬ ((n x : Int) < (n y : Int)) := by omega
      have a3 : n x = n y := by omega
      by_cases h3 : x < y
      · simp [a3, h3]
      · by_cases h4 : x = y
        · subst h4; simp [List.lt_irrefl]
        · simp [a3, h3, h4]
theorem topL_irr (n : List UInt8 → Nat) (x : List UInt8) : ¬ topL n x x := by
  rintro (h | ⟨_, h⟩)
  · omega
  · exact List.lt_irrefl _ h
theorem topL_trans {n : List UInt8 → Nat} {x y z : List UInt8} (h1 : topL n x y) (h2 : topL n y z) : topL n x z := by
  rcases h1 with h1 | ⟨e1, h1⟩ <;> rcases h2 with h2 | ⟨e2, h2⟩
  · exact Or.inl (by omega)
  · exact Or.inl (by omega)
  · exact Or.inl (by omega)
  · exact Or.inr ⟨by omega, List.lt_trans h1 h2⟩
theorem topL_tri {n : List UInt8 → Nat} {x y : List UInt8} (h1 : ¬ topL n x y) (h2 : ¬ topL n y x) : x = y := by
  have e : n x = n y := by
    by_cases a : n y < n x
    · exact absurd (Or.inl a) h1
    · by_cases b : n x < n y
      · exact absurd (Or.inl b) h2
      · omega
  have g1 : ¬ x < y := fun h => h1 (Or.inr ⟨e, h⟩)
  have g2 : ¬ y < x := fun h => h2 (Or.inr ⟨e.symm, h⟩)
  exact List.le_antisymm (List.not_lt.1 g2) (List.not_lt.1 g1)
theorem topC_swo (n : List UInt8 → Nat) : SWO (fun x y => decide (topC n x y < 0)) where
  irrefl x := by simp only [topC_lt, decide_eq_false_iff_not]; exact topL_irr n x
  trans x y z h1 h2 := by simp only [topC_lt, decide_eq_true_eq] at *; exact topL_trans h1 h2
  ntrans x y z h1 h2 := by
    simp only [topC_lt, decide_eq_false_iff_not] at *
    intro h
    by_cases e : x = y
    · exact h2 (e ▸ h)
    · by_cases k : topL n y x
      · exact h2 (topL_trans k h)
      · exact e (topL_tri h1 k)
theorem topC_tri (n : List UInt8 → Nat) (x y : List UInt8) (h1 : decide (topC n x y < 0) = false) (h2 : decide (topC n y x < 0) = false) : x = y := by
  simp only [topC_lt, decide_eq_false_iff_not] at h1 h2
  exact topL_tri h1 h2
/-- The row of all, in their order. -/
theorem top_row {n : List UInt8 → Nat} {ss : List (List UInt8)} (hn : ss.Nodup) : (ss.mergeSort fun x y => !decide (topC n y x < 0)).Pairwise (topL n) := by
  have h := List.pairwise_mergeSort (le := fun x y => !decide (topC n y x < 0)) (fun a b c h1 h2 => by
    simp only [Bool.not_eq_true', topC_lt, decide_eq_false_iff_not] at *
    intro h
    by_cases e : b = c
    · exact h1 (e ▸ h)
    · by_cases k : topL n b c
      · exact h1 (topL_trans k h)
      · exact e (topL_tri k h2)) (fun a b => by
    simp only [Bool.or_eq_true, Bool.not_eq_true', topC_lt, decide_eq_false_iff_not]
    by_cases k : topL n b a
    · exact Or.inr (fun h => topL_irr n a (topL_trans h k))
    · exact Or.inl k) ss
  have hd : (ss.mergeSort fun x y => !decide (topC n y x < 0)).Nodup := (List.mergeSort_perm ss _).nodup_iff.2 hn
  refine (h.and hd).imp fun {a b} hab => ?_
  obtain ⟨h1, h2⟩ := hab
  simp only [Bool.not_eq_true', topC_lt, decide_eq_false_iff_not] at h1
  by_cases k : topL n a b
  · exact k
  · exact absurd (topL_tri k h1) h2
/-- Which paths stand there most often. -/
def TopIs (P : List (List UInt8)) (many : Nat) (T : List (List UInt8)) : Prop := ∃ K : List (List UInt8), K.Nodup ∧ (∀ x, x ∈ K ↔ x ∈ P) ∧ K.Pairwise (topL (cnt P)) ∧ T = K.take many
theorem top_len {P T : List (List UInt8)} {many : Nat} (h : TopIs P many T) : T.length = min many (kinds P) := by
  obtain ⟨K, h1, h2, _, rfl⟩ := h
  rw [List.length_take, kinds_of h1 h2]
theorem top_cnt {P T : List (List UInt8)} {many : Nat} (h : TopIs P many T) {i : Nat} (hi : i < T.length) : 1 ≤ cnt P (T.getD i []) := by
  obtain ⟨K, h1, h2, _, rfl⟩ := h
  have : (K.take many).getD i [] ∈ K := by
    simp only [List.getD, List.getElem?_eq_getElem hi, Option.getD_some]
    exact List.mem_of_mem_take (List.getElem_mem hi)
  exact cnt_pos.2 ((h2 _).1 this)
theorem top_adj {P T : List (List UInt8)} {many : Nat} (h : TopIs P many T) {i : Nat} (hi : i + 1 < T.length) : topL (cnt P) (T.getD i []) (T.getD (i + 1) []) := by
  obtain ⟨K, h1, h2, h3, rfl⟩ := h
  simp only [List.getD, List.getElem?_eq_getElem hi, List.getElem?_eq_getElem (show i < (K.take many).length by omega), Option.getD_some]
  exact List.pairwise_iff_getElem.1 (h3.sublist (List.take_sublist _ _)) i (i + 1) (by omega) hi (by omega)
theorem top_left {P T : List (List UInt8)} {many : Nat} (h : TopIs P many T) (hT : 0 < T.length) {x : List UInt8} (hx : x ∈ P) (hn : x ∉ T) : topL (cnt P) (T.getD (T.length - 1) []) x := by
  obtain ⟨K, h1, h2, h3, rfl⟩ := h
  have hl : (K.take many).length ≤ K.length := by rw [List.length_take]; omega
  have e : K.take many = K.take (K.take many).length := by
    rw [List.length_take]
    by_cases c : many ≤ K.length
    · rw [Nat.min_eq_left c]
    · rw [Nat.min_eq_right (by omega), List.take_length, List.take_of_length_le (by omega)]
  have g := top_out h3 ((h2 x).2 hx) hT hl (by rw [← e]; exact hn)
  have e2 : (K.take many).getD ((K.take many).length - 1) [] = K[(K.take many).length - 1]'(by omega) := by
    simp only [List.getD, List.getElem?_eq_getElem (show (K.take many).length - 1 < (K.take many).length by omega), Option.getD_some]
    rw [List.getElem_take]
  rw [e2]
  exact g
end Go.Proofs.YteohgkgahkkjlaaGreatDoor
/-
  WHAT WAS DONE: cmp.Compare and cmp.Or, walked; paths counted in a map; in which order they stand. No claim by itself.
-/
namespace Go.Proofs.YteohgkgahkkjlaaGreatDoor
open Go Go.RowKit Go.Maps Go.Sort
set_option maxRecDepth 100000
theorem cnan_any (a : Int) (w : World) : Calls Tryz.prog 55 #[.int .i64 a] w fun e w' => e = .returned (.bool false) ∧ w' = w := by
  go_enter Tryz.func55, Tryz.ntmps55
  go_wp2
  go_ret
  exact ⟨rfl, rfl⟩
theorem cnans_any (a : ByteArray) (w : World) : Calls Tryz.prog 56 #[.string a] w fun e w' => e = .returned (.bool false) ∧ w' = w := by
  go_enter Tryz.func56, Tryz.ntmps56
  go_wp2
  go_ret
  exact ⟨rfl, rfl⟩
theorem cmpi_any (a b : Int) (w : World) : Calls Tryz.prog 36 #[.int .i64 a, .int .i64 b] w fun e w' => e = .returned (.int .i64 (c3 a b)) ∧ w' = w := by
  by_cases h1 : a < b
  · have e : c3 a b = -1 := by unfold c3; rw [if_pos h1]
    rw [e]
    go_enter Tryz.func36, Tryz.ntmps36
    go_wp2_with (go_at_call 55; refine (cnan_any _ _).mono ?_; rintro e w' ⟨rfl, rfl⟩)
    go_ret
    exact ⟨rfl, rfl⟩
  · by_cases h2 : b < a
    · have e : c3 a b = 1 := by unfold c3; rw [if_neg h1, if_pos h2]
      rw [e]
      go_enter Tryz.func36, Tryz.ntmps36
      go_wp2_with (go_at_call 55; refine (cnan_any _ _).mono ?_; rintro e w' ⟨rfl, rfl⟩)
      go_ret
      exact ⟨rfl, rfl⟩
    · have e : c3 a b = 0 := by unfold c3; rw [if_neg h1, if_neg h2]
      rw [e]
      go_enter Tryz.func36, Tryz.ntmps36
      go_wp2_with (go_at_call 55; refine (cnan_any _ _).mono ?_; rintro e w' ⟨rfl, rfl⟩)
      go_ret
      exact ⟨rfl, rfl⟩
theorem less_is (a b : ByteArray) : Op.bytesLess a.toList b.toList = decide (a.data.toList < b.data.toList) := by
  rw [Lib.toList_data, Lib.toList_data, bytesLess_eq]
theorem cmps_any (a b : ByteArray) (w : World) : Calls Tryz.prog 37 #[.string a, .string b] w fun e w' => e = .returned (.int .i64 (c3s a.data.toList b.data.toList)) ∧ w' = w := by
  by_cases h1 : a.data.toList < b.data.toList
  · have e : c3s a.data.toList b.data.toList = -1 := by unfold c3s; rw [if_pos h1]
    rw [e]
    have l1 : Op.bytesLess a.toList b.toList = true := by rw [less_is]; exact decide_eq_true h1
    go_enter Tryz.func37, Tryz.ntmps37
    go_wp2_with (go_at_call 56; refine (cnans_any _ _).mono ?_; rintro e w' ⟨rfl, rfl⟩)
    go_ret
    exact ⟨rfl, rfl⟩
  · by_cases h2 : a.data.toList = b.data.toList
    · have e : c3s a.data.toList b.data.toList = 0 := by unfold c3s; rw [if_neg h1, if_pos h2]
      rw [e]
      obtain rfl : a = b := by
        obtain ⟨⟨x⟩⟩ := a
        obtain ⟨⟨y⟩⟩ := b
        simp only at h2
        rw [h2]
      have l1 : Op.bytesLess a.toList a.toList = false := by rw [less_is]; exact decide_eq_false h1
      go_enter Tryz.func37, Tryz.ntmps37
      go_wp2_with (go_at_call 56; refine (cnans_any _ _).mono ?_; rintro e w' ⟨rfl, rfl⟩)
      go_ret
      exact ⟨rfl, rfl⟩
    · have e : c3s a.data.toList b.data.toList = 1 := by unfold c3s; rw [if_neg h1, if_neg h2]
      rw [e]
      have l1 : Op.bytesLess a.toList b.toList = false := by rw [less_is]; exact decide_eq_false h1
      have l2 : (a.toList == b.toList) = false := by rw [Lib.toList_data, Lib.toList_data]; simpa using h2
      have l3 : ¬ a.toList = b.toList := by simpa using l2
      go_enter Tryz.func37, Tryz.ntmps37
      go_wp2_with (go_at_call 56; refine (cnans_any _ _).mono ?_; rintro e w' ⟨rfl, rfl⟩)
      go_ret
      exact ⟨rfl, rfl⟩
theorem cmpor_any (g : Nat) (x y : Int) (w : World) (h0 : w.cell? ⟨g, 0, none⟩ = some (.int .i64 x)) (h1 : w.cell? ⟨g, 1, none⟩ = some (.int .i64 y)) :
    Calls Tryz.prog 35 #[.slice (some ⟨g, 0, none⟩) 2 2] w fun e w' => e = .returned (.int .i64 (if x = 0 then y else x)) ∧ w' = w := by
  by_cases hx : x = 0
  · subst hx
    rw [if_pos rfl]
    by_cases hy : y = 0
    · subst hy
      go_enter Tryz.func35, Tryz.ntmps35
      go_wp2_with fail
      refine wp_loop_rounds 3 ?_
      rw [rounds_succ]
      go_wp2_with fail
      rw [rounds_succ]
      go_wp2_with fail
      rw [rounds_succ]
      go_wp2_with fail
      go_ret
      exact ⟨rfl, rfl⟩
    · have hy' : (y == 0) = false := by simpa using hy
      go_enter Tryz.func35, Tryz.ntmps35
      go_wp2_with fail
      refine wp_loop_rounds 3 ?_
      rw [rounds_succ]
      go_wp2_with fail
      rw [rounds_succ]
      go_wp2_with fail
      go_ret
      exact ⟨rfl, rfl⟩
  · rw [if_neg hx]
    have hx' : (x == 0) = false := by simpa using hx
    go_enter Tryz.func35, Tryz.ntmps35
    go_wp2_with fail
    refine wp_loop_rounds 3 ?_
    rw [rounds_succ]
    go_wp2_with fail
    go_ret
    exact ⟨rfl, rfl⟩
end Go.Proofs.YteohgkgahkkjlaaGreatDoor
/-
  WHAT WAS DONE: paths counted in a map; the comparison that is handed to the sort. No claim by itself.
-/
namespace Go.Proofs.YteohgkgahkkjlaaGreatDoor
open Go Go.RowKit Go.Maps Go.Sort
set_option maxRecDepth 100000
theorem jblk_of_cell {w : World} {g a : Nat} {v : Value} (hc : w.cell? ⟨g, a, none⟩ = some v) : g < w.heap.size := by
  rcases Nat.lt_or_ge g w.heap.size with h | h
  · exact h
  · simp [World.cell?, Array.getElem?_eq_none h] at hc
theorem jskl : Keyed Tryz.prog 9 := string_keyed Tryz.underlying9
theorem jszero (w : World) : (zeroValue 3).run Tryz.prog w = .ok (.int .i64 0) w := by kernel_rfl
abbrev JDat := DataW Unit
/-- The map says how often each path came. -/
structure JCnt (D : JDat) (P : List (List UInt8)) : Prop where
  map : IsMap D
  at_ : ∀ x : List UInt8, D.atKey (.string x) (.lit (.int .i64 0)) = .lit (.int .i64 (cnt P x : Nat))
  has_ : ∀ x : List UInt8, Maps.has D (.string x) = true ↔ x ∈ P
theorem jcnt_nil : JCnt (.map []) [] := ⟨⟨[], rfl⟩, fun _ => rfl, fun x => by simp [Maps.has]⟩
theorem jcnt_put {D : JDat} {P : List (List UInt8)} (h : JCnt D P) (s : List UInt8) : JCnt (D.put (.string s) (.lit (.int .i64 ((cnt P s : Nat) + 1)))) (P ++ [s]) := by
  refine ⟨?_, fun t => ?_, fun t => ?_⟩
  · obtain ⟨es, rfl⟩ := h.map
    exact ⟨_, rfl⟩
  · by_cases e : t = s
    · subst e
      rw [atKey_put_same h.map (by trivial), cnt_snoc, if_pos rfl]
      rfl
    · rw [atKey_put_other (fun k => e (by injection k)), h.at_ t, cnt_snoc, if_neg (fun k => e k.symm)]
      rfl
  · rw [List.mem_append, List.mem_singleton]
    by_cases e : t = s
    · subst e
      rw [has_put_same h.map (by trivial)]
      simp
    · rw [has_put_other (fun k => e (by injection k)), h.has_ t]
      simp [e]
/-- The map in memory. -/
abbrev JOwn (w : World) (mb c : Nat) (D : JDat) : Prop := w.ownsMap Tryz.prog 9 (plainElem Tryz.prog 3) mb c D
theorem jown_below {w w' : World} {mb c : Nat} {D : JDat} (h : JOwn w mb c D) (hb : Below w.heap.size w w') : JOwn w' mb c D := by
  have hlt := h.lt
  obtain ⟨es, clock, h1, r⟩ := h
  exact ⟨es, clock, (hb.block mb hlt).trans h1, r⟩
theorem jky_ok {s : ByteArray} (h : s.size ≤ 140737488351232) : keyOf Tryz.prog 9 (.string s) = some (.string s.data.toList) := Go.WideMaps.keyOf_string_mk Tryz.underlying9 (by unfold maxLen; omega)
theorem jown_look {w : World} {mb c : Nat} {D : JDat} {P : List (List UInt8)} (h : JOwn w mb c D) (hc : JCnt D P) {s : ByteArray} (hs : s.size ≤ 140737488351232) :
    (Instr.lookup 65 (.map (some mb)) (.string s) false).run Tryz.prog w = .ok (.int .i64 (cnt P s.data.toList : Nat)) w := by
  obtain ⟨x, hrun, hat, _⟩ := h.lookup_int jskl Tryz.underlying65 Tryz.underlying3 (jszero _) (jky_ok hs)
  rw [hc.at_ s.data.toList] at hat
  injection hat with e
  injection e with _ e
  rw [hrun, ← e]
set_option maxHeartbeats 4000000 in
theorem gtop1_any (bx mb c : Nat) (D : JDat) (P : List (List UInt8)) (x y : ByteArray) (w : World) (hb : w.cell? ⟨bx, 0, none⟩ = some (.map (some mb))) (hO : JOwn w mb c D) (hC : JCnt D P) (hx : x.size ≤ 140737488351232) (hy : y.size ≤ 140737488351232) :
    Calls Tryz.prog 34 #[.string x, .string y, .pointer (some ⟨bx, 0, none⟩)] w fun e w' => e = .returned (.int .i64 (topC (cnt P) x.data.toList y.data.toList)) ∧ ∃ q os, w' = grow (w.drewN q) os := by
  have HKP : Vl (∀ w' : World, Below w.heap.size w w' → w'.cell? ⟨bx, 0, none⟩ = some (.map (some mb)) ∧ (Instr.lookup 65 (.map (some mb)) (.string x) false).run Tryz.prog w' = .ok (.int .i64 (cnt P x.data.toList : Nat)) w' ∧ (Instr.lookup 65 (.map (some mb)) (.string y) false).run Tryz.prog w' = .ok (.int .i64 (cnt P y.data.toList : Nat)) w') := vl (fun w' hw => ⟨(hw.cell (p := ⟨bx, 0, none⟩) (jblk_of_cell hb)).trans hb, jown_look (jown_below hO hw) hC hx, jown_look (jown_below hO hw) hC hy⟩)
  have HF : Vl (topC (cnt P) x.data.toList y.data.toList = if c3 (cnt P y.data.toList : Nat) (cnt P x.data.toList : Nat) = 0 then c3s x.data.toList y.data.toList else c3 (cnt P y.data.toList : Nat) (cnt P x.data.toList : Nat)) := vl rfl
  have H1 := vl (fun W => cmpi_any (cnt P y.data.toList : Nat) (cnt P x.data.toList : Nat) W)
  have H2 := vl (fun W => cmps_any x y W)
  rw [HF.out]
  generalize c3 (cnt P y.data.toList : Nat) (cnt P x.data.toList : Nat) = k1 at *
  generalize c3s x.data.toList y.data.toList = k2 at *
  have H3 : Vl (∀ (g : Nat) (W : World), W.cell? ⟨g, 0, none⟩ = some (.int .i64 k1) → W.cell? ⟨g, 1, none⟩ = some (.int .i64 k2) → Calls Tryz.prog 35 #[.slice (some ⟨g, 0, none⟩) 2 2] W fun e w' => e = .returned (.int .i64 (if k1 = 0 then k2 else k1)) ∧ w' = W) := vl (fun g W a b => cmpor_any g k1 k2 W a b)
  generalize (if k1 = 0 then k2 else k1) = kk at *
  have h0 := HKP.out w (Below.refl _ _)
  have h1 := HKP.out w.drew (Below.refl _ w).drew
  obtain ⟨a1, a2, a3⟩ := h0
  obtain ⟨b1, b2, b3⟩ := h1
  generalize ((cnt P x.data.toList : Nat) : Int) = n1 at *
  generalize ((cnt P y.data.toList : Nat) : Int) = n2 at *
  clear HF
  go_enter Tryz.func34, Tryz.ntmps34
  go_wp2_with fail
  refine (H1.out _).mono ?_
  rintro e w2 ⟨rfl, rfl⟩
  go_wp2_with fail
  refine (H2.out _).mono ?_
  rintro e w3 ⟨rfl, rfl⟩
  go_wp2_with fail
  have hn := heap_alloc_new w3 (.cells #[.int .i64 k1, .int .i64 k2] 3)
  refine (H3.out w3.heap.size _ (by simp only [World.cell?, hn]; rfl) (by simp only [World.cell?, hn]; rfl)).mono ?_
  rintro e w4 ⟨rfl, rfl⟩
  go_wp2_with fail
  go_ret
  refine ⟨rfl, 0, #[Obj.cells #[Value.int IntKind.i64 k1, Value.int IntKind.i64 k2] 3], ?_⟩
  unfold grow World.alloc
  simp [World.drewN]
end Go.Proofs.YteohgkgahkkjlaaGreatDoor
/-
  WHAT WAS DONE: the paths of a map in their order: what the sort is handed, and what it leaves. No claim by itself.
-/
namespace Go.Proofs.YteohgkgahkkjlaaGreatDoor
open Go Go.RowKit Go.Maps Go.Sort Go.Shelf
set_option maxRecDepth 100000
abbrev PTx := {x : List UInt8 // x.length ≤ 400}
instance : Inhabited PTx := ⟨⟨[], by decide⟩⟩
def encP (a : PTx) : Value := encStr a.1
def cfP (n : List UInt8 → Nat) (a b : PTx) : Int := topC n a.1 b.1
theorem ltP (n : List UInt8 → Nat) (a b : PTx) : ltOf (cfP n) a b = decide (topC n a.1 b.1 < 0) := rfl
theorem swoP (n : List UInt8 → Nat) : SWO (ltOf (cfP n)) where
  irrefl x := (topC_swo n).irrefl x.1
  trans x y z := (topC_swo n).trans x.1 y.1 z.1
  ntrans x y z := (topC_swo n).ntrans x.1 y.1 z.1
theorem triP (n : List UInt8 → Nat) (a b : PTx) (h1 : ltOf (cfP n) a b = false) (h2 : ltOf (cfP n) b a = false) : a = b := Subtype.ext (topC_tri n a.1 b.1 h1 h2)
theorem oneP : OneCell encP := fun _ => rfl
/-- All of them, in their order. -/
def rowP (n : List UInt8 → Nat) (ss : List PTx) : List PTx := ss.mergeSort fun x y => !(ltOf (cfP n)) y x
theorem rowP_is {n : List UInt8 → Nat} {ss : List PTx} (hn : (ss.map (·.1)).Nodup) : ((rowP n ss).map (·.1)).Nodup ∧ (∀ x, x ∈ (rowP n ss).map (·.1) ↔ x ∈ ss.map (·.1)) ∧ ((rowP n ss).map (·.1)).Pairwise (topL n) := by
  have hp : (rowP n ss).Perm ss := List.mergeSort_perm _ _
  have hq := hp.map (fun a : PTx => a.1)
  have hd : ((rowP n ss).map (·.1)).Nodup := hq.nodup_iff.2 hn
  refine ⟨hd, fun x => hq.mem_iff, ?_⟩
  have h := List.pairwise_mergeSort (le := fun x y : PTx => !(ltOf (cfP n)) y x) (fun a b c h1 h2 => by
    simp only [Bool.not_eq_true', ltP, topC_lt, decide_eq_false_iff_not] at *
    intro h
    by_cases e : b.1 = c.1
    · exact h1 (e ▸ h)
    · by_cases k : topL n b.1 c.1
      · exact h1 (topL_trans k h)
      · exact e (topL_tri k h2)) (fun a b => by
    simp only [Bool.or_eq_true, Bool.not_eq_true', ltP, topC_lt, decide_eq_false_iff_not]
    by_cases k : topL n b.1 a.1
    · exact Or.inr (fun h => topL_irr n a.1 (topL_trans h k))
    · exact Or.inl k) ss
  rw [List.pairwise_map]
  have hd2 := List.pairwise_map.1 hd
  refine (h.and hd2).imp fun {a b} hab => ?_
  obtain ⟨h1, h2⟩ := hab
  simp only [Bool.not_eq_true', ltP, topC_lt, decide_eq_false_iff_not] at h1
  by_cases k : topL n a.1 b.1
  · exact k
  · exact absurd (topL_tri k h1) h2
/-- A row of texts, as it is handed back. -/
def TxRow (w : World) (v : Value) (K : List (List UInt8)) : Prop := (v = .slice none 0 0 ∧ K = []) ∨ ∃ g c, v = .slice (some ⟨g, 0, none⟩) K.length c ∧ K.length ≤ c ∧ c ≤ maxLen ∧ ∀ t, t < K.length → w.cell? ⟨g, t, none⟩ = some (encStr (K.getD t []))
/- the keys of the map -/
theorem jkeys_are {w : World} {mb nn : Nat} {D : JDat} (h : JOwn w mb nn D) : (strKeys D).Nodup ∧ ∀ x, x ∈ strKeys D ↔ Maps.has D (.string x) = true := by
  obtain ⟨es, hD, hpw, _⟩ := h.entries jskl
  obtain ⟨es', hD', hko⟩ := h.keysOf
  obtain rfl : es = es' := by rw [hD] at hD'; simpa using hD'
  subst hD
  have hk : ∀ p ∈ es, ∃ x, p.1 = .string x := fun p hp => by
    obtain ⟨v, hv⟩ := hko p hp
    obtain ⟨x, _, hx, _⟩ := Maps.keyOf_str Tryz.underlying9 hv
    exact ⟨x, hx⟩
  constructor
  · show (es.map fun p => strOf p.1).Nodup
    refine List.pairwise_map.2 (hpw.imp_of_mem fun {p q} hp' hq' hne e => hne ?_)
    obtain ⟨a, ha⟩ := hk p hp'
    obtain ⟨b, hb⟩ := hk q hq'
    rw [ha, hb] at e ⊢
    exact congrArg _ e
  · intro x
    rw [has_eq, List.any_eq_true]
    show x ∈ es.map (fun p => strOf p.1) ↔ _
    rw [List.mem_map]
    constructor
    · rintro ⟨p, hp', rfl⟩
      obtain ⟨a, ha⟩ := hk p hp'
      exact ⟨p, hp', by rw [ha]; simp [Lit.sameKey, strOf]⟩
    · rintro ⟨p, hp', hs⟩
      obtain ⟨a, ha⟩ := hk p hp'
      rw [ha] at hs
      exact ⟨p, hp', by rw [ha]; simpa [Lit.sameKey, strOf] using hs⟩
/- worlds that the sort passes through -/
theorem sortW_grown {w : World} {g n : Nat} {os : Array Obj} (d : Array PTx) : w.grownBy (sortWorld encP w g 0 n d os) (some g) := by
  unfold sortWorld
  refine ⟨rfl, rfl, rfl, by simp, fun k hk hne => ?_⟩
  rw [heap_grow_old _ _ (by simpa using hk)]
  have : g ≠ k := fun e => hne (by rw [e])
  simp [putRow, mapBlock, Sort.ahead, Array.getElem?_modify, this]
theorem sortW_old {w : World} {g n k : Nat} {os : Array Obj} (d : Array PTx) (hk : k < w.heap.size) (hne : k ≠ g) : (sortWorld encP w g 0 n d os).heap[k]? = w.heap[k]? :=
  (sortW_grown d).block k hk (fun e => hne (Option.some.inj e))
/-- Texts that are short, as such. -/
def toP (ss : List (List UInt8)) (h : ∀ x ∈ ss, x.length ≤ 400) : List PTx := ss.pmap Subtype.mk h
theorem toP_map {ss : List (List UInt8)} (h : ∀ x ∈ ss, x.length ≤ 400) : (toP ss h).map (·.1) = ss := by
  unfold toP
  rw [List.map_pmap]
  simp
theorem toP_len {ss : List (List UInt8)} (h : ∀ x ∈ ss, x.length ≤ 400) : (toP ss h).length = ss.length := by unfold toP; simp
theorem holdsP {w : World} {g : Nat} {cur : Array Value} {e : TypeId} {ss : List (List UInt8)} (h : ∀ x ∈ ss, x.length ≤ 400) (hb : w.heap[g]? = some (.cells cur e (0, 0))) (ht : cur.toList.take ss.length = ss.map encStr) : Holds encP w g 0 (toP ss h).toArray := by
  have hH := holds_of_block hb ht
  intro j hj
  have hj' : j < ss.length := by simpa [toP] using hj
  obtain ⟨h1, h2⟩ := hH j (by simpa using hj')
  refine ⟨h1.trans ?_, h2⟩
  congr 1
  unfold encP
  congr 1
  simp [toP, hj']
end Go.Proofs.YteohgkgahkkjlaaGreatDoor
