/-
  SIZES AHEAD OF FIELDS; fields that are said twice: mathematics. No claim by itself.
-/
import Derived.Test.YtkjfhgoddhigmacDoorM13
import Derived.Test.YtkjfhgoddhigmacDoorM07
namespace Go.Proofs.YtkjfhgoddhigmacDoor
open Go
theorem keepN_all (A : List (ByteArray × ByteArray)) (m : Int) (h : (weight A : Int) ≤ m) : keepN A m A.length = A.length := by
  match hn : A.length with
  | 0 => rfl
  | n + 1 =>
    unfold keepN
    rw [if_neg]
    rw [List.take_of_length_le (by omega)]
    omega
theorem shrink_all (A : List (ByteArray × ByteArray)) (m : Int) (h : (weight A : Int) ≤ m) : A.take (keepN A m A.length) = A := by
  rw [keepN_all A m h, List.take_length]
theorem keepN_above (A : List (ByteArray × ByteArray)) (m : Int) : ∀ (N j : Nat), keepN A m N < j → j ≤ N → m < (weight (A.take j) : Int)
  | 0, j, h, h2 => by omega
  | N + 1, j, h, h2 => by
    unfold keepN at h
    split at h
    · rename_i hw
      by_cases e : j = N + 1
      · rw [e]; exact hw
      · exact keepN_above A m N j h (by omega)
    · omega
theorem keepN_take (A : List (ByteArray × ByteArray)) (m : Int) (a : Nat) : ∀ n, n ≤ a → keepN (A.take a) m n = keepN A m n
  | 0, _ => rfl
  | n + 1, h => by
    unfold keepN
    rw [List.take_take, Nat.min_eq_left h, keepN_take A m a n (by omega)]
theorem keepN_down (A : List (ByteArray × ByteArray)) (n : Int) (a : Nat) : ∀ N, a ≤ N → (∀ j, a < j → j ≤ N → n < (weight (A.take j) : Int)) → keepN A n N = keepN A n a
  | 0, h, _ => by rw [show a = 0 by omega]
  | N + 1, h, hj => by
    by_cases e : a = N + 1
    · rw [e]
    · rw [← keepN_down A n a N (by omega) (fun j h1 h2 => hj j h1 (by omega))]
      show (if _ then _ else _) = _
      rw [if_pos (hj (N + 1) (by omega) (Nat.le_refl _))]
/-- Shrunk twice is shrunk to the lesser. -/
theorem shrink_twice (A : List (ByteArray × ByteArray)) (m n : Int) (hm : 0 ≤ m) : (A.take (keepN A m A.length)).take (keepN (A.take (keepN A m A.length)) n (A.take (keepN A m A.length)).length) = A.take (keepN A (if n < m then n else m) A.length) := by
  have hf := keepN_fits A m hm A.length
  have hl := keepN_le A m A.length
  by_cases h : n < m
  · rw [if_pos h, List.length_take, Nat.min_eq_left hl, keepN_take A n _ _ (Nat.le_refl _), List.take_take, Nat.min_eq_left (keepN_le _ _ _), ← keepN_down A n _ A.length hl (fun j h1 h2 => by have := keepN_above A m A.length j h1 h2; omega)]
  · rw [if_neg h]
    exact shrink_all _ n (by omega)
theorem dleastL_snoc : ∀ (l : List Int) (m s : Int), leastL m (l ++ [s]) = if s < leastL m l then s else leastL m l
  | [], _, _ => rfl
  | _ :: l, _, s => dleastL_snoc l _ s
theorem dleastL_bd : ∀ (l : List Int) (m lo hi : Int), lo ≤ m → m ≤ hi → (∀ x ∈ l, lo ≤ x ∧ x ≤ hi) → lo ≤ leastL m l ∧ leastL m l ≤ hi
  | [], m, lo, hi, h1, h2, _ => ⟨h1, h2⟩
  | x :: l, m, lo, hi, h1, h2, h => by
    have hx := h x List.mem_cons_self
    show lo ≤ leastL (if x < m then x else m) l ∧ leastL (if x < m then x else m) l ≤ hi
    exact dleastL_bd l _ lo hi (by split <;> omega) (by split <;> omega) (fun y hy => h y (List.mem_cons_of_mem _ hy))
/-- The least of sizes that were asked for: -1 where there are none. -/
def leastOf : List Int → Int
  | [] => -1
  | x :: r => leastL x (x :: r)
theorem leastOf_snoc (l : List Int) (s : Int) (h : l ≠ []) : leastOf (l ++ [s]) = if s < leastOf l then s else leastOf l := by
  match l with
  | [] => exact absurd rfl h
  | x :: r => exact dleastL_snoc (x :: r) x s
theorem leastOf_one (s : Int) : leastOf [s] = s := by
  show leastL (if s < s then s else s) [] = s
  simp [leastL]
theorem leastOf_bd (l : List Int) (hi : Int) (hne : l ≠ []) (h : ∀ x ∈ l, 0 ≤ x ∧ x ≤ hi) : 0 ≤ leastOf l ∧ leastOf l ≤ hi := by
  match l with
  | [] => exact absurd rfl hne
  | x :: r => exact dleastL_bd (x :: r) x 0 hi (h x List.mem_cons_self).1 (h x List.mem_cons_self).2 h
theorem leastOf_neg (l : List Int) (h : ∀ x ∈ l, 0 ≤ x ∧ x ≤ 4096) : leastOf l = -1 ↔ l = [] := by
  constructor
  · intro e
    by_cases hn : l = []
    · exact hn
    · have := (leastOf_bd l 4096 hn h).1; omega
  · rintro rfl; rfl
theorem szL_ne (l : List Int) (h : l ≠ []) : szL l = putL (leastOf l) 5 32 ++ (if leastOf l < l.getLastD 0 then putL (l.getLastD 0) 5 32 else []) := by
  match l with
  | [] => exact absurd rfl h
  | x :: r => rfl
/-- What one side has written, and the other one has not read yet. -/
def Sync (most mo : Int) (AO : List (ByteArray × ByteArray)) (sz : List Int) (mi : Int) (AI : List (ByteArray × ByteArray)) : Prop :=
  (∀ x ∈ sz, 0 ≤ x ∧ x ≤ most) ∧ ((sz = [] ∧ mo = mi ∧ AO = AI) ∨ (sz ≠ [] ∧ mo = sz.getLastD 0 ∧ AO = AI.take (keepN AI (leastOf sz) AI.length)))
theorem Sync.resize {most mo : Int} {AO : List (ByteArray × ByteArray)} {sz : List Int} {mi : Int} {AI : List (ByteArray × ByteArray)} (h : Sync most mo AO sz mi AI) (s : Int) (h0 : 0 ≤ s) (h1 : s ≤ most) :
    Sync most s (AO.take (keepN AO s AO.length)) (sz ++ [s]) mi AI := by
  obtain ⟨hb, h⟩ := h
  refine ⟨fun x hx => ?_, Or.inr ⟨by simp, by simp, ?_⟩⟩
  · rcases List.mem_append.1 hx with hx | hx
    · exact hb x hx
    · simp at hx; omega
  · rcases h with ⟨rfl, rfl, rfl⟩ | ⟨hne, rfl, rfl⟩
    · rw [List.nil_append, leastOf_one]
    · rw [leastOf_snoc sz s hne]
      exact shrink_twice AI (leastOf sz) s (leastOf_bd sz most hne hb).1
theorem dc_size1 (most : Int) (k : Nat) (mi n : Int) (A : List (ByteArray × ByteArray)) (Z : List Int) (h0 : 0 ≤ n) (h1 : n ≤ most) (h2 : most ≤ 4096) :
    dcF most (k + 1) mi A [] (putL n 5 32 ++ Z) = dcF most k n (A.take (keepN A n A.length)) [] Z := by
  have hok : putOk n 5 32 := ⟨by omega, by omega, by decide, by decide, by decide, by decide, by decide⟩
  have hg := hget_put n 5 32 Z hok
  obtain ⟨z, zs, hz, hz1, hz2⟩ := hput_first n 5 32 h0 (by decide) (by decide)
  have g5 : gr 5 = 31 := by decide
  have hp := (putL_len n 5 32).1
  have hd : 31 < (putL n 5 32 ++ Z).getD 0 0 ∧ (putL n 5 32 ++ Z).getD 0 0 < 64 := by rw [hz]; simp; omega
  generalize putL n 5 32 = P at *
  show (if _ then _ else _) = _
  rw [if_neg (by rw [List.length_append]; omega), if_pos hd, hg, if_neg (by simp), if_neg (by show ¬ most < n; omega), if_neg (by simp)]
  show dcF most k n _ [] ((P ++ Z).drop ((P.length : Nat) : Int).toNat) = _
  rw [Int.toNat_natCast, List.drop_left]
/-- WHAT ONE SIDE SAYS THE OTHER ONE HEARS: the fields; and both tables are alike then. -/
theorem dc_all (most mo mi : Int) (AO AI l : List (ByteArray × ByteArray)) (sz : List Int) (h : Sync most mo AO sz mi AI) (hF : Fit mo AO) (hI : Fit mi AI) (hm : most ≤ 4096) (hs : ∀ f ∈ l, small f) (hl : l.length ≤ 40) (hw : weight l ≤ 2000) :
    dcF most ((szL sz ++ (encL mo AO l).1).length + 1) mi AI [] (szL sz ++ (encL mo AO l).1) = (l, 0, mo, (encL mo AO l).2) := by
  obtain ⟨hb, ⟨rfl, rfl, rfl⟩ | ⟨hne, he, hA⟩⟩ := h
  · have := dc_fields most mo l AO [] ((encL mo AO l).1.length + 1) hs hF (by simpa using hl) (by simpa using hw) (by omega)
    rw [List.nil_append] at this
    exact this
  · have hlb := leastOf_bd sz most hne hb
    have hla : sz.getLastD 0 ∈ sz := by
      cases sz with
      | nil => exact absurd rfl hne
      | cons x r => simp [List.getLastD]
    have hlb2 := hb _ hla
    have hp := (putL_len (leastOf sz) 5 32).1
    rw [szL_ne sz hne, List.append_assoc]
    have hkl : (putL (leastOf sz) 5 32 ++ ((if leastOf sz < sz.getLastD 0 then putL (sz.getLastD 0) 5 32 else []) ++ (encL mo AO l).1)).length + 1 = ((if leastOf sz < sz.getLastD 0 then putL (sz.getLastD 0) 5 32 else []) ++ (encL mo AO l).1).length + ((putL (leastOf sz) 5 32).length + 1) := by
      rw [List.length_append]; omega
    rw [hkl, show ((if leastOf sz < sz.getLastD 0 then putL (sz.getLastD 0) 5 32 else []) ++ (encL mo AO l).1).length + ((putL (leastOf sz) 5 32).length + 1) = (((if leastOf sz < sz.getLastD 0 then putL (sz.getLastD 0) 5 32 else []) ++ (encL mo AO l).1).length + (putL (leastOf sz) 5 32).length) + 1 by omega,
      dc_size1 most _ mi (leastOf sz) AI _ hlb.1 hlb.2 hm, ← hA]
    by_cases hlt : leastOf sz < sz.getLastD 0
    · rw [if_pos hlt]
      have hp2 := (putL_len (sz.getLastD 0) 5 32).1
      have hwA : (weight AO : Int) ≤ sz.getLastD 0 := by rw [← he]; exact hF.h2
      rw [show (putL (sz.getLastD 0) 5 32 ++ (encL mo AO l).1).length + (putL (leastOf sz) 5 32).length = ((encL mo AO l).1.length + ((putL (sz.getLastD 0) 5 32).length + (putL (leastOf sz) 5 32).length - 1)) + 1 by rw [List.length_append]; omega,
        dc_size1 most _ (leastOf sz) (sz.getLastD 0) AO _ hlb2.1 hlb2.2 hm, shrink_all AO _ hwA, ← he]
      have := dc_fields most mo l AO [] ((encL mo AO l).1.length + ((putL mo 5 32).length + (putL (leastOf sz) 5 32).length - 1)) hs hF (by simpa using hl) (by simpa using hw) (by rw [← he] at hp2; omega)
      simpa using this
    · rw [if_neg hlt, List.nil_append]
      have e : leastOf sz = mo := by
        rw [he]
        have : leastOf sz ≤ sz.getLastD 0 := by
          match sz, hne with
          | x :: r, _ =>
            rcases List.eq_nil_or_concat r with rfl | ⟨r', y, hr⟩
            · show leastOf [x] ≤ x; rw [leastOf_one]; omega
            · rw [show x :: r = (x :: r') ++ [y] by rw [hr]; simp, leastOf_snoc _ _ (by simp)]
              simp only [List.getLastD_concat]
              split <;> omega
        omega
      rw [e]
      have := dc_fields most mo l AO [] ((encL mo AO l).1.length + (putL mo 5 32).length) hs hF (by simpa using hl) (by simpa using hw) (by rw [e] at hp; omega)
      simpa using this
/-- Fields that all fit are all there, once they were said. -/
theorem enc_there : ∀ (r A : List (ByteArray × ByteArray)), weight A + weight r ≤ 4096 → (encL 4096 A r).2.length ≤ A.length + r.length ∧ (∀ f ∈ A, f ∈ (encL 4096 A r).2) ∧ ∀ f ∈ r, f ∈ alwaysL ++ (encL 4096 A r).2
  | [], A, _ => ⟨Nat.le_refl _, fun f hf => hf, fun f hf => by simp at hf⟩
  | f :: r, A, h => by
    rw [weight_cons] at h
    have hcase : ((enc1 4096 A f).2 = A ∧ f ∈ alwaysL ++ A) ∨ (enc1 4096 A f).2 = f :: A := by
      unfold enc1
      split
      · rename_i hw
        obtain ⟨z1, z2, z3⟩ := fnd_zero (isF f.1 f.2) (alwaysL ++ A) 0 (by omega)
        have hx := isF_eq z3
        refine Or.inl ⟨rfl, ?_⟩
        have hx2 : (alwaysL ++ A).getD (fnd (isF f.1 f.2) (alwaysL ++ A) 0 - 0 - 1) fnone = f := hx
        rw [← hx2, List.getD, List.getElem?_eq_getElem (by omega)]
        exact List.getElem_mem _
      · right
        show (addL A f 4096).2 = _
        unfold addL
        rw [if_neg (by omega), shrink_all A _ (by omega)]
    show (encL 4096 (enc1 4096 A f).2 r).2.length ≤ _ ∧ (∀ g ∈ A, g ∈ (encL 4096 (enc1 4096 A f).2 r).2) ∧ ∀ g ∈ f :: r, g ∈ alwaysL ++ (encL 4096 (enc1 4096 A f).2 r).2
    rcases hcase with ⟨e, hm⟩ | e
    · rw [e]
      obtain ⟨i1, i2, i3⟩ := enc_there r A (by omega)
      refine ⟨by rw [List.length_cons]; omega, i2, fun g hg => ?_⟩
      rcases List.mem_cons.1 hg with rfl | hg
      · rcases List.mem_append.1 hm with hm | hm
        · exact List.mem_append_left _ hm
        · exact List.mem_append_right _ (i2 _ hm)
      · exact i3 g hg
    · rw [e]
      obtain ⟨i1, i2, i3⟩ := enc_there r (f :: A) (by rw [weight_cons]; omega)
      rw [List.length_cons] at i1
      refine ⟨by rw [List.length_cons]; omega, fun g hg => i2 g (List.mem_cons_of_mem _ hg), fun g hg => ?_⟩
      rcases List.mem_cons.1 hg with rfl | hg
      · exact List.mem_append_right _ (i2 _ List.mem_cons_self)
      · exact i3 g hg
theorem enc1_found (mx : Int) (A : List (ByteArray × ByteArray)) (f : ByteArray × ByteArray) (hm : f ∈ alwaysL ++ A) (hl : A.length ≤ 100) : (enc1 mx A f).2 = A ∧ (enc1 mx A f).1.length = 1 := by
  obtain ⟨j, hj, he⟩ := List.getElem_of_mem hm
  have hL : (alwaysL ++ A).length = 12 + A.length := by rw [List.length_append, always_len]
  have hp : isF f.1 f.2 ((alwaysL ++ A).getD j fnone) = true := by
    rw [List.getD, List.getElem?_eq_getElem hj]
    simp only [Option.getD_some]
    rw [he]; exact isF_self f
  obtain ⟨h1, h2, _⟩ := fnd_hit (isF f.1 f.2) (alwaysL ++ A) 0 j hj hp
  have hle := fnd_le (isF f.1 f.2) (alwaysL ++ A) 0
  have g7 : gr 7 = 127 := by decide
  have e1 : enc1 mx A f = (putL (fnd (isF f.1 f.2) (alwaysL ++ A) 0 : Nat) 7 128, A) := by unfold enc1; rw [if_pos h1]
  rw [e1, putL_small _ 7 128 (by omega)]
  simp only [List.length_singleton, and_self]
theorem enc_found (mx : Int) (A : List (ByteArray × ByteArray)) (hl : A.length ≤ 100) : ∀ (r : List (ByteArray × ByteArray)), (∀ f ∈ r, f ∈ alwaysL ++ A) → (encL mx A r).2 = A ∧ (encL mx A r).1.length = r.length
  | [], _ => ⟨rfl, rfl⟩
  | f :: r, h => by
    obtain ⟨h1, h2⟩ := enc1_found mx A f (h f List.mem_cons_self) hl
    obtain ⟨i1, i2⟩ := enc_found mx A hl r (fun g hg => h g (List.mem_cons_of_mem _ hg))
    show (encL mx (enc1 mx A f).2 r).2 = A ∧ ((enc1 mx A f).1 ++ (encL mx (enc1 mx A f).2 r).1).length = _
    rw [h1, List.length_append, h2, i2, List.length_cons]
    exact ⟨i1, by omega⟩
end Go.Proofs.YtkjfhgoddhigmacDoor
/-
  CONTRACT of the method Add of the developers' table; all its contracts together. No claim by itself.
-/
namespace Go.Proofs.YtkjfhgoddhigmacDoor
open Go.RowKit
set_option maxRecDepth 100000 in
set_option maxHeartbeats 4000000 in
theorem add_over (tb : Nat) (max : Int) (A : List (ByteArray × ByteArray)) (S : Nat → Prop) (n v : ByteArray) (w : World) (hD : TabP w tb max A S) (hF : Fit max A) (hnv : n.size + v.size ≤ 1152921504606846976) (hgt0 : max < (fsize (n, v) : Int)) :
    Calls Tryd.prog 27 #[.pointer (some ⟨tb, 0, none⟩), .agg #[.string n, .string v]] w fun e w' => e = .returned (.bool false) ∧ Off S w w' ∧ TabP w' tb max [] S := by
  have hw : weight A ≤ 4096 := by have h1 := hF.h1; have h2 := hF.h2; omega
  obtain ⟨W1, hW1⟩ : ∃ W1, W1 = (w.alloc (.cells #[.string n, .string v] 33)).alloc (.cells #[.string n, .string v] 33) := ⟨_, rfl⟩
  have hb1 : Below w.heap.size w W1 := by rw [hW1]; exact ((Below.refl _ _).alloc (Nat.le_refl _) _).alloc (by simp) _
  have hD1 := tabKeeps.below hD hb1
  have c0 : W1.cell? ⟨tb, 0, none⟩ = some (.int .i64 max) := by
    obtain ⟨_, v1, hb, _⟩ := hD1
    rw [cell_at hb]; rfl
  have hsh := shrink_any tb max 0 A S W1 hD1 hw (Int.le_refl _)
  rw [keepN_zero A A.length (Nat.le_refl _), List.take_zero] at hsh
  obtain ⟨y, hy⟩ : ∃ y, fsize (n, v) = y := ⟨_, rfl⟩
  rw [hy] at hgt0
  have HY := hide hy
  have HB := hide hb1
  have HSH := hide hsh
  have hgt : decide (max < (y : Int)) = true := by simpa using hgt0
  clear hD hD1 hy hF hw hb1 hsh
  go_enter Tryd.func27, Tryd.ntmps27
  go_wp2_with fail
  refine (sizeof_any n v _ hnv).mono ?_
  rintro e w' ⟨rfl, rfl⟩
  rw [HY.out, ← hW1]
  clear hW1
  go_wp2_with fail
  refine HSH.out.mono ?_
  rintro e w2 ⟨rfl, hoff, hD2⟩
  have HO := hide hoff
  have HD2 := hide hD2
  clear hoff hD2
  go_wp2
  go_ret
  exact ⟨rfl, (Off.of_below HB.out).trans HO.out, HD2.out⟩
end Go.Proofs.YtkjfhgoddhigmacDoor
