/-
  WHERETO, as mathematics: routes, what is wrong with them, how they are written and read, which one is found. No claim by itself.
-/
import Derived.Test.YtibipnipeaeonaaGreatDoorMA
namespace Go.Proofs.YtibipnipeaeonaaGreatDoor
set_option maxRecDepth 100000
abbrev Rt := List Int × List Int × List Int
def rt0 : Rt := ([], [], [])
def rtOk (r : Rt) : Bool := (r.1.isEmpty || (wordL r.1 && !decide (r.1 = [42]))) && (wordL r.2.1 && decide (r.2.1.headD 0 = 47)) && tokL r.2.2
def sameR (r o : Rt) : Bool := decide (o.1 = r.1) && decide (o.2.1 = r.2.1)
def oneE (A : List Rt) (r : Rt) : Int := if rtOk r = true then (if A.any (sameR r) = true then 7 else 0) else 2
def chkGo (A : List Rt) : List Rt → Int
  | [] => 0
  | r :: l => if oneE A r = 0 then chkGo (A ++ [r]) l else oneE A r
def chkR (l : List Rt) : Int := if 20 < l.length then 4 else chkGo [] l
theorem chkGo_at (L : List Rt) (k : Nat) (h : k < L.length) : chkGo (L.take k) (L.drop k) = if oneE (L.take k) (L.getD k rt0) = 0 then chkGo (L.take (k + 1)) (L.drop (k + 1)) else oneE (L.take k) (L.getD k rt0) := by
  rw [List.drop_eq_getElem_cons h, chkGo, List.getD, List.getElem?_eq_getElem h, List.take_add_one, List.getElem?_eq_getElem h]
  rfl
theorem chkGo_end (L : List Rt) : chkGo (L.take L.length) (L.drop L.length) = 0 := by simp [chkGo]
theorem oneE_vals (A : List Rt) (r : Rt) : oneE A r = 0 ∨ oneE A r = 2 ∨ oneE A r = 7 := by
  unfold oneE
  split
  · split
    · exact Or.inr (Or.inr rfl)
    · exact Or.inl rfl
  · exact Or.inr (Or.inl rfl)
theorem chkGo_vals : ∀ (l A : List Rt), chkGo A l = 0 ∨ chkGo A l = 2 ∨ chkGo A l = 7
  | [], _ => Or.inl rfl
  | r :: l, A => by
    unfold chkGo
    split
    · exact chkGo_vals l _
    · exact oneE_vals A r
theorem chkR_vals (l : List Rt) : chkR l = 0 ∨ chkR l = 2 ∨ chkR l = 4 ∨ chkR l = 7 := by
  unfold chkR
  split
  · exact Or.inr (Or.inr (Or.inl rfl))
  · rcases chkGo_vals l [] with h | h | h
    · exact Or.inl h
    · exact Or.inr (Or.inl h)
    · exact Or.inr (Or.inr (Or.inr h))
theorem chkR_le {l : List Rt} (h : chkR l = 0) : l.length ≤ 20 ∧ chkGo [] l = 0 := by
  unfold chkR at h
  split at h
  · omega
  · exact ⟨by omega, h⟩
theorem chkGo_each : ∀ (l A : List Rt), chkGo A l = 0 → ∀ k, k < l.length → oneE (A ++ l.take k) (l.getD k rt0) = 0
  | [], _, _, k, h => by simp at h
  | r :: l, A, h0, k, h => by
    unfold chkGo at h0
    split at h0
    · rename_i h1
      match k with
      | 0 => simpa using h1
      | k + 1 =>
        have := chkGo_each l (A ++ [r]) h0 k (by simpa using h)
        simpa using this
    · rename_i h1
      exact absurd h0 h1
theorem oneE_zero {A : List Rt} {r : Rt} (h : oneE A r = 0) : rtOk r = true ∧ A.any (sameR r) = false := by
  unfold oneE at h
  split at h
  · rename_i h1
    split at h
    · omega
    · rename_i h2
      exact ⟨h1, by simpa using h2⟩
  · omega
theorem chk_at {l : List Rt} (h : chkR l = 0) (k : Nat) (hk : k < l.length) : rtOk (l.getD k rt0) = true ∧ (l.take k).any (sameR (l.getD k rt0)) = false := by
  have := chkGo_each l [] (chkR_le h).2 k hk
  rw [List.nil_append] at this
  exact oneE_zero this
theorem chk_apart {l : List Rt} (h : chkR l = 0) {i j : Nat} (hij : i < j) (hj : j < l.length) : ¬ ((l.getD i rt0).1 = (l.getD j rt0).1 ∧ (l.getD i rt0).2.1 = (l.getD j rt0).2.1) := by
  rintro ⟨e1, e2⟩
  have h1 := (chk_at h j hj).2
  rw [List.any_eq_false] at h1
  have hm : l.getD i rt0 ∈ l.take j := by
    rw [List.getD, List.getElem?_eq_getElem (by omega)]
    exact List.mem_take_iff_getElem.2 ⟨i, by omega, rfl⟩
  have := h1 _ hm
  unfold sameR at this
  rw [e1, e2] at this
  simp at this
theorem rtOk_path {r : Rt} (h : rtOk r = true) : r.2.1 ≠ [] ∧ r.2.1.headD 0 = 47 ∧ wordL r.2.1 = true := by
  unfold rtOk at h
  simp only [Bool.and_eq_true, decide_eq_true_eq] at h
  refine ⟨fun e => ?_, h.1.2.2, h.1.2.1⟩
  have := h.1.2.2
  rw [e] at this
  simp at this
/- which one is found -/
def leadsL (p path : List Int) : Bool := p.isPrefixOf path && (decide (path.length = p.length) || decide (path.getD p.length 0 = 47) || decide (p.getLastD 0 = 47))
def fitsR (host path : List Int) (r : Rt) : Bool := (decide (r.1 = host) || decide (r.1 = [])) && leadsL r.2.1 path
def lessR (a b : Rt) : Prop := a.2.1.length < b.2.1.length ∨ (a.2.1.length = b.2.1.length ∧ a.1 = [] ∧ b.1 ≠ [])
def BestIn (L : List Rt) (host path : List Int) (n : Nat) : Option Nat → Prop
  | none => ∀ j, j < n → fitsR host path (L.getD j rt0) = false
  | some k => k < n ∧ fitsR host path (L.getD k rt0) = true ∧ ∀ j, j < n → fitsR host path (L.getD j rt0) = true → j ≠ k → lessR (L.getD j rt0) (L.getD k rt0)
theorem best_zero (L : List Rt) (host path : List Int) : BestIn L host path 0 none := fun j hj => by omega
theorem best_one {L : List Rt} {host path : List Int} {n : Nat} {a b : Option Nat} (h : BestIn L host path n a) (k : BestIn L host path n b) : a = b := by
  match a, b, h, k with
  | none, none, _, _ => rfl
  | none, some y, h, k => have := h y k.1; rw [k.2.1] at this; cases this
  | some x, none, h, k => have := k x h.1; rw [h.2.1] at this; cases this
  | some x, some y, h, k =>
    by_cases e : x = y
    · rw [e]
    · have h1 := h.2.2 y k.1 k.2.1 (fun q => e q.symm)
      have h2 := k.2.2 x h.1 h.2.1 e
      rcases h1 with h1 | ⟨h1, h3, h4⟩ <;> rcases h2 with h2 | ⟨h2, h5, h6⟩
      · omega
      · omega
      · omega
      · exact absurd h5 h4
theorem best_skip {L : List Rt} {host path : List Int} {n : Nat} {o : Option Nat} (h : BestIn L host path n o) (hn : fitsR host path (L.getD n rt0) = false) : BestIn L host path (n + 1) o := by
  match o, h with
  | none, h =>
    intro j hj
    by_cases e : j = n
    · rw [e]; exact hn
    · exact h j (by omega)
  | some k, h =>
    refine ⟨by have := h.1; omega, h.2.1, fun j hj hf hne => ?_⟩
    by_cases e : j = n
    · rw [e, hn] at hf; cases hf
    · exact h.2.2 j (by omega) hf hne
theorem best_first {L : List Rt} {host path : List Int} {n : Nat} (h : BestIn L host path n none) (hn : fitsR host path (L.getD n rt0) = true) : BestIn L host path (n + 1) (some n) := by
  refine ⟨by omega, hn, fun j hj hf hne => ?_⟩
  have := h j (by omega)
  rw [this] at hf
  cases hf
theorem best_longer {L : List Rt} {host path : List Int} {n k : Nat} (h : BestIn L host path n (some k)) (hn : fitsR host path (L.getD n rt0) = true) (hl : (L.getD k rt0).2.1.length < (L.getD n rt0).2.1.length) : BestIn L host path (n + 1) (some n) := by
  refine ⟨by omega, hn, fun j hj hf hne => Or.inl ?_⟩
  by_cases e : j = k
  · rw [e]; exact hl
  · rcases h.2.2 j (by omega) hf e with h1 | ⟨h1, _⟩ <;> omega
theorem best_shorter {L : List Rt} {host path : List Int} {n k : Nat} (h : BestIn L host path n (some k)) (hl : (L.getD n rt0).2.1.length < (L.getD k rt0).2.1.length) : BestIn L host path (n + 1) (some k) := by
  refine ⟨by have := h.1; omega, h.2.1, fun j hj hf hne => ?_⟩
  by_cases e : j = n
  · rw [e]; exact Or.inl hl
  · exact h.2.2 j (by omega) hf hne
theorem best_host {L : List Rt} {host path : List Int} {n k : Nat} (h : BestIn L host path n (some k)) (hn : fitsR host path (L.getD n rt0) = true) (hl : (L.getD k rt0).2.1.length = (L.getD n rt0).2.1.length) (h1 : (L.getD k rt0).1 = []) (h2 : (L.getD n rt0).1 ≠ []) : BestIn L host path (n + 1) (some n) := by
  refine ⟨by omega, hn, fun j hj hf hne => ?_⟩
  by_cases e : j = k
  · rw [e]; exact Or.inr ⟨hl, h1, h2⟩
  · rcases h.2.2 j (by omega) hf e with h3 | ⟨_, _, h3⟩
    · exact Or.inl (by omega)
    · exact absurd h1 h3
theorem best_stays {L : List Rt} {host path : List Int} {n k : Nat} (h : BestIn L host path n (some k)) (hl : (L.getD k rt0).2.1.length = (L.getD n rt0).2.1.length) (h1 : (L.getD k rt0).1 ≠ []) (h2 : (L.getD n rt0).1 = []) : BestIn L host path (n + 1) (some k) := by
  refine ⟨by have := h.1; omega, h.2.1, fun j hj hf hne => ?_⟩
  by_cases e : j = n
  · rw [e]; exact Or.inr ⟨hl.symm, h2, h1⟩
  · exact h.2.2 j (by omega) hf hne
theorem leads_pre {p path : List Int} (h : leadsL p path = true) : ∃ r, path = p ++ r := by
  unfold leadsL at h
  simp only [Bool.and_eq_true] at h
  obtain ⟨t, ht⟩ := List.isPrefixOf_iff_prefix.1 h.1
  exact ⟨t, ht.symm⟩
theorem fits_pre {host path : List Int} {r : Rt} (h : fitsR host path r = true) : (r.1 = host ∨ r.1 = []) ∧ ∃ t, path = r.2.1 ++ t := by
  unfold fitsR at h
  simp only [Bool.and_eq_true, Bool.or_eq_true, decide_eq_true_eq] at h
  exact ⟨h.1, leads_pre h.2⟩
/-- Of two that fit and are as long one alone has a host. -/
theorem fits_apart {L : List Rt} (hc : chkR L = 0) {host path : List Int} {k n : Nat} (hkn : k < n) (hn : n < L.length) (h : fitsR host path (L.getD k rt0) = true) (g : fitsR host path (L.getD n rt0) = true) (hl : (L.getD k rt0).2.1.length = (L.getD n rt0).2.1.length) :
    ((L.getD k rt0).1 = [] ∧ (L.getD n rt0).1 ≠ []) ∨ ((L.getD k rt0).1 ≠ [] ∧ (L.getD n rt0).1 = []) := by
  obtain ⟨h1, t, ht⟩ := fits_pre h
  obtain ⟨g1, u, hu⟩ := fits_pre g
  have hp : (L.getD k rt0).2.1 = (L.getD n rt0).2.1 := by
    rw [hu] at ht
    exact (List.append_inj_left ht hl.symm).symm
  have hne := chk_apart hc hkn hn
  by_cases e : (L.getD k rt0).1 = []
  · refine Or.inl ⟨e, fun e2 => hne ⟨e.trans e2.symm, hp⟩⟩
  · rcases h1 with h1 | h1
    · rcases g1 with g1 | g1
      · exact absurd ⟨h1.trans g1.symm, hp⟩ hne
      · exact Or.inr ⟨e, g1⟩
    · exact absurd h1 e
def restR (p path : List Int) : List Int := if (path.drop p.length).headD 0 = 47 then path.drop p.length else 47 :: path.drop p.length
/- how they are written -/
def lineR (r : Rt) : List Int := (if r.1 = [] then [42] else r.1) ++ ([32] ++ (r.2.1 ++ ([32] ++ (r.2.2 ++ [10]))))
def printL (l : List Rt) : List Int := l.flatMap lineR
theorem printL_at (L : List Rt) (k : Nat) (h : k < L.length) : printL (L.take (k + 1)) = printL (L.take k) ++ lineR (L.getD k rt0) := by
  unfold printL
  rw [List.take_add_one, List.getElem?_eq_getElem h, List.flatMap_append, List.getD, List.getElem?_eq_getElem h]
  simp
/- how they are read -/
def hdC (c : Int) : List (List Int) → List (List Int)
  | [] => [[c]]
  | x :: l => (c :: x) :: l
def cut1 (c : Int) : List Int → List (List Int)
  | [] => [[]]
  | x :: r => if x = c then [] :: cut1 c r else hdC x (cut1 c r)
theorem cut1_ne (c : Int) : ∀ s, cut1 c s ≠ []
  | [] => by simp [cut1]
  | x :: r => by
    unfold cut1
    split
    · simp
    · cases h : cut1 c r <;> simp [hdC]
theorem cut1_cons (c x : Int) (r : List Int) : cut1 c (x :: r) = if x = c then [] :: cut1 c r else hdC x (cut1 c r) := rfl
theorem cut1_no (c : Int) : ∀ s, c ∉ s → cut1 c s = [s]
  | [], _ => rfl
  | x :: r, h => by
    unfold cut1
    rw [if_neg (fun e => h (by rw [e]; simp)), cut1_no c r (fun e => h (by simp [e]))]
    rfl
theorem cut1_at (c : Int) : ∀ (a r : List Int), c ∉ a → cut1 c (a ++ c :: r) = a :: cut1 c r
  | [], r, _ => by simp [cut1]
  | x :: a, r, h => by
    show cut1 c (x :: (a ++ c :: r)) = _
    rw [cut1_cons, if_neg (fun e => h (by rw [e]; simp)), cut1_at c a r (fun e => h (by simp [e]))]
    rfl
theorem mem_first (c : Int) : ∀ s : List Int, c ∈ s → ∃ a r, s = a ++ c :: r ∧ c ∉ a
  | [], h => by simp at h
  | x :: l, h => by
    by_cases ex : x = c
    · exact ⟨[], l, by rw [ex]; rfl, by simp⟩
    · obtain ⟨a, r, e, hn⟩ := mem_first c l (by rcases List.mem_cons.1 h with h | h; exact absurd h.symm ex; exact h)
      exact ⟨x :: a, r, by rw [e]; rfl, by simp [hn, Ne.symm ex]⟩
/-- A text falls into what stands ahead of the first such byte, and what stands behind it; or has none. -/
theorem cut1_cases (c : Int) (s : List Int) : (c ∉ s ∧ cut1 c s = [s]) ∨ ∃ a r, s = a ++ c :: r ∧ c ∉ a ∧ cut1 c s = a :: cut1 c r := by
  by_cases h : c ∈ s
  · obtain ⟨a, r, e, hn⟩ := mem_first c s h
    exact Or.inr ⟨a, r, e, hn, by rw [e]; exact cut1_at c a r hn⟩
  · exact Or.inl ⟨h, cut1_no c s h⟩
/-- .. at most so often. -/
def cutN (c : Int) : Nat → List Int → List (List Int)
  | 0, s => [s]
  | k + 1, s => match cut1 c s with
    | [] => [s]
    | [_] => [s]
    | a :: _ :: _ => a :: cutN c k (s.drop (a.length + 1))
theorem cutN_succ (c : Int) (k : Nat) (s : List Int) : cutN c (k + 1) s = match cut1 c s with
    | [] => [s]
    | [_] => [s]
    | a :: _ :: _ => a :: cutN c k (s.drop (a.length + 1)) := rfl
theorem cutN_no (c : Int) (k : Nat) {s : List Int} (h : c ∉ s) : cutN c k s = [s] := by
  cases k with
  | zero => rfl
  | succ k => unfold cutN; rw [cut1_no c s h]
theorem cutN_at (c : Int) (k : Nat) {a r : List Int} (h : c ∉ a) : cutN c (k + 1) (a ++ c :: r) = a :: cutN c k r := by
  rw [cutN_succ, cut1_at c a r h]
  cases h2 : cut1 c r with
  | nil => exact absurd h2 (cut1_ne c r)
  | cons x l =>
    show a :: cutN c k ((a ++ c :: r).drop (a.length + 1)) = _
    simp
theorem cutN_len (c : Int) : ∀ (k : Nat) (s : List Int), (cutN c k s).length ≤ k → cutN c k s = cut1 c s
  | 0, s, h => by simp [cutN] at h
  | k + 1, s, h => by
    rcases cut1_cases c s with ⟨h1, h2⟩ | ⟨a, r, e, h1, h2⟩
    · rw [cutN_no c _ h1, h2]
    · rw [e, cutN_at c k h1] at h ⊢
      rw [cut1_at c a r h1, cutN_len c k r (by simpa using h)]
theorem cut1_len (c : Int) : ∀ (k : Nat) (s : List Int), (cut1 c s).length ≤ k → cutN c k s = cut1 c s
  | 0, s, h => by have := List.length_pos_iff.2 (cut1_ne c s); omega
  | k + 1, s, h => by
    rcases cut1_cases c s with ⟨h1, h2⟩ | ⟨a, r, e, h1, h2⟩
    · rw [cutN_no c _ h1, h2]
    · rw [e, cut1_at c a r h1] at h ⊢
      rw [cutN_at c k h1, cut1_len c k r (by simpa using h)]
theorem cutN_le (c : Int) : ∀ (k : Nat) (s : List Int), (cutN c k s).length ≤ k + 1 ∧ 1 ≤ (cutN c k s).length
  | 0, s => by simp [cutN]
  | k + 1, s => by
    rcases cut1_cases c s with ⟨h1, h2⟩ | ⟨a, r, e, h1, h2⟩
    · rw [cutN_no c _ h1]; simp
    · rw [e, cutN_at c k h1]
      have := cutN_le c k r
      simp; omega
def endNl (s : List Int) : Bool := decide (s.getLastD 0 = 10)
def cutNl (s : List Int) : List Int := if endNl s = true then s.dropLast else s
/-- A line, with its end: what is wrong with it, and its route. -/
def wordsP (L : List Rt) : List (List Int) → Int × Rt
  | [a, b, c] => if 20 ≤ L.length then (4, rt0) else if a = [] then (2, rt0) else if oneE L (if a = [42] then [] else a, b, c) = 0 then (0, (if a = [42] then [] else a, b, c)) else (oneE L (if a = [42] then [] else a, b, c), rt0)
  | _ => (2, rt0)
def lineP (L : List Rt) (s : List Int) : Int × Rt := if endNl s = true then wordsP L (cut1 32 (cutNl s)) else (2, rt0)
theorem wordsP_three (L : List Rt) (a b c : List Int) : wordsP L [a, b, c] = if 20 ≤ L.length then (4, rt0) else if a = [] then (2, rt0) else if oneE L (if a = [42] then [] else a, b, c) = 0 then (0, (if a = [42] then [] else a, b, c)) else (oneE L (if a = [42] then [] else a, b, c), rt0) := rfl
theorem wordsP_not {L : List Rt} {l : List (List Int)} (h : l.length ≠ 3) : wordsP L l = (2, rt0) := by
  match l, h with
  | [], _ => rfl
  | [_], _ => rfl
  | [_, _], _ => rfl
  | [_, _, _], h => simp at h
  | _ :: _ :: _ :: _ :: _, _ => rfl
theorem wordsP_cutN (L : List Rt) (s : List Int) : wordsP L (cutN 32 3 s) = wordsP L (cut1 32 s) := by
  by_cases h : (cutN 32 3 s).length = 3
  · rw [cutN_len 32 3 s (by omega)]
  · rw [wordsP_not h]
    by_cases g : (cut1 32 s).length = 3
    · rw [cut1_len 32 3 s (by omega)] at h
      exact absurd g h
    · rw [wordsP_not g]
def parseLs (L : List Rt) : List (List Int) → Int × List Rt × Nat
  | [] => (0, L, 0)
  | s :: ls => if (lineP L s).1 = 0 then parseLs (L ++ [(lineP L s).2]) ls else ((lineP L s).1, [], L.length)
def lnsOf : List (List Int) → List (List Int)
  | [] => []
  | [p] => if p = [] then [] else [p]
  | p :: q :: l => (p ++ [10]) :: lnsOf (q :: l)
def linesF (T : List Int) : List (List Int) := lnsOf (cut1 10 T)
def parseR (T : List Int) : Int × List Rt × Nat := parseLs [] (linesF T)
theorem lns_cons {p : List Int} {l : List (List Int)} (h : l ≠ []) : lnsOf (p :: l) = (p ++ [10]) :: lnsOf l := by
  match l, h with
  | [], h => exact absurd rfl h
  | q :: l, _ => rfl
theorem lines_nil : linesF [] = [] := rfl
theorem lines_last {T : List Int} (h : 10 ∉ T) (hT : T ≠ []) : linesF T = [T] := by
  unfold linesF
  rw [cut1_no 10 T h]
  simp [lnsOf, hT]
theorem lines_at {a r : List Int} (h : 10 ∉ a) : linesF (a ++ 10 :: r) = (a ++ [10]) :: linesF r := by
  unfold linesF
  rw [cut1_at 10 a r h, lns_cons (cut1_ne 10 r)]
theorem lines_all : ∀ (n : Nat) (T : List Int), T.length ≤ n → (linesF T).flatten = T
  | 0, T, h => by
    have : T = [] := List.length_eq_zero_iff.1 (by omega)
    rw [this]; rfl
  | n + 1, T, h => by
    rcases cut1_cases 10 T with ⟨h1, _⟩ | ⟨a, r, e, h1, _⟩
    · by_cases hT : T = []
      · rw [hT]; rfl
      · rw [lines_last h1 hT]; simp
    · rw [e, lines_at h1, List.flatten_cons, lines_all n r (by rw [e] at h; simp at h; omega)]
      simp
/- what is printed is read as it was -/
theorem word_no {s : List Int} (h : wordL s = true) : (32 : Int) ∉ s ∧ (10 : Int) ∉ s ∧ s ≠ [] := by
  unfold wordL plainL at h
  simp only [Bool.and_eq_true, List.all_eq_true] at h
  refine ⟨fun e => ?_, fun e => ?_, fun e => ?_⟩
  · have := h.1.1 _ e; simp at this
  · have := h.1.2.1 _ e; simp [ok3] at this
  · rw [e] at h; simp at h
theorem tok_no {s : List Int} (h : tokL s = true) : (32 : Int) ∉ s ∧ (10 : Int) ∉ s ∧ s ≠ [] := by
  unfold tokL at h
  simp only [Bool.and_eq_true, List.all_eq_true] at h
  refine ⟨fun e => ?_, fun e => ?_, fun e => ?_⟩
  · have := h.1.1 _ e; simp [ok0, isSmall, isGreat] at this
  · have := h.1.1 _ e; simp [ok0, isSmall, isGreat] at this
  · rw [e] at h; simp at h
theorem rtOk_parts {r : Rt} (h : rtOk r = true) : (r.1 = [] ∨ (wordL r.1 = true ∧ r.1 ≠ [42])) ∧ wordL r.2.1 = true ∧ tokL r.2.2 = true := by
  unfold rtOk at h
  simp only [Bool.and_eq_true, Bool.or_eq_true, List.isEmpty_iff, Bool.not_eq_true', decide_eq_false_iff_not] at h
  exact ⟨h.1.1, h.1.2.1, h.2⟩
/-- A line that is printed. -/
theorem line_cut {r : Rt} (h : rtOk r = true) : ∃ a, (if r.1 = [] then [42] else r.1) = a ∧ a ≠ [] ∧ (if a = [42] then [] else a) = r.1 ∧ (32 : Int) ∉ a ∧ (10 : Int) ∉ a := by
  obtain ⟨h1, _, _⟩ := rtOk_parts h
  by_cases e : r.1 = []
  · exact ⟨[42], by rw [if_pos e], by simp, by rw [if_pos rfl, e], by simp, by simp⟩
  · rcases h1 with h1 | ⟨h1, h2⟩
    · exact absurd h1 e
    · obtain ⟨w1, w2, w3⟩ := word_no h1
      exact ⟨r.1, by rw [if_neg e], w3, by rw [if_neg h2], w1, w2⟩
theorem endNl_app (a : List Int) : endNl (a ++ [10]) = true := by unfold endNl; simp [List.getLastD_eq_getLast?]
theorem cutNl_app (a : List Int) : cutNl (a ++ [10]) = a := by unfold cutNl; rw [if_pos (endNl_app a)]; simp
theorem lineR_form (r : Rt) : lineR r = ((if r.1 = [] then [42] else r.1) ++ 32 :: (r.2.1 ++ 32 :: r.2.2)) ++ [10] := by unfold lineR; simp
theorem lineP_line {A : List Rt} {r : Rt} (h : oneE A r = 0) (hA : A.length < 20) : lineP A (lineR r) = (0, r) := by
  obtain ⟨hok, _⟩ := oneE_zero h
  obtain ⟨_, hp, ht⟩ := rtOk_parts hok
  obtain ⟨a, ea, hne, hb, n32, n10⟩ := line_cut hok
  obtain ⟨p32, _, _⟩ := word_no hp
  obtain ⟨t32, _, _⟩ := tok_no ht
  unfold lineP
  rw [lineR_form, ea, if_pos (endNl_app _), cutNl_app, cut1_at 32 a _ n32, cut1_at 32 _ _ p32, cut1_no 32 _ t32]
  rw [wordsP_three, if_neg (by omega), if_neg hne, hb]
  show (if oneE A r = 0 then (0, r) else _) = _
  rw [if_pos h]
theorem lines_line {r : Rt} (h : rtOk r = true) (t : List Int) : linesF (lineR r ++ t) = lineR r :: linesF t := by
  obtain ⟨_, hp, ht⟩ := rtOk_parts h
  obtain ⟨a, ea, hne, hb, n32, n10⟩ := line_cut h
  obtain ⟨_, p10, _⟩ := word_no hp
  obtain ⟨_, t10, _⟩ := tok_no ht
  rw [lineR_form, ea, List.append_assoc]
  exact lines_at (by simp [n10, p10, t10])
theorem parse_print : ∀ (l A : List Rt), chkGo A l = 0 → A.length + l.length ≤ 20 → parseLs A (linesF (printL l)) = (0, A ++ l, 0)
  | [], A, _, _ => by simp [printL, linesF, cut1, lnsOf, parseLs]
  | r :: l, A, h, hn => by
    unfold chkGo at h
    split at h
    · rename_i h1
      show parseLs A (linesF (lineR r ++ printL l)) = _
      rw [lines_line (oneE_zero h1).1]
      unfold parseLs
      rw [lineP_line h1 (by simp at hn; omega), if_pos rfl, parse_print l (A ++ [r]) h (by simp at hn ⊢; omega)]
      simp
    · rename_i h1
      exact absurd h h1
theorem parseR_print {l : List Rt} (h : chkR l = 0) : parseR (printL l) = (0, l, 0) := by
  have := parse_print l [] (chkR_le h).2 (by have := (chkR_le h).1; simpa using this)
  simpa [parseR] using this
theorem join_cut1 {c : Int} {s x y z : List Int} (h : cut1 c s = [x, y, z]) : s = x ++ c :: (y ++ c :: z) := by
  rcases cut1_cases c s with ⟨_, h2⟩ | ⟨a, r, e, _, h2⟩
  · rw [h2] at h; simp at h
  · rw [h2] at h
    simp only [List.cons.injEq] at h
    obtain ⟨rfl, h⟩ := h
    rcases cut1_cases c r with ⟨_, h4⟩ | ⟨a2, r2, e2, _, h4⟩
    · rw [h4] at h; simp at h
    · rw [h4] at h
      simp only [List.cons.injEq] at h
      obtain ⟨rfl, h⟩ := h
      rcases cut1_cases c r2 with ⟨_, h6⟩ | ⟨a3, r3, e3, _, h6⟩
      · rw [h6] at h
        simp only [List.cons.injEq, and_true] at h
        rw [e, e2, h]
      · rw [h6] at h
        simp only [List.cons.injEq] at h
        exact absurd h.2 (cut1_ne c r3)
theorem lineP_ok {A : List Rt} {s : List Int} {r : Rt} (h : lineP A s = (0, r)) : oneE A r = 0 ∧ A.length < 20 ∧ lineR r = s := by
  unfold lineP at h
  split at h
  · rename_i he
    cases hw : cut1 32 (cutNl s) with
    | nil => exact absurd hw (cut1_ne _ _)
    | cons x l =>
      rw [hw] at h
      match l, hw, h with
      | [], _, h => simp [wordsP] at h
      | [y], _, h => simp [wordsP] at h
      | y :: z :: u :: l, _, h => simp [wordsP] at h
      | [y, z], hw, h =>
        rw [wordsP_three] at h
        split at h
        · simp at h
        · rename_i h20
          split at h
          · simp at h
          · rename_i hx
            obtain ⟨X, hX⟩ : ∃ X, (if x = [42] then [] else x) = X := ⟨_, rfl⟩
            rw [hX] at h
            split at h
            · rename_i h1
              have h := (Prod.mk.inj h).2
              have hr : r = (X, y, z) := h.symm
              rw [← hr] at h1
              refine ⟨h1, by omega, ?_⟩
              have hj := join_cut1 hw
              have hs : s = cutNl s ++ [10] := by
                unfold cutNl
                rw [if_pos he]
                unfold endNl at he
                have hl : s ≠ [] := fun e => by rw [e] at he; simp at he
                have hg : s.getLast hl = 10 := by
                  rw [List.getLastD_eq_getLast?, List.getLast?_eq_some_getLast hl] at he
                  simpa using he
                have := List.dropLast_concat_getLast hl
                rw [hg] at this
                exact this.symm
              have hf : (if r.1 = [] then [42] else r.1) = x := by
                rw [hr, ← hX]
                by_cases e : x = [42]
                · simp [e]
                · simp [e, hx]
              rw [lineR_form, hf, hr]
              show (x ++ 32 :: (y ++ 32 :: z)) ++ [10] = s
              rw [← hj]
              exact hs.symm
            · rename_i h1
              exact absurd (Prod.mk.inj h).1 h1
  · simp at h
theorem parse_ok : ∀ (ls : List (List Int)) (A : List Rt) {L : List Rt} {n : Nat}, parseLs A ls = (0, L, n) → A.length ≤ 20 → ∃ M, L = A ++ M ∧ chkGo A M = 0 ∧ L.length ≤ 20 ∧ printL M = ls.flatten ∧ n = 0
  | [], A, L, n, h, hA => by
    simp only [parseLs, Prod.mk.injEq, true_and] at h
    exact ⟨[], by simp [h.1], rfl, by rw [← h.1]; exact hA, rfl, h.2.symm⟩
  | s :: ls, A, L, n, h, hA => by
    unfold parseLs at h
    split at h
    · rename_i h1
      obtain ⟨r, hr⟩ : ∃ r, (lineP A s).2 = r := ⟨_, rfl⟩
      have hl : lineP A s = (0, r) := by rw [← h1, ← hr]
      obtain ⟨e1, e2, e3⟩ := lineP_ok hl
      rw [hr] at h
      obtain ⟨M, m1, m2, m3, m4, m5⟩ := parse_ok ls (A ++ [r]) h (by simp; omega)
      refine ⟨r :: M, by rw [m1]; simp, ?_, m3, ?_, m5⟩
      · unfold chkGo; rw [if_pos e1]; exact m2
      · show lineR r ++ printL M = _
        rw [e3, m4]; rfl
    · rename_i h1
      simp only [Prod.mk.injEq] at h
      exact absurd h.1 h1
theorem parseR_ok {T : List Int} {L : List Rt} {n : Nat} (h : parseR T = (0, L, n)) : chkR L = 0 ∧ printL L = T ∧ n = 0 := by
  obtain ⟨M, m1, m2, m3, m4, m5⟩ := parse_ok _ [] h (by simp)
  rw [List.nil_append] at m1
  subst m1
  refine ⟨?_, by rw [m4]; exact lines_all _ T (Nat.le_refl _), m5⟩
  unfold chkR
  rw [if_neg (by omega)]
  exact m2
/-- Who asks for a route's own path, of its host, gets one that is as long. -/
theorem best_own {L : List Rt} {i : Nat} (hi : i < L.length) {o : Option Nat} (h : BestIn L (L.getD i rt0).1 (L.getD i rt0).2.1 L.length o) : ∃ k, o = some k ∧ k < L.length ∧ (L.getD k rt0).2.1.length = (L.getD i rt0).2.1.length := by
  have hf : fitsR (L.getD i rt0).1 (L.getD i rt0).2.1 (L.getD i rt0) = true := by
    unfold fitsR leadsL
    simp
  match o, h with
  | none, h => have := h i hi; rw [hf] at this; cases this
  | some k, h =>
    refine ⟨k, rfl, h.1, ?_⟩
    obtain ⟨_, t, ht⟩ := fits_pre h.2.1
    have h1 : (L.getD i rt0).2.1.length = (L.getD k rt0).2.1.length + t.length := by rw [ht]; simp
    by_cases e : i = k
    · rw [e]
    · rcases h.2.2 i hi hf e with h2 | ⟨h2, _⟩ <;> omega
end Go.Proofs.YtibipnipeaeonaaGreatDoor
