/-
  FROM THE ONE TO THE OTHER: what the library's cutting and putting together of texts come to, of lists. No claim by itself.
-/
import Derived.Lib.Split
import Derived.Lib.Join
import Derived.Lib.Atoi
import Derived.Test.YtglmppadhlkkgagGreatDoorG4
import Derived.Test.YtglmppadhlkkgagGreatDoorNdv1X
namespace Go.Proofs.YtglmppadhlkkgagGreatDoor
open Go Go.RowKit
def numsU (l : List UInt8) : List Int := l.map fun c => (c.toNat : Int)
theorem numsU_getD (l : List UInt8) (k : Nat) (h : k < l.length) : (numsU l).getD k 0 = (l[k].toNat : Int) := by
  simp [numsU, List.getD, List.getElem?_eq_getElem h]
theorem byte_ne {x y : UInt8} (h : (x.toNat : Int) = (y.toNat : Int)) : x = y := UInt8.toNat_inj.1 (by omega)
theorem occ_two (s : List UInt8) (a b : UInt8) (i : Nat) (hi : i + 1 < s.length) : Lib.occAt s [a, b] i = true ↔ ((numsU s).getD i 0 = (a.toNat : Int) ∧ (numsU s).getD (i + 1) 0 = (b.toNat : Int)) := by
  have h0 : i < s.length := by omega
  rw [numsU_getD s i h0, numsU_getD s (i + 1) hi]
  unfold Lib.occAt
  rw [List.drop_eq_getElem_cons h0, List.drop_eq_getElem_cons hi]
  simp only [List.isPrefixOf, Bool.and_true, Bool.and_eq_true, beq_iff_eq]
  constructor
  · rintro ⟨rfl, rfl⟩; exact ⟨rfl, rfl⟩
  · rintro ⟨h1, h2⟩; exact ⟨(byte_ne h1).symm, (byte_ne h2).symm⟩
theorem split_cut (a b : UInt8) : ∀ (n : Nat) (s : List UInt8), s.length ≤ n → (Lib.splitK [a, b] 0 (Lib.count s [a, b]) s).map numsU = cut2 a.toNat b.toNat (numsU s)
  | n, s, hn => by
    rcases Lib.index_spec s [a, b] with ⟨h1, h2⟩ | ⟨i, h1, h2, h3, h4⟩
    · rw [Lib.count_miss h1]
      rw [cut2_end]
      · rfl
      · intro k hk he
        have hk' : k + 1 < s.length := by simpa [numsU] using hk
        have := (occ_two s a b k hk').2 he
        rw [h2 k (by omega)] at this
        exact Bool.noConfusion this
    · have hr : i + 2 ≤ s.length := by
        rcases Lib.occAt_room h3 with h | h
        · simpa using h
        · simp at h
      have he := (occ_two s a b i (by omega)).1 h3
      rw [Lib.count_hit (by simp) h1, Nat.add_comm 1, Lib.splitK]
      rw [if_neg (by rw [h1]; simp), h1]
      have e0 : (Int.toNat (i : Int)) = i := by omega
      rw [e0, List.map_cons]
      have hm : n = 0 ∨ ∃ m, n = m + 1 := by cases n with
        | zero => exact Or.inl rfl
        | succ m => exact Or.inr ⟨m, rfl⟩
      rcases hm with rfl | ⟨m, rfl⟩
      · omega
      · rw [show i + 0 = i by omega, show [a, b].length = 2 from rfl, split_cut a b m (s.drop (i + 2)) (by simp; omega)]
        have hs : numsU s = numsU (s.take i) ++ (a.toNat : Int) :: (b.toNat : Int) :: numsU (s.drop (i + 2)) := by
          have e1 : s = s.take i ++ s.drop i := (List.take_append_drop _ _).symm
          rw [List.drop_eq_getElem_cons (show i < s.length by omega), List.drop_eq_getElem_cons (show i + 1 < s.length by omega)] at e1
          rw [numsU_getD s i (by omega), numsU_getD s (i + 1) (by omega)] at he
          rw [← he.1, ← he.2]
          exact (congrArg numsU e1).trans (by simp only [numsU, List.map_append, List.map_cons])
        conv => rhs; rw [hs]
        rw [cut2_take]
        intro k hk
        have hki : k < i := by simpa [numsU, Nat.min_eq_left (show i ≤ s.length by omega)] using hk
        rw [← hs]
        intro hx
        have := (occ_two s a b k (by omega)).2 hx
        rw [h4 k hki] at this
        exact Bool.noConfusion this
theorem splitB_cut (a b : UInt8) (s : ByteArray) : (Lib.splitB ⟨#[a, b]⟩ 0 (Lib.countB s ⟨#[a, b]⟩) s).map (fun x => numsU x.data.toList) = cut2 a.toNat b.toNat (numsU s.data.toList) := by
  have h := Lib.splitB_data ⟨#[a, b]⟩ 0 (Lib.countB s ⟨#[a, b]⟩) s
  have h2 := split_cut a b s.data.toList.length s.data.toList (Nat.le_refl _)
  rw [← h2]
  have : (fun x : ByteArray => numsU x.data.toList) = numsU ∘ (fun x => x.data.toList) := rfl
  rw [this, ← List.map_map, h]
theorem join_U (a b : UInt8) : ∀ (l : List (List UInt8)), numsU (Lib.join l [a, b]) = join2 a.toNat b.toNat (l.map numsU)
  | [] => rfl
  | [x] => by rw [Lib.join_one]; rfl
  | x :: y :: l => by
    have ih := join_U a b (y :: l)
    rw [List.map_cons, join2_cons (by simp), ← ih]
    simp [Lib.join, List.intercalate, numsU, List.intersperse]
theorem cut2_len (a b : Int) : ∀ s : List Int, (cut2 a b s).length ≤ s.length + 1
  | [] => by simp [cut2]
  | [c] => by simp [cut2]
  | c :: d :: r => by
    unfold cut2
    split
    · have := cut2_len a b r
      simp; omega
    · have := cut2_len a b (d :: r)
      cases h : cut2 a b (d :: r) with
      | nil => simp [hdCons]
      | cons x l =>
        rw [h] at this
        simp [hdCons] at this ⊢
        omega
end Go.Proofs.YtglmppadhlkkgagGreatDoor
/-
  FROM THE ONE TO THE OTHER: which fields stand ahead; cookies put together: of lists. No claim by itself.
-/
namespace Go.Proofs.YtglmppadhlkkgagGreatDoor
open Go Go.RowKit
/-- The names that begin with ':': these, each once, ahead of all others, and no more. -/
def LeadOk (names : List (List Int)) (l : List Fd) : Prop := ∃ A B, l = A ++ B ∧ (∀ f ∈ A, psdL f.1 = true) ∧ (∀ f ∈ B, psdL f.1 = false) ∧ (A.map Prod.fst).Nodup ∧ A.length = names.length ∧ ∀ n ∈ names, n ∈ A.map Prod.fst
theorem psd_cons (f : Fd) (l : List Fd) (m p h : Option (List Int)) : psdF (f :: l) true m p h = if psdL f.1 = true then none else psdF l true m p h := by
  rw [psdF]
  cases psdL f.1 <;> simp
theorem all_cons (f : Fd) (l : List Fd) : (f :: l).all (fun f => !psdL f.1) = (!psdL f.1 && l.all (fun f => !psdL f.1)) := rfl
theorem psd_true : ∀ (l : List Fd) (m p h : Option (List Int)), psdF l true m p h = if l.all (fun f => !psdL f.1) = true then psdF [] true m p h else none
  | [], _, _, _ => by simp
  | f :: l, m, p, h => by
    rw [psd_cons, all_cons]
    cases hf : psdL f.1 with
    | false =>
      rw [if_neg (by simp), psd_true l m p h]
      rfl
    | true => rfl
theorem psd_full : ∀ (l : List Fd) (m p h : List Int), psdF l false (some m) (some p) (some h) = if l.all (fun f => !psdL f.1) = true then some (m, p, h) else none
  | [], _, _, _ => by simp [psdF]
  | f :: l, m, p, h => by
    rw [psdF, all_cons]
    cases hf : psdL f.1 with
    | false =>
      rw [if_pos rfl, psd_true]
      rfl
    | true =>
      simp
theorem psd_none (l : List Fd) (m p h : Option (List Int)) (hn : m = none ∨ p = none ∨ h = none) : psdF l true m p h = none := by
  rw [psd_true]
  split
  · rcases hn with rfl | rfl | rfl
    · rfl
    · cases m <;> rfl
    · cases m <;> cases p <;> rfl
  · rfl
theorem names_psd : psdL methodP = true ∧ psdL pathP = true ∧ psdL hostP = true ∧ psdL codeP = true ∧ methodP ≠ pathP ∧ methodP ≠ hostP ∧ pathP ≠ hostP ∧ pathP ≠ methodP ∧ hostP ≠ methodP ∧ hostP ≠ pathP := by decide
def valL (n : List Int) (l : List Fd) : List Int := ((l.find? fun f => decide (f.1 = n)).map Prod.snd).getD []
def psd3 : List (List Int) := [methodP, pathP, hostP]
theorem lead_three {l : List Fd} (h : LeadOk psd3 l) : ∃ x y z B, l = x :: y :: z :: B ∧ B.all (fun f => !psdL f.1) = true ∧
    ((x.1 = methodP ∧ y.1 = pathP ∧ z.1 = hostP) ∨ (x.1 = methodP ∧ y.1 = hostP ∧ z.1 = pathP) ∨ (x.1 = pathP ∧ y.1 = methodP ∧ z.1 = hostP) ∨ (x.1 = pathP ∧ y.1 = hostP ∧ z.1 = methodP) ∨ (x.1 = hostP ∧ y.1 = methodP ∧ z.1 = pathP) ∨ (x.1 = hostP ∧ y.1 = pathP ∧ z.1 = methodP)) := by
  obtain ⟨A, B, rfl, hA, hB, hN, hl, hm⟩ := h
  obtain ⟨-, -, -, -, n1, n2, n3, n4, n5, n6⟩ := names_psd
  match A, hl with
  | [x, y, z], _ =>
    refine ⟨x, y, z, B, rfl, List.all_eq_true.2 fun f hf => by simp [hB f hf], ?_⟩
    have m1 := hm methodP (by simp [psd3])
    have m2 := hm pathP (by simp [psd3])
    have m3 := hm hostP (by simp [psd3])
    simp only [List.map_cons, List.map_nil, List.mem_cons, List.not_mem_nil, or_false] at m1 m2 m3
    rcases m1 with e1 | e1 | e1 <;> rcases m2 with e2 | e2 | e2 <;> rcases m3 with e3 | e3 | e3 <;> first
      | exact absurd (e1.trans e2.symm) n1
      | exact absurd (e1.trans e3.symm) n2
      | exact absurd (e2.trans e3.symm) n3
      | (rw [← e1, ← e2, ← e3]; simp)
theorem three_lead {x y z : Fd} {B : List Fd} (hB : B.all (fun f => !psdL f.1) = true)
    (h : (x.1 = methodP ∧ y.1 = pathP ∧ z.1 = hostP) ∨ (x.1 = methodP ∧ y.1 = hostP ∧ z.1 = pathP) ∨ (x.1 = pathP ∧ y.1 = methodP ∧ z.1 = hostP) ∨ (x.1 = pathP ∧ y.1 = hostP ∧ z.1 = methodP) ∨ (x.1 = hostP ∧ y.1 = methodP ∧ z.1 = pathP) ∨ (x.1 = hostP ∧ y.1 = pathP ∧ z.1 = methodP)) :
    LeadOk psd3 (x :: y :: z :: B) ∧ psdF (x :: y :: z :: B) false none none none = some (valL methodP (x :: y :: z :: B), valL pathP (x :: y :: z :: B), valL hostP (x :: y :: z :: B)) := by
  obtain ⟨p1, p2, p3, -, n1, n2, n3, n4, n5, n6⟩ := names_psd
  have hb : ∀ f ∈ B, psdL f.1 = false := fun f hf => by have := List.all_eq_true.1 hB f hf; simpa using this
  rcases h with ⟨e1, e2, e3⟩ | ⟨e1, e2, e3⟩ | ⟨e1, e2, e3⟩ | ⟨e1, e2, e3⟩ | ⟨e1, e2, e3⟩ | ⟨e1, e2, e3⟩ <;>
  refine ⟨⟨[x, y, z], B, rfl, by simp [e1, e2, e3, p1, p2, p3], hb, by simp [e1, e2, e3, n1, n2, n3, n4, n5, n6], rfl, by simp [psd3, e1, e2, e3]⟩, ?_⟩ <;>
  simp [psdF, psd_full, hB, e1, e2, e3, p1, p2, p3, n1, n2, n3, n4, n5, n6, valL, List.find?]
theorem psd_step {f : Fd} {l : List Fd} {m p h : Option (List Int)} {t : List Int × List Int × List Int} (e : psdF (f :: l) false m p h = some t) :
    (psdL f.1 = false ∧ psdF l true m p h = some t) ∨ (f.1 = methodP ∧ m = none ∧ psdF l false (some f.2) p h = some t) ∨ (f.1 = pathP ∧ p = none ∧ psdF l false m (some f.2) h = some t) ∨ (f.1 = hostP ∧ h = none ∧ psdF l false m p (some f.2) = some t) := by
  rw [psdF] at e
  by_cases h0 : psdL f.1 = false
  · rw [if_pos h0] at e
    exact Or.inl ⟨h0, e⟩
  · rw [if_neg h0, if_neg (by simp)] at e
    by_cases h1 : f.1 = methodP
    · rw [if_pos h1] at e
      cases m with
      | none => exact Or.inr (Or.inl ⟨h1, rfl, e⟩)
      | some x => cases e
    · rw [if_neg h1] at e
      by_cases h2 : f.1 = pathP
      · rw [if_pos h2] at e
        cases p with
        | none => exact Or.inr (Or.inr (Or.inl ⟨h2, rfl, e⟩))
        | some x => cases e
      · rw [if_neg h2] at e
        by_cases h3 : f.1 = hostP
        · rw [if_pos h3] at e
          cases h with
          | none => exact Or.inr (Or.inr (Or.inr ⟨h3, rfl, e⟩))
          | some x => cases e
        · rw [if_neg h3] at e
          cases e
def Three (x y z : Fd) : Prop := (x.1 = methodP ∧ y.1 = pathP ∧ z.1 = hostP) ∨ (x.1 = methodP ∧ y.1 = hostP ∧ z.1 = pathP) ∨ (x.1 = pathP ∧ y.1 = methodP ∧ z.1 = hostP) ∨ (x.1 = pathP ∧ y.1 = hostP ∧ z.1 = methodP) ∨ (x.1 = hostP ∧ y.1 = methodP ∧ z.1 = pathP) ∨ (x.1 = hostP ∧ y.1 = pathP ∧ z.1 = methodP)
theorem psd_non {l : List Fd} {m p h : Option (List Int)} {t : List Int × List Int × List Int} (hn : m = none ∨ p = none ∨ h = none) (e : psdF l true m p h = some t) : False := by
  rw [psd_none l m p h hn] at e
  cases e
theorem psd_fin {l : List Fd} {m p h : List Int} {t : List Int × List Int × List Int} (e : psdF l false (some m) (some p) (some h) = some t) : l.all (fun f => !psdL f.1) = true := by
  rw [psd_full] at e
  split at e
  · assumption
  · cases e
theorem psd_nil {m p h : Option (List Int)} {t : List Int × List Int × List Int} (hn : m = none ∨ p = none ∨ h = none) (e : psdF [] false m p h = some t) : False := by
  rcases hn with rfl | rfl | rfl
  · cases e
  · cases m <;> cases e
  · cases m <;> cases p <;> cases e
theorem psd_some {l : List Fd} {t : List Int × List Int × List Int} (h : psdF l false none none none = some t) : ∃ x y z B, l = x :: y :: z :: B ∧ B.all (fun f => !psdL f.1) = true ∧ Three x y z := by
  cases l with
  | nil => exact (psd_nil (by simp) h).elim
  | cons x l1 =>
    cases l1 with
    | nil =>
      rcases psd_step h with ⟨_, e⟩ | ⟨_, _, e⟩ | ⟨_, _, e⟩ | ⟨_, _, e⟩
      · exact (psd_non (by simp) e).elim
      all_goals exact (psd_nil (by simp) e).elim
    | cons y l2 =>
      cases l2 with
      | nil =>
        rcases psd_step h with ⟨_, e⟩ | ⟨_, _, e⟩ | ⟨_, _, e⟩ | ⟨_, _, e⟩
        · exact (psd_non (by simp) e).elim
        all_goals
          rcases psd_step e with ⟨_, e⟩ | ⟨_, n, e⟩ | ⟨_, n, e⟩ | ⟨_, n, e⟩
          · exact (psd_non (by simp) e).elim
          all_goals first
            | cases n; done
            | exact (psd_nil (by simp) e).elim
      | cons z B =>
        rcases psd_step h with ⟨_, e⟩ | ⟨x1, _, e⟩ | ⟨x1, _, e⟩ | ⟨x1, _, e⟩
        · exact (psd_non (by simp) e).elim
        all_goals
          rcases psd_step e with ⟨_, e⟩ | ⟨y1, n, e⟩ | ⟨y1, n, e⟩ | ⟨y1, n, e⟩
          · exact (psd_non (by simp) e).elim
          all_goals first
            | cases n; done
            | (rcases psd_step e with ⟨_, e⟩ | ⟨z1, n, e⟩ | ⟨z1, n, e⟩ | ⟨z1, n, e⟩
               · exact (psd_non (by simp) e).elim
               all_goals first
                 | cases n; done
                 | exact ⟨x, y, z, B, rfl, psd_fin e, by simp [Three, x1, y1, z1]⟩)
theorem psd_lead (l : List Fd) : (LeadOk psd3 l ∧ psdF l false none none none = some (valL methodP l, valL pathP l, valL hostP l)) ∨ (¬ LeadOk psd3 l ∧ psdF l false none none none = none) := by
  cases h : psdF l false none none none with
  | some t =>
    obtain ⟨x, y, z, B, rfl, hB, hx⟩ := psd_some h
    obtain ⟨h1, h2⟩ := three_lead hB hx
    exact Or.inl ⟨h1, h.symm.trans h2⟩
  | none =>
    refine Or.inr ⟨fun e => ?_, rfl⟩
    obtain ⟨x, y, z, B, rfl, hB, hx⟩ := lead_three e
    rw [(three_lead hB hx).2] at h
    cases h
theorem lead_drop {names : List (List Int)} {l : List Fd} (h : LeadOk names l) : l.filter (fun f => !psdL f.1) = l.drop names.length := by
  obtain ⟨A, B, rfl, hA, hB, hN, hl, hm⟩ := h
  rw [List.filter_append, List.filter_eq_nil_iff.2 (fun f hf => by simp [hA f hf]), List.filter_eq_self.2 (fun f hf => by simp [hB f hf]), ← hl]
  simp
theorem lead_one {l : List Fd} : LeadOk [codeP] l ↔ ∃ x B, l = x :: B ∧ x.1 = codeP ∧ B.any (fun g => psdL g.1) = false := by
  constructor
  · rintro ⟨A, B, rfl, hA, hB, hN, hl, hm⟩
    match A, hl with
    | [x], _ =>
      have := hm codeP (by simp)
      refine ⟨x, B, rfl, by simpa [eq_comm] using this, List.any_eq_false.2 fun f hf => by simp [hB f hf]⟩
  · rintro ⟨x, B, rfl, h1, h2⟩
    refine ⟨[x], B, rfl, by simp [h1]; decide, fun f hf => ?_, by simp, rfl, by simp [h1]⟩
    have := List.any_eq_false.1 h2 f hf
    simpa using this
/- cookies -/
def isCk (f : Fd) : Bool := decide (f.1 = cookieN)
def isLn (f : Fd) : Bool := decide (f.1 = lengthN)
def badF (n : Nat) (f : Fd) : Bool := btwL f.1 || decide (f.1 = hostN) || (isLn f && decide (f.2 ≠ decL n))
def ckVals (l : List Fd) : List (List Int) := (l.filter isCk).map Prod.snd
def noCk (l : List Fd) : List Fd := l.filter fun f => !isCk f
def joinL (l : List Fd) : List Fd := if l.any isCk = true then (noCk l).take (l.findIdx isCk) ++ (cookieN, join2 59 32 (ckVals l)) :: (noCk l).drop (l.findIdx isCk) else l
theorem joinL_ck (f : Fd) (l : List Fd) (h : isCk f = true) : joinL (f :: l) = (cookieN, f.2 ++ tlJ (ckVals l)) :: noCk l := by
  unfold joinL
  rw [if_pos (by simp [h])]
  simp [List.findIdx_cons, h, noCk, ckVals, join_tl]
theorem joinL_no (f : Fd) (l : List Fd) (h : isCk f = false) : joinL (f :: l) = f :: joinL l := by
  unfold joinL
  by_cases hl : l.any isCk = true
  · rw [if_pos (by simp [hl]), if_pos hl]
    simp [List.findIdx_cons, h, noCk, ckVals]
  · rw [if_neg (by simp only [List.any_cons, h, Bool.false_or]; exact hl), if_neg hl]
theorem rst_ck (n : Nat) : ∀ (l : List Fd) (X Y : List Fd) (v : List Int), rstF n l (X ++ (cookieN, v) :: Y) (some X.length) = if l.any (badF n) = true then none else some (X ++ (cookieN, v ++ tlJ (ckVals (l.filter fun f => !isLn f))) :: (Y ++ noCk (l.filter fun f => !isLn f)))
  | [], X, Y, v => by simp [rstF, ckVals, noCk, tlJ]
  | f :: l, X, Y, v => by
    rw [rstF]
    by_cases h1 : btwL f.1 = true ∨ f.1 = hostN
    · rw [if_pos h1, if_pos]
      rw [List.any_cons, Bool.or_eq_true]
      left
      unfold badF
      rcases h1 with h1 | h1
      · simp [h1]
      · simp [h1]
    · rw [if_neg h1]
      have hb1 : btwL f.1 = false := by cases e : btwL f.1 with
        | false => rfl
        | true => exact absurd (Or.inl e) h1
      have hb2 : f.1 ≠ hostN := fun e => h1 (Or.inr e)
      by_cases h2 : f.1 = lengthN
      · have hln : isLn f = true := by simp [isLn, h2]
        rw [if_pos h2]
        by_cases h3 : f.2 = decL n
        · have hbd : badF n f = false := by simp [badF, hb1, hb2, h3]
          rw [if_pos h3, rst_ck n l X Y v, List.any_cons, hbd, List.filter_cons, hln]
          rfl
        · rw [if_neg h3, if_pos]
          simp [badF, hln, h3]
      · have hln : isLn f = false := by simp [isLn, h2]
        have hbd : badF n f = false := by simp [badF, hb1, hb2, hln]
        rw [if_neg h2]
        by_cases h3 : f.1 = cookieN
        · have hck : isCk f = true := by simp [isCk, h3]
          rw [if_pos h3]
          show rstF n l ((X ++ (cookieN, v) :: Y).modify X.length fun g => (g.1, g.2 ++ ([59, 32] ++ f.2))) (some X.length) = _
          have hm : (X ++ (cookieN, v) :: Y).modify X.length (fun g => (g.1, g.2 ++ ([59, 32] ++ f.2))) = X ++ (cookieN, v ++ ([59, 32] ++ f.2)) :: Y := by
            apply List.ext_getElem?
            intro j
            rw [List.getElem?_modify]
            show Option.map _ _ = _
            rcases Nat.lt_trichotomy j X.length with hj | hj | hj
            · rw [List.getElem?_append_left hj, List.getElem?_append_left hj]
              simp [show X.length ≠ j by omega]
            · subst hj
              simp
            · rw [List.getElem?_append_right (by omega), List.getElem?_append_right (by omega)]
              obtain ⟨t, ht⟩ : ∃ t, j - X.length = t + 1 := ⟨j - X.length - 1, by omega⟩
              rw [ht]
              simp [show X.length ≠ j by omega]
          rw [hm, rst_ck n l X Y _, List.any_cons, hbd, Bool.false_or]
          simp [hln, hck, ckVals, noCk, tlJ, List.append_assoc]
        · have hck : isCk f = false := by simp [isCk, h3]
          rw [if_neg h3, List.append_assoc, List.cons_append, rst_ck n l X (Y ++ [f]) v, List.any_cons, hbd, Bool.false_or]
          simp [hln, hck, ckVals, noCk, List.append_assoc]
theorem rst_dev (n : Nat) : ∀ (l acc : List Fd), rstF n l acc none = if l.any (badF n) = true then none else some (acc ++ joinL (l.filter fun f => !isLn f))
  | [], acc => by simp [rstF, joinL]
  | f :: l, acc => by
    rw [rstF]
    by_cases h1 : btwL f.1 = true ∨ f.1 = hostN
    · rw [if_pos h1, if_pos]
      rw [List.any_cons, Bool.or_eq_true]
      left
      unfold badF
      rcases h1 with h1 | h1
      · simp [h1]
      · simp [h1]
    · rw [if_neg h1]
      have hb1 : btwL f.1 = false := by cases e : btwL f.1 with
        | false => rfl
        | true => exact absurd (Or.inl e) h1
      have hb2 : f.1 ≠ hostN := fun e => h1 (Or.inr e)
      by_cases h2 : f.1 = lengthN
      · have hln : isLn f = true := by simp [isLn, h2]
        rw [if_pos h2]
        by_cases h3 : f.2 = decL n
        · have hbd : badF n f = false := by simp [badF, hb1, hb2, h3]
          rw [if_pos h3, rst_dev n l acc, List.any_cons, hbd, List.filter_cons, hln]
          rfl
        · rw [if_neg h3, if_pos]
          simp [badF, hln, h3]
      · have hln : isLn f = false := by simp [isLn, h2]
        have hbd : badF n f = false := by simp [badF, hb1, hb2, hln]
        rw [if_neg h2]
        by_cases h3 : f.1 = cookieN
        · have hck : isCk f = true := by simp [isCk, h3]
          rw [if_pos h3]
          show rstF n l (acc ++ [f]) (some acc.length) = _
          have hf : f = (cookieN, f.2) := by rw [← h3]
          rw [hf, rst_ck n l acc [] f.2, ← hf]
          simp only [List.any_cons, hbd, Bool.false_or, List.filter_cons, hln, Bool.not_false, if_true, List.nil_append]
          rw [joinL_ck f _ hck]
        · have hck : isCk f = false := by simp [isCk, h3]
          rw [if_neg h3, rst_dev n l (acc ++ [f])]
          simp only [List.any_cons, hbd, Bool.false_or, List.filter_cons, hln, Bool.not_false, if_true]
          rw [joinL_no f _ hck, List.append_assoc]
          rfl
/-- Ask, as the developers go about it. -/
theorem ask_no {l : List Fd} {body : List Int} (h : ¬ LeadOk psd3 l ∨ (l.drop 3).any (badF body.length) = true) : askW l body = (3, default) := by
  unfold askW
  rcases psd_lead l with ⟨h1, h2⟩ | ⟨h1, h2⟩
  · rcases h with h | h
    · exact absurd h1 h
    · rw [h2, lead_drop h1]
      show (match rstF body.length (l.drop 3) [] none with | none => _ | some fs => _) = _
      rw [rst_dev, if_pos h]
  · rw [h2]
def askR (l : List Fd) (body : List Int) : Rq := ⟨valL methodP l, valL pathP l, valL hostP l, joinL ((l.drop 3).filter fun f => !isLn f), body⟩
theorem ask_yes {l : List Fd} {body : List Int} (h1 : LeadOk psd3 l) (h : (l.drop 3).any (badF body.length) = false) : askW l body = if askE (askR l body) = 0 then (0, askR l body) else (askE (askR l body), default) := by
  unfold askW
  rcases psd_lead l with ⟨_, h2⟩ | ⟨h2, _⟩
  · rw [h2, lead_drop h1]
    show (match rstF body.length (l.drop 3) [] none with | none => _ | some fs => _) = _
    rw [rst_dev, if_neg (by rw [h]; exact Bool.noConfusion)]
    rfl
  · exact absurd h1 h2
end Go.Proofs.YtglmppadhlkkgagGreatDoor
/-
  FROM THE ONE TO THE OTHER: the developers' isBetween, isLength, isCookie; without. No claim by itself.
-/
namespace Go.Proofs.YtglmppadhlkkgagGreatDoor
open Go Go.RowKit
set_option maxRecDepth 100000
theorem yL_conn {n : ByteArray} : n.toList = [99, 111, 110, 110, 101, 99, 116, 105, 111, 110] ↔ unums n = connN := toL_lit
theorem yL_coding {n : ByteArray} : n.toList = [99, 111, 100, 105, 110, 103] ↔ unums n = codingN := toL_lit
theorem yL_keep {n : ByteArray} : n.toList = [107, 101, 101, 112] ↔ unums n = keepX := toL_lit
theorem yL_upgrade {n : ByteArray} : n.toList = [117, 112, 103, 114, 97, 100, 101] ↔ unums n = upgradeN := toL_lit
theorem yL_cookie {n : ByteArray} : n.toList = [99, 111, 111, 107, 105, 101] ↔ unums n = cookieN := toL_lit
theorem yL_length {n : ByteArray} : n.toList = [108, 101, 110, 103, 116, 104] ↔ unums n = lengthN := toL_lit
theorem yL_host {n : ByteArray} : n.toList = [104, 111, 115, 116] ↔ unums n = hostN := toL_lit
def fldV (n v : ByteArray) : Value := .agg #[.string n, .string v]
theorem xbtw_any (n v : ByteArray) (w : World) : Calls Tryz.prog 60 #[.agg #[.string n, .string v]] w fun e w' => e = .returned (.bool (btwL (unums n))) ∧ Below w.heap.size w w' := by
  by_cases q1 : n.toList = [99, 111, 110, 110, 101, 99, 116, 105, 111, 110]
  · have e : btwL (unums n) = true := decide_eq_true (Or.inl (yL_conn.1 q1))
    rw [e]
    go_enter Tryz.func60, Tryz.ntmps60
    go_wp2
    go_ret
    exact ⟨rfl, (Below.refl _ w).alloc (Nat.le_refl _) _⟩
  · have q1' : (n.toList == [99, 111, 110, 110, 101, 99, 116, 105, 111, 110]) = false := by simpa using q1
    by_cases q2 : n.toList = [99, 111, 100, 105, 110, 103]
    · have e : btwL (unums n) = true := decide_eq_true (Or.inr (Or.inl (yL_coding.1 q2)))
      rw [e]
      go_enter Tryz.func60, Tryz.ntmps60
      go_wp2
      go_ret
      exact ⟨rfl, (Below.refl _ w).alloc (Nat.le_refl _) _⟩
    · have q2' : (n.toList == [99, 111, 100, 105, 110, 103]) = false := by simpa using q2
      by_cases q3 : n.toList = [107, 101, 101, 112]
      · have e : btwL (unums n) = true := decide_eq_true (Or.inr (Or.inr (Or.inl (yL_keep.1 q3))))
        rw [e]
        go_enter Tryz.func60, Tryz.ntmps60
        go_wp2
        go_ret
        exact ⟨rfl, (Below.refl _ w).alloc (Nat.le_refl _) _⟩
      · have q3' : (n.toList == [107, 101, 101, 112]) = false := by simpa using q3
        by_cases q4 : n.toList = [117, 112, 103, 114, 97, 100, 101]
        · have e : btwL (unums n) = true := decide_eq_true (Or.inr (Or.inr (Or.inr (yL_upgrade.1 q4))))
          rw [e]
          go_enter Tryz.func60, Tryz.ntmps60
          go_wp2
          go_ret
          exact ⟨rfl, (Below.refl _ w).alloc (Nat.le_refl _) _⟩
        · have q4' : (n.toList == [117, 112, 103, 114, 97, 100, 101]) = false := by simpa using q4
          have e : btwL (unums n) = false := decide_eq_false (by
            rintro (h | h | h | h)
            · exact q1 (yL_conn.2 h)
            · exact q2 (yL_coding.2 h)
            · exact q3 (yL_keep.2 h)
            · exact q4 (yL_upgrade.2 h))
          rw [e]
          go_enter Tryz.func60, Tryz.ntmps60
          go_wp2
          go_ret
          exact ⟨rfl, (Below.refl _ w).alloc (Nat.le_refl _) _⟩
theorem xlen_any (n v : ByteArray) (w : World) : Calls Tryz.prog 51 #[.agg #[.string n, .string v]] w fun e w' => e = .returned (.bool (isLn (unums n, unums v))) ∧ Below w.heap.size w w' := by
  by_cases q1 : n.toList = [108, 101, 110, 103, 116, 104]
  · have e : isLn (unums n, unums v) = true := decide_eq_true (yL_length.1 q1)
    rw [e]
    go_enter Tryz.func51, Tryz.ntmps51
    go_wp2
    go_ret
    exact ⟨rfl, (Below.refl _ w).alloc (Nat.le_refl _) _⟩
  · have q1' : (n.toList == [108, 101, 110, 103, 116, 104]) = false := by simpa using q1
    have e : isLn (unums n, unums v) = false := decide_eq_false (fun h => q1 (yL_length.2 h))
    rw [e]
    go_enter Tryz.func51, Tryz.ntmps51
    go_wp2
    go_ret
    exact ⟨rfl, (Below.refl _ w).alloc (Nat.le_refl _) _⟩
theorem xcook_any (n v : ByteArray) (w : World) : Calls Tryz.prog 108 #[.agg #[.string n, .string v]] w fun e w' => e = .returned (.bool (isCk (unums n, unums v))) ∧ Below w.heap.size w w' := by
  by_cases q1 : n.toList = [99, 111, 111, 107, 105, 101]
  · have e : isCk (unums n, unums v) = true := decide_eq_true (yL_cookie.1 q1)
    rw [e]
    go_enter Tryz.func108, Tryz.ntmps108
    go_wp2
    go_ret
    exact ⟨rfl, (Below.refl _ w).alloc (Nat.le_refl _) _⟩
  · have q1' : (n.toList == [99, 111, 111, 107, 105, 101]) = false := by simpa using q1
    have e : isCk (unums n, unums v) = false := decide_eq_false (fun h => q1 (yL_cookie.2 h))
    rw [e]
    go_enter Tryz.func108, Tryz.ntmps108
    go_wp2
    go_ret
    exact ⟨rfl, (Below.refl _ w).alloc (Nat.le_refl _) _⟩
/-- A function value that tells p of each field, as long as what lay in w lies. -/
def PrdF (w : World) (F : Value) (p : Fd → Bool) : Prop :=
  ∃ (g : Nat) (lb : Array Value), F = .func (.func g) #[] lb ∧ (∀ args w, (callFunc g args).run Tryz.prog w = .ok (.enter g args) w) ∧
    ∀ (W : World) (n v : ByteArray), n.size ≤ 140737488351232 → Below w.heap.size w W → Calls Tryz.prog g (#[.agg #[.string n, .string v]] ++ lb) W fun e w' => e = .returned (.bool (p (unums n, unums v))) ∧ Below W.heap.size W w'
theorem prd_len (w : World) : PrdF w (.func (.func 51) #[] #[]) isLn :=
  ⟨51, #[], rfl, enters_of Tryz.func51 (by kernel_rfl) rfl, fun W n v _ _ => xlen_any n v W⟩
theorem prd_cook (w : World) : PrdF w (.func (.func 108) #[] #[]) isCk :=
  ⟨108, #[], rfl, enters_of Tryz.func108 (by kernel_rfl) rfl, fun W n v _ _ => xcook_any n v W⟩
/-- Append of one field. -/
theorem wpList_fapp {ops : Array Oper} {rest : List Oper} {o : Oper} {a : Act} {Q : Exit → Act → World → Prop} (w : World) (hgd : o.guard = none) (s x : Operand)
    (ho : o.op = .call { callee := .builtin .append, args := #[s, x], argTypes := #[22, 22] }) (base : Nat) (v : Value) (FL : List (ByteArray × ByteArray)) (n u : ByteArray) (hs : a.eval s = v) (hown : FOwn w base v FL)
    (hx : a.eval x = .slice (some ⟨w.heap.size, 0, none⟩) 1 1) (hlen : FL.length < 4398046511104) (hbase : base ≤ w.heap.size)
    (h : ∀ v' w', FOwn w' base v' (FL ++ [(n, u)]) → (w.alloc (.cells #[.string n, .string u] 51)).grownBy w' v.ownBlock → wpList Tryz.prog ops Q rest (a.put o.dst v') w') : wpList Tryz.prog ops Q (o :: rest) a (w.alloc (.cells #[.string n, .string u] 51)) := by
  obtain ⟨i0, hi, hz0, hz1, hz2⟩ := info_parts n_infoF
  refine wpList_append_own _ hgd s x 22 ho base 51 i0 (.agg #[.string ⟨#[]⟩, .string ⟨#[]⟩]) 2 32 Tryz.underlying22 hi hz0 hz1 hz2 rfl (by decide) v FL.length _ hs (hown.alloc _) ⟨w.heap.size, 0, none⟩ 1 1 [.string n, .string u] hx rfl ?_ ?_ (by unfold maxLen; omega) (by omega) (by rw [World.size_alloc]; omega) ?_
  · intro j y hj
    have hh : (w.alloc (.cells #[.string n, .string u] 51)).heap[w.heap.size]? = some (.cells #[.string n, .string u] 51 (0, 0)) := heap_alloc_new w _
    rw [n_add]
    simp only [World.cell?, hh, Nat.zero_add]
    match j with
    | 0 => exact hj
    | 1 => exact hj
    | j + 2 => simp at hj
  · intro y hy
    simp at hy
    rcases hy with rfl | rfl <;> rfl
  · intro v' w' h1 h2 _
    refine h v' w' ?_ h2
    have hfc : fcells FL ++ [Value.string n, .string u] = fcells (FL ++ [(n, u)]) := by rw [fcells_append]; rfl
    rw [hfc] at h1
    show World.ownsRow _ _ _ _ _ _ _
    rw [show (FL ++ [(n, u)]).length = FL.length + 1 by simp]
    exact h1
theorem ftake_succ {L : List (ByteArray × ByteArray)} {k : Nat} (h : k < L.length) (p : ByteArray × ByteArray → Bool) : (L.take (k + 1)).filter p = (L.take k).filter p ++ if p (L.getD k fnone) = true then [L.getD k fnone] else [] := by
  rw [List.take_add_one, List.getElem?_eq_getElem h, List.filter_append, List.getD, List.getElem?_eq_getElem h]
  simp only [Option.toList, Option.getD]
  split
  · rename_i hp; simp [hp]
  · rename_i hp; simp [hp]
def kpF (p : Fd → Bool) (f : ByteArray × ByteArray) : Bool := !p (unums f.1, unums f.2)
theorem fds_filter (L : List (ByteArray × ByteArray)) (p : Fd → Bool) : fdsOf (L.filter (kpF p)) = (fdsOf L).filter fun f => !p f := by
  unfold fdsOf
  rw [List.filter_map]
  rfl
end Go.Proofs.YtglmppadhlkkgagGreatDoor
/-
  FROM THE ONE TO THE OTHER: the developers' without. No claim by itself.
-/
namespace Go.Proofs.YtglmppadhlkkgagGreatDoor
open Go Go.RowKit
set_option maxRecDepth 100000
theorem fown_below {base : Nat} {w w' : World} {v : Value} {FL : List (ByteArray × ByteArray)} (h : FOwn w base v FL) (hb : Below w.heap.size w w') : FOwn w' base v FL := by
  obtain ⟨h1, ⟨rfl, h0⟩ | ⟨g, cap, cur, rfl, hg, hc, hr⟩⟩ := id h
  · exact ⟨h1, Or.inl ⟨rfl, h0⟩⟩
  · exact ⟨h1, Or.inr ⟨g, cap, cur, rfl, hg, (hb.block g (Array.getElem?_eq_some_iff.1 hc).1).trans hc, hr⟩⟩
theorem below_grown {B : Nat} {w0 w w' : World} {row : Option Nat} (h : Below B w0 w) (hg : w.grownBy w' row) (hB : B ≤ w.heap.size) (hr : ∀ k, row = some k → B ≤ k) : Below B w0 w' := h.grown hg hB hr
theorem cell2_below {w w' : World} {n v : ByteArray} (hb : Below (w.heap.size + 1) (w.alloc (.cells #[.string n, .string v] 51)) w') : w'.cell? ⟨w.heap.size, 0, none⟩ = some (.string n) ∧ w'.cell? ⟨w.heap.size, 1, none⟩ = some (.string v) := by
  have hk := (hb.block w.heap.size (by omega)).trans (heap_alloc_new w (.cells #[.string n, .string v] 51 (0, 0)))
  exact ⟨by simp only [World.cell?, hk]; rfl, by simp only [World.cell?, hk]; rfl⟩
set_option maxHeartbeats 2000000 in
theorem xwo_row (g off len cap : Nat) (L : List (ByteArray × ByteArray)) (F : Value) (p : Fd → Bool) (w : World) (hr : FRow w g off len cap L) (hl : len ≤ 4294967296) (hs : ∀ t, (L.getD t fnone).1.size ≤ 140737488351232) (hF : PrdF w F p) :
    Calls Tryz.prog 50 #[.slice (some ⟨g, off, none⟩) len cap, F] w fun e w' => ∃ v, e = .returned v ∧ FOwn w' w.heap.size v (L.filter (kpF p)) ∧ Below w.heap.size w w' := by
  obtain ⟨gf, lb, rfl, eg, HC0⟩ := hF
  have HC := vl HC0
  have HR := vl hr
  have HS := vl hs
  have hcap := hr.hcap
  have hmax := hr.hmax
  unfold maxLen at hmax
  have hLl := hr.hlen
  clear HC0 hr hs
  go_enter Tryz.func50, Tryz.ntmps50
  go_wp2_with fail
  go_loopw [9, 4] (fun i x wr => ∃ k : Nat, i = .int .i64 k ∧ k ≤ len ∧ Vl (FOwn wr w.heap.size x ((L.take k).filter (kpF p))) ∧ Vl (Below w.heap.size w wr)) (fun i _ _ => len - (intOf i).toNat)
  case atStart => exact ⟨0, rfl, by omega, ⟨rfl, Or.inl ⟨rfl, rfl⟩⟩, Below.refl _ _⟩
  case round =>
    obtain ⟨k, rfl, hk, HO, HB⟩ := hrel
    by_cases hlt : k < len
    · have hlt' : (k : Int) < (len : Int) := by omega
      have hr2 := HR.out.below HB.out
      have c1 := hr2.hname k hlt
      have c2 := hr2.hvalue k hlt
      have HT := vl (ftake_succ (L := L) (k := k) (by omega) (kpF p))
      have hsz := HS.out k
      generalize hf : L.getD k fnone = f at *
      obtain ⟨n, v⟩ := f
      clear hr2 hf
      have HB1 : Vl (Below w.heap.size w (wr.alloc (.cells #[.string n, .string v] 51))) := HB.out.alloc HB.out.size _
      have H := vl (HC.out _ n v hsz HB1.out)
      have HE : Vl (kpF p (n, v) = !p (unums n, unums v)) := rfl
      have hszr : w.heap.size ≤ wr.heap.size := HB.out.size
      obtain ⟨b, hb⟩ : ∃ b, p (unums n, unums v) = b := ⟨_, rfl⟩
      rw [hb] at H HE
      rw [HE.out] at HT
      clear hb HE
      go_wp2_with fail
      refine H.out.mono ?_
      rintro e w1 ⟨rfl, hb1⟩
      rw [World.size_alloc] at hb1
      obtain ⟨d1, d2⟩ := cell2_below hb1
      have hs1 : wr.heap.size < w1.heap.size := by have := hb1.size; simp at this; omega
      have HB2 : Vl (Below w.heap.size w w1) := HB1.out.trans (hb1.mono (by omega))
      have HO1 := vl (fown_below HO.out (((Below.refl _ wr).alloc (Nat.le_refl _) _).trans (hb1.mono (by omega))))
      clear H hb1 HO HB HB1 c1 c2 hsz
      cases b with
      | true =>
        go_wp2_with fail
        go_roundw
        case rel => exact ⟨k + 1, by go_num, by omega, by rw [HT.out]; simpa using HO1, HB2.out⟩
        case measure => simp [intOf]; omega
      | false =>
        have hfl : ((L.take k).filter (kpF p)).length ≤ k := Nat.le_trans (List.length_filter_le _ _) (by rw [List.length_take]; omega)
        generalize (L.take k).filter (kpF p) = FL at *
        obtain ⟨sa, sc, hv⟩ := fown_shape HO1.out
        subst hv
        go_wp2_with (at_builtin; refine wpList_fapp w1 rfl _ _ rfl w.heap.size (.slice sa FL.length sc) FL n v rfl HO1.out rfl (by omega) (by omega) ?_)
        intro v3 w3 ho3 hg3
        have hrow : ∀ k, (Value.slice sa FL.length sc).ownBlock = some k → w.heap.size ≤ k := fun k hk => (HO1.out.lt k hk).1
        have HB3 := vl (below_grown (HB2.out.alloc HB2.out.size (.cells #[.string n, .string v] 51)) hg3 (by rw [World.size_alloc]; omega) hrow)
        have HO3 := vl ho3
        clear ho3 hg3 hrow HO1 HB2 d1 d2
        go_wp2_with fail
        go_roundw
        case rel => exact ⟨k + 1, by go_num, by omega, by rw [HT.out]; simpa using HO3, HB3.out⟩
        case measure => simp [intOf]; omega
    · have hke : k = len := by omega
      subst hke
      have HE : Vl (L.take k = L) := List.take_of_length_le (by omega)
      go_wp2_with fail
      go_ret
      exact ⟨_, rfl, by rw [HE.out] at HO; exact HO.out, HB.out⟩
theorem xwo_any (a : Option Addr) (len cap : Nat) (L : List (ByteArray × ByteArray)) (F : Value) (p : Fd → Bool) (w : World) (hA : FArg w a len cap L) (hl : len ≤ 4294967296) (hs : ∀ t, (L.getD t fnone).1.size ≤ 140737488351232) (hF : PrdF w F p) :
    Calls Tryz.prog 50 #[.slice a len cap, F] w fun e w' => ∃ v, e = .returned v ∧ FOwn w' w.heap.size v (L.filter (kpF p)) ∧ Below w.heap.size w w' := by
  rcases hA with ⟨rfl, rfl⟩ | ⟨g, off, rfl, hr⟩
  · go_enter Tryz.func50, Tryz.ntmps50
    go_wp2_with fail
    go_loopw [9, 4] (fun i x wr => i = .int .i64 0 ∧ x = .slice none 0 0 ∧ wr = w) (fun _ _ _ => 0)
    case atStart => exact ⟨rfl, rfl, rfl⟩
    case round =>
      obtain ⟨rfl, rfl, rfl⟩ := hrel
      go_wp2_with fail
      go_ret
      exact ⟨_, rfl, ⟨rfl, Or.inl ⟨rfl, rfl⟩⟩, Below.refl _ _⟩
  · exact xwo_row g off len cap L F p w hr hl hs hF
end Go.Proofs.YtglmppadhlkkgagGreatDoor
