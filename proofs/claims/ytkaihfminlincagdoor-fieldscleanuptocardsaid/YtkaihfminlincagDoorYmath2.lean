/-
  FROM THE ONE TO THE OTHER: which fields stand ahead; cookies put together: of lists. No claim by itself.
-/
import Derived.Test.YtkaihfminlincagDoorYmath
namespace Go.Proofs.YtkaihfminlincagDoor
open Go Go.RowKit
/-- The names that begin with ':': these, each once, ahead of all others, and no more. -/
def LeadOk (names : List (List Int)) (l : List Fd) : Prop := ∃ A B, l = A ++ B ∧ (∀ f ∈ A, psdL f.1 = true) ∧ (∀ f ∈ B, psdL f.1 = false) ∧ (A.map Prod.fst).Nodup ∧ A.length = names.length ∧ ∀ n ∈ names, n ∈ A.map Prod.fst
theorem psd_cons (f : Fd) (l : List Fd) (m p h : Option (List Int)) : psdF (f :: l) true m p h = if psdL f.1 = true then none else psdF l true m p h := by
  rw [psdF]
  cases psdL f.1 <;> simp
theorem all_cons (f : Fd) (l : List Fd) : (f :: l).all (fun f => !psdL f.1) = (!psdL f.1 && l.all (fun f => !psdL f.1)) := rfl
theorem psd_true : ∀ (l : List Fd) (m p h : Option (List Int)), psdF l true m p h = if l.all (fun f => !psdL f.1) = true then psdF [] true m p h else none
  | [], _, _, _ => by simp
  | f :: l, m, p, h => by
    rw [psd_cons, all_cons]
    cases hf : psdL f.1 with
    | false =>
      rw [if_neg (by simp), psd_true l m p h]
      rfl
    | true => rfl
theorem psd_full : ∀ (l : List Fd) (m p h : List Int), psdF l false (some m) (some p) (some h) = if l.all (fun f => !psdL f.1) = true then some (m, p, h) else none
  | [], _, _, _ => by simp [psdF]
  | f :: l, m, p, h => by
    rw [psdF, all_cons]
    cases hf : psdL f.1 with
    | false =>
      rw [if_pos rfl, psd_true]
      rfl
    | true =>
      simp
theorem psd_none (l : List Fd) (m p h : Option (List Int)) (hn : m = none ∨ p = none ∨ h = none) : psdF l true m p h = none := by
  rw [psd_true]
  split
  · rcases hn with rfl | rfl | rfl
    · rfl
    · cases m <;> rfl
    · cases m <;> cases p <;> rfl
  · rfl
theorem names_psd : psdL methodP = true ∧ psdL pathP = true ∧ psdL hostP = true ∧ psdL codeP = true ∧ methodP ≠ pathP ∧ methodP ≠ hostP ∧ pathP ≠ hostP ∧ pathP ≠ methodP ∧ hostP ≠ methodP ∧ hostP ≠ pathP := by decide
def valL (n : List Int) (l : List Fd) : List Int := ((l.find? fun f => decide (f.1 = n)).map Prod.snd).getD []
def psd3 : List (List Int) := [methodP, pathP, hostP]
theorem lead_three {l : List Fd} (h : LeadOk psd3 l) : ∃ x y z B, l = x :: y :: z :: B ∧ B.all (fun f => !psdL f.1) = true ∧
    ((x.1 = methodP ∧ y.1 = pathP ∧ z.1 = hostP) ∨ (x.1 = methodP ∧ y.1 = hostP ∧ z.1 = pathP) ∨ (x.1 = pathP ∧ y.1 = methodP ∧ z.1 = hostP) ∨ (x.1 = pathP ∧ y.1 = hostP ∧ z.1 = methodP) ∨ (x.1 = hostP ∧ y.1 = methodP ∧ z.1 = pathP) ∨ (x.1 = hostP ∧ y.1 = pathP ∧ z.1 = methodP)) := by
  obtain ⟨A, B, rfl, hA, hB, hN, hl, hm⟩ := h
  obtain ⟨-, -, -, -, n1, n2, n3, n4, n5, n6⟩ := names_psd
  match A, hl with
  | [x, y, z], _ =>
    refine ⟨x, y, z, B, rfl, List.all_eq_true.2 fun f hf => by simp [hB f hf], ?_⟩
    have m1 := hm methodP (by simp [psd3])
    have m2 := hm pathP (by simp [psd3])
    have m3 := hm hostP (by simp [psd3])
    simp only [List.map_cons, List.map_nil, List.mem_cons, List.not_mem_nil, or_false] at m1 m2 m3
    rcases m1 with e1 | e1 | e1 <;> rcases m2 with e2 | e2 | e2 <;> rcases m3 with e3 | e3 | e3 <;> first
      | exact absurd (e1.trans e2.symm) n1
      | exact absurd (e1.trans e3.symm) n2
      | exact absurd (e2.trans e3.symm) n3
      | (rw [← e1, ← e2, ← e3]; simp)
theorem three_lead {x y z : Fd} {B : List Fd} (hB : B.all (fun f => !psdL f.1) = true)
    (h : (x.1 = methodP ∧ y.1 = pathP ∧ z.1 = hostP) ∨ (x.1 = methodP ∧ y.1 = hostP ∧ z.1 = pathP) ∨ (x.1 = pathP ∧ y.1 = methodP ∧ z.1 = hostP) ∨ (x.1 = pathP ∧ y.1 = hostP ∧ z.1 = methodP) ∨ (x.1 = hostP ∧ y.1 = methodP ∧ z.1 = pathP) ∨ (x.1 = hostP ∧ y.1 = pathP ∧ z.1 = methodP)) :
    LeadOk psd3 (x :: y :: z :: B) ∧ psdF (x :: y :: z :: B) false none none none = some (valL methodP (x :: y :: z :: B), valL pathP (x :: y :: z :: B), valL hostP (x :: y :: z :: B)) := by
  obtain ⟨p1, p2, p3, -, n1, n2, n3, n4, n5, n6⟩ := names_psd
  have hb : ∀ f ∈ B, psdL f.1 = false := fun f hf => by have := List.all_eq_true.1 hB f hf; simpa using this
  rcases h with ⟨e1, e2, e3⟩ | ⟨e1, e2, e3⟩ | ⟨e1, e2, e3⟩ | ⟨e1, e2, e3⟩ | ⟨e1, e2, e3⟩ | ⟨e1, e2, e3⟩ <;>
  refine ⟨⟨[x, y, z], B, rfl, by simp [e1, e2, e3, p1, p2, p3], hb, by simp [e1, e2, e3, n1, n2, n3, n4, n5, n6], rfl, by simp [psd3, e1, e2, e3]⟩, ?_⟩ <;>
  simp [psdF, psd_full, hB, e1, e2, e3, p1, p2, p3, n1, n2, n3, n4, n5, n6, valL, List.find?]
theorem psd_step {f : Fd} {l : List Fd} {m p h : Option (List Int)} {t : List Int × List Int × List Int} (e : psdF (f :: l) false m p h = some t) :
    (psdL f.1 = false ∧ psdF l true m p h = some t) ∨ (f.1 = methodP ∧ m = none ∧ psdF l false (some f.2) p h = some t) ∨ (f.1 = pathP ∧ p = none ∧ psdF l false m (some f.2) h = some t) ∨ (f.1 = hostP ∧ h = none ∧ psdF l false m p (some f.2) = some t) := by
  rw [psdF] at e
  by_cases h0 : psdL f.1 = false
  · rw [if_pos h0] at e
    exact Or.inl ⟨h0, e⟩
  · rw [if_neg h0, if_neg (by simp)] at e
    by_cases h1 : f.1 = methodP
    · rw [if_pos h1] at e
      cases m with
      | none => exact Or.inr (Or.inl ⟨h1, rfl, e⟩)
      | some x => cases e
    · rw [if_neg h1] at e
      by_cases h2 : f.1 = pathP
      · rw [if_pos h2] at e
        cases p with
        | none => exact Or.inr (Or.inr (Or.inl ⟨h2, rfl, e⟩))
        | some x => cases e
      · rw [if_neg h2] at e
        by_cases h3 : f.1 = hostP
        · rw [if_pos h3] at e
          cases h with
          | none => exact Or.inr (Or.inr (Or.inr ⟨h3, rfl, e⟩))
          | some x => cases e
        · rw [if_neg h3] at e
          cases e
def Three (x y z : Fd) : Prop := (x.1 = methodP ∧ y.1 = pathP ∧ z.1 = hostP) ∨ (x.1 = methodP ∧ y.1 = hostP ∧ z.1 = pathP) ∨ (x.1 = pathP ∧ y.1 = methodP ∧ z.1 = hostP) ∨ (x.1 = pathP ∧ y.1 = hostP ∧ z.1 = methodP) ∨ (x.1 = hostP ∧ y.1 = methodP ∧ z.1 = pathP) ∨ (x.1 = hostP ∧ y.1 = pathP ∧ z.1 = methodP)
theorem psd_non {l : List Fd} {m p h : Option (List Int)} {t : List Int × List Int × List Int} (hn : m = none ∨ p = none ∨ h = none) (e : psdF l true m p h = some t) : False := by
  rw [psd_none l m p h hn] at e
  cases e
theorem psd_fin {l : List Fd} {m p h : List Int} {t : List Int × List Int × List Int} (e : psdF l false (some m) (some p) (some h) = some t) : l.all (fun f => !psdL f.1) = true := by
  rw [psd_full] at e
  split at e
  · assumption
  · cases e
theorem psd_nil {m p h : Option (List Int)} {t : List Int × List Int × List Int} (hn : m = none ∨ p = none ∨ h = none) (e : psdF [] false m p h = some t) : False := by
  rcases hn with rfl | rfl | rfl
  · cases e
  · cases m <;> cases e
  · cases m <;> cases p <;> cases e
theorem psd_some {l : List Fd} {t : List Int × List Int × List Int} (h : psdF l false none none none = some t) : ∃ x y z B, l = x :: y :: z :: B ∧ B.all (fun f => !psdL f.1) = true ∧ Three x y z := by
  cases l with
  | nil => exact (psd_nil (by simp) h).elim
  | cons x l1 =>
    cases l1 with
    | nil =>
      rcases psd_step h with ⟨_, e⟩ | ⟨_, _, e⟩ | ⟨_, _, e⟩ | ⟨_, _, e⟩
      · exact (psd_non (by simp) e).elim
      all_goals exact (psd_nil (by simp) e).elim
    | cons y l2 =>
      cases l2 with
      | nil =>
        rcases psd_step h with ⟨_, e⟩ | ⟨_, _, e⟩ | ⟨_, _, e⟩ | ⟨_, _, e⟩
        · exact (psd_non (by simp) e).elim
        all_goals
          rcases psd_step e with ⟨_, e⟩ | ⟨_, n, e⟩ | ⟨_, n, e⟩ | ⟨_, n, e⟩
          · exact (psd_non (by simp) e).elim
          all_goals first
            | cases n; done
            | exact (psd_nil (by simp) e).elim
      | cons z B =>
        rcases psd_step h with ⟨_, e⟩ | ⟨x1, _, e⟩ | ⟨x1, _, e⟩ | ⟨x1, _, e⟩
        · exact (psd_non (by simp) e).elim
        all_goals
          rcases psd_step e with ⟨_, e⟩ | ⟨y1, n, e⟩ | ⟨y1, n, e⟩ | ⟨y1, n, e⟩
          · exact (psd_non (by simp) e).elim
          all_goals first
            | cases n; done
            | (rcases psd_step e with ⟨_, e⟩ | ⟨z1, n, e⟩ | ⟨z1, n, e⟩ | ⟨z1, n, e⟩
               · exact (psd_non (by simp) e).elim
               all_goals first
                 | cases n; done
                 | exact ⟨x, y, z, B, rfl, psd_fin e, by simp [Three, x1, y1, z1]⟩)
theorem psd_lead (l : List Fd) : (LeadOk psd3 l ∧ psdF l false none none none = some (valL methodP l, valL pathP l, valL hostP l)) ∨ (¬ LeadOk psd3 l ∧ psdF l false none none none = none) := by
  cases h : psdF l false none none none with
  | some t =>
    obtain ⟨x, y, z, B, rfl, hB, hx⟩ := psd_some h
    obtain ⟨h1, h2⟩ := three_lead hB hx
    exact Or.inl ⟨h1, h.symm.trans h2⟩
  | none =>
    refine Or.inr ⟨fun e => ?_, rfl⟩
    obtain ⟨x, y, z, B, rfl, hB, hx⟩ := lead_three e
    rw [(three_lead hB hx).2] at h
    cases h
theorem lead_drop {names : List (List Int)} {l : List Fd} (h : LeadOk names l) : l.filter (fun f => !psdL f.1) = l.drop names.length := by
  obtain ⟨A, B, rfl, hA, hB, hN, hl, hm⟩ := h
  rw [List.filter_append, List.filter_eq_nil_iff.2 (fun f hf => by simp [hA f hf]), List.filter_eq_self.2 (fun f hf => by simp [hB f hf]), ← hl]
  simp
theorem lead_one {l : List Fd} : LeadOk [codeP] l ↔ ∃ x B, l = x :: B ∧ x.1 = codeP ∧ B.any (fun g => psdL g.1) = false := by
  constructor
  · rintro ⟨A, B, rfl, hA, hB, hN, hl, hm⟩
    match A, hl with
    | [x], _ =>
      have := hm codeP (by simp)
      refine ⟨x, B, rfl, by simpa [eq_comm] using this, List.any_eq_false.2 fun f hf => by simp [hB f hf]⟩
  · rintro ⟨x, B, rfl, h1, h2⟩
    refine ⟨[x], B, rfl, by simp [h1]; decide, fun f hf => ?_, by simp, rfl, by simp [h1]⟩
    have := List.any_eq_false.1 h2 f hf
    simpa using this
/- cookies -/
def isCk (f : Fd) : Bool := decide (f.1 = cookieN)
def isLn (f : Fd) : Bool := decide (f.1 = lengthN)
def badF (n : Nat) (f : Fd) : Bool := btwL f.1 || decide (f.1 = hostN) || (isLn f && decide (f.2 ≠ decL n))
def ckVals (l : List Fd) : List (List Int) := (l.filter isCk).map Prod.snd
def noCk (l : List Fd) : List Fd := l.filter fun f => !isCk f
def joinL (l : List Fd) : List Fd := if l.any isCk = true then (noCk l).take (l.findIdx isCk) ++ (cookieN, join2 59 32 (ckVals l)) :: (noCk l).drop (l.findIdx isCk) else l
theorem joinL_ck (f : Fd) (l : List Fd) (h : isCk f = true) : joinL (f :: l) = (cookieN, f.2 ++ tlJ (ckVals l)) :: noCk l := by
  unfold joinL
  rw [if_pos (by simp [h])]
  simp [List.findIdx_cons, h, noCk, ckVals, join_tl]
theorem joinL_no (f : Fd) (l : List Fd) (h : isCk f = false) : joinL (f :: l) = f :: joinL l := by
  unfold joinL
  by_cases hl : l.any isCk = true
  · rw [if_pos (by simp [hl]), if_pos hl]
    simp [List.findIdx_cons, h, noCk, ckVals]
  · rw [if_neg (by simp only [List.any_cons, h, Bool.false_or]; exact hl), if_neg hl]
theorem rst_ck (n : Nat) : ∀ (l : List Fd) (X Y : List Fd) (v : List Int), rstF n l (X ++ (cookieN, v) :: Y) (some X.length) = if l.any (badF n) = true then none else some (X ++ (cookieN, v ++ tlJ (ckVals (l.filter fun f => !isLn f))) :: (Y ++ noCk (l.filter fun f => !isLn f)))
  | [], X, Y, v => by simp [rstF, ckVals, noCk, tlJ]
  | f :: l, X, Y, v => by
    rw [rstF]
    by_cases h1 : btwL f.1 = true ∨ f.1 = hostN
    · rw [if_pos h1, if_pos]
      rw [List.any_cons, Bool.or_eq_true]
      left
      unfold badF
      rcases h1 with h1 | h1
      · simp [h1]
      · simp [h1]
    · rw [if_neg h1]
      have hb1 : btwL f.1 = false := by cases e : btwL f.1 with
        | false => rfl
        | true => exact absurd (Or.inl e) h1
      have hb2 : f.1 ≠ hostN := fun e => h1 (Or.inr e)
      by_cases h2 : f.1 = lengthN
      · have hln : isLn f = true := by simp [isLn, h2]
        rw [if_pos h2]
        by_cases h3 : f.2 = decL n
        · have hbd : badF n f = false := by simp [badF, hb1, hb2, h3]
          rw [if_pos h3, rst_ck n l X Y v, List.any_cons, hbd, List.filter_cons, hln]
          rfl
        · rw [if_neg h3, if_pos]
          simp [badF, hln, h3]
      · have hln : isLn f = false := by simp [isLn, h2]
        have hbd : badF n f = false := by simp [badF, hb1, hb2, hln]
        rw [if_neg h2]
        by_cases h3 : f.1 = cookieN
        · have hck : isCk f = true := by simp [isCk, h3]
          rw [if_pos h3]
          show rstF n l ((X ++ (cookieN, v) :: Y).modify X.length fun g => (g.1, g.2 ++ ([59, 32] ++ f.2))) (some X.length) = _
          have hm : (X ++ (cookieN, v) :: Y).modify X.length (fun g => (g.1, g.2 ++ ([59, 32] ++ f.2))) = X ++ (cookieN, v ++ ([59, 32] ++ f.2)) :: Y := by
            apply List.ext_getElem?
            intro j
            rw [List.getElem?_modify]
            show Option.map _ _ = _
            rcases Nat.lt_trichotomy j X.length with hj | hj | hj
            · rw [List.getElem?_append_left hj, List.getElem?_append_left hj]
              simp [show X.length ≠ j by omega]
            · subst hj
              simp
            · rw [List.getElem?_append_right (by omega), List.getElem?_append_right (by omega)]
              obtain ⟨t, ht⟩ : ∃ t, j - X.length = t + 1 := ⟨j - X.length - 1, by omega⟩
              rw [ht]
              simp [show X.length ≠ j by omega]
          rw [hm, rst_ck n l X Y _, List.any_cons, hbd, Bool.false_or]
          simp [hln, hck, ckVals, noCk, tlJ, List.append_assoc]
        · have hck : isCk f = false := by simp [isCk, h3]
          rw [if_neg h3, List.append_assoc, List.cons_append, rst_ck n l X (Y ++ [f]) v, List.any_cons, hbd, Bool.false_or]
          simp [hln, hck, ckVals, noCk, List.append_assoc]
theorem rst_dev (n : Nat) : ∀ (l acc : List Fd), rstF n l acc none = if l.any (badF n) = true then none else some (acc ++ joinL (l.filter fun f => !isLn f))
  | [], acc => by simp [rstF, joinL]
  | f :: l, acc => by
    rw [rstF]
    by_cases h1 : btwL f.1 = true ∨ f.1 = hostN
    · rw [if_pos h1, if_pos]
      rw [List.any_cons, Bool.or_eq_true]
      left
      unfold badF
      rcases h1 with h1 | h1
      · simp [h1]
      · simp [h1]
    · rw [if_neg h1]
      have hb1 : btwL f.1 = false := by cases e : btwL f.1 with
        | false => rfl
        | true => exact absurd (Or.inl e) h1
      have hb2 : f.1 ≠ hostN := fun e => h1 (Or.inr e)
      by_cases h2 : f.1 = lengthN
      · have hln : isLn f = true := by simp [isLn, h2]
        rw [if_pos h2]
        by_cases h3 : f.2 = decL n
        · have hbd : badF n f = false := by simp [badF, hb1, hb2, h3]
          rw [if_pos h3, rst_dev n l acc, List.any_cons, hbd, List.filter_cons, hln]
          rfl
        · rw [if_neg h3, if_pos]
          simp [badF, hln, h3]
      · have hln : isLn f = false := by simp [isLn, h2]
        have hbd : badF n f = false := by simp [badF, hb1, hb2, hln]
        rw [if_neg h2]
        by_cases h3 : f.1 = cookieN
        · have hck : isCk f = true := by simp [isCk, h3]
          rw [if_pos h3]
          show rstF n l (acc ++ [f]) (some acc.length) = _
          have hf : f = (cookieN, f.2) := by rw [← h3]
          rw [hf, rst_ck n l acc [] f.2, ← hf]
          simp only [List.any_cons, hbd, Bool.false_or, List.filter_cons, hln, Bool.not_false, if_true, List.nil_append]
          rw [joinL_ck f _ hck]
        · have hck : isCk f = false := by simp [isCk, h3]
          rw [if_neg h3, rst_dev n l (acc ++ [f])]
          simp only [List.any_cons, hbd, Bool.false_or, List.filter_cons, hln, Bool.not_false, if_true]
          rw [joinL_no f _ hck, List.append_assoc]
          rfl
/-- Ask, as the developers go about it. -/
theorem ask_no {l : List Fd} {body : List Int} (h : ¬ LeadOk psd3 l ∨ (l.drop 3).any (badF body.length) = true) : askW l body = (3, default) := by
  unfold askW
  rcases psd_lead l with ⟨h1, h2⟩ | ⟨h1, h2⟩
  · rcases h with h | h
    · exact absurd h1 h
    · rw [h2, lead_drop h1]
      show (match rstF body.length (l.drop 3) [] none with | none => _ | some fs => _) = _
      rw [rst_dev, if_pos h]
  · rw [h2]
def askR (l : List Fd) (body : List Int) : Rq := ⟨valL methodP l, valL pathP l, valL hostP l, joinL ((l.drop 3).filter fun f => !isLn f), body⟩
theorem ask_yes {l : List Fd} {body : List Int} (h1 : LeadOk psd3 l) (h : (l.drop 3).any (badF body.length) = false) : askW l body = if askE (askR l body) = 0 then (0, askR l body) else (askE (askR l body), default) := by
  unfold askW
  rcases psd_lead l with ⟨_, h2⟩ | ⟨h2, _⟩
  · rw [h2, lead_drop h1]
    show (match rstF body.length (l.drop 3) [] none with | none => _ | some fs => _) = _
    rw [rst_dev, if_neg (by rw [h]; exact Bool.noConfusion)]
    rfl
  · exact absurd h1 h2
end Go.Proofs.YtkaihfminlincagDoor
