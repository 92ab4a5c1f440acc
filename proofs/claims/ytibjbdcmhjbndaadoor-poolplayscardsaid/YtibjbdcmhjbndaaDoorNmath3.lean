/-
  MESSAGES AS LINES, as mathematics: what is written is read as it was; cut off it is not whole. No claim by itself.
-/
import Derived.Test.YtibjbdcmhjbndaaDoorNmath2
namespace Go.Proofs.YtibjbdcmhjbndaaDoor
set_option maxRecDepth 100000
/- kinds of bytes -/
theorem small_ok3 {c : Int} (h : isSmall c = true) : 45 ≤ c ∧ c ≤ 122 ∧ c ≠ 58 ∧ isGreat c = false := by
  unfold isSmall at h
  unfold isGreat
  simp at h ⊢
  omega
theorem ok0_range {c : Int} (h : ok0 c = true) : 45 ≤ c ∧ c ≤ 122 := by
  unfold ok0 isSmall isGreat at h
  simp at h
  omega
theorem name_small {s : List Int} (h : nameL s = true) : s ≠ [] ∧ s.length ≤ 400 ∧ ∀ c ∈ s, isSmall c = true ∧ c ≠ 58 := by
  unfold nameL tokL at h
  simp only [Bool.and_eq_true, List.all_eq_true, decide_eq_true_eq, Bool.not_eq_true', List.isEmpty_eq_false_iff] at h
  obtain ⟨h1, ⟨h2, h3⟩, h4⟩ := h
  refine ⟨h3, h4, fun c hc => ?_⟩
  have a := h1 c hc
  have b := h2 c hc
  unfold ok0 at b
  rw [a] at b
  have b' : isSmall c = true := by simpa using b
  exact ⟨b', (small_ok3 b').2.2.1⟩
theorem name_of {s : List Int} (h0 : s ≠ []) (h1 : s.length ≤ 400) (h2 : ∀ c ∈ s, isSmall c = true) : nameL s = true := by
  unfold nameL tokL
  simp only [Bool.and_eq_true, List.all_eq_true, decide_eq_true_eq, Bool.not_eq_true', List.isEmpty_eq_false_iff]
  exact ⟨fun c hc => (small_ok3 (h2 c hc)).2.2.2, ⟨fun c hc => by unfold ok0; rw [h2 c hc]; rfl, h0⟩, h1⟩
theorem plain_ok {s : List Int} (h : plainL s = true) : s.length ≤ 400 ∧ (∀ c ∈ s, ok3 c = true ∧ c ≠ 13) ∧ (s = [] ∨ s.headD 0 ≠ 32) := by
  unfold plainL at h
  simp only [Bool.and_eq_true, Bool.or_eq_true, List.all_eq_true, decide_eq_true_eq, Bool.not_eq_true', List.isEmpty_iff, decide_eq_false_iff_not] at h
  obtain ⟨h1, h2⟩ := h
  refine ⟨?_, fun c hc => ⟨h1 c hc, ?_⟩, ?_⟩
  · rcases h2 with rfl | h2
    · simp
    · exact h2.1.1
  · have := h1 c hc
    unfold ok3 at this
    simp at this
    omega
  · exact h2.imp id (fun k => k.1.2)
theorem tok_ok {s : List Int} (h : tokL s = true) : s ≠ [] ∧ s.length ≤ 400 ∧ ∀ c ∈ s, ok0 c = true ∧ c ≠ 32 := by
  unfold tokL at h
  simp only [Bool.and_eq_true, List.all_eq_true, decide_eq_true_eq, Bool.not_eq_true', List.isEmpty_eq_false_iff] at h
  obtain ⟨⟨h1, h2⟩, h3⟩ := h
  exact ⟨h2, h3, fun c hc => ⟨h1 c hc, by have := ok0_range (h1 c hc); omega⟩⟩
theorem tok_of {s : List Int} (h0 : s ≠ []) (h1 : s.length ≤ 400) (h2 : ∀ c ∈ s, ok0 c = true) : tokL s = true := by
  unfold tokL
  simp only [Bool.and_eq_true, List.all_eq_true, decide_eq_true_eq, Bool.not_eq_true', List.isEmpty_eq_false_iff]
  exact ⟨⟨h2, h0⟩, h1⟩
theorem word_ok {s : List Int} (h : wordL s = true) : s ≠ [] ∧ s.length ≤ 400 ∧ ∀ c ∈ s, ok2 c = true ∧ c ≠ 32 := by
  unfold wordL at h
  simp only [Bool.and_eq_true, List.all_eq_true, Bool.not_eq_true', List.isEmpty_eq_false_iff, decide_eq_false_iff_not] at h
  obtain ⟨⟨h1, h2⟩, h3⟩ := h
  obtain ⟨p1, p2, _⟩ := plain_ok h2
  refine ⟨h3, p1, fun c hc => ⟨?_, h1 c hc⟩⟩
  have := (p2 c hc).1
  have hn := h1 c hc
  unfold ok3 at this
  unfold ok2
  simp at this ⊢
  omega
theorem word_of {s : List Int} (h0 : s ≠ []) (h1 : s.length ≤ 400) (h2 : ∀ c ∈ s, ok2 c = true) : wordL s = true := by
  have h3 : ∀ c ∈ s, c ≠ 32 ∧ ok3 c = true := fun c hc => by
    have := h2 c hc
    unfold ok2 at this
    unfold ok3
    simp at this ⊢
    omega
  unfold wordL plainL
  simp only [Bool.and_eq_true, Bool.or_eq_true, List.all_eq_true, Bool.not_eq_true', List.isEmpty_eq_false_iff, decide_eq_false_iff_not, decide_eq_true_eq]
  refine ⟨⟨fun c hc => (h3 c hc).1, fun c hc => (h3 c hc).2, Or.inr ⟨⟨h1, ?_⟩, ?_⟩⟩, h0⟩
  · match s, h0 with
    | c :: r, _ => exact (h3 c (by simp)).1
  · have : s.getLastD 0 ∈ s := by
      have e : s.getLastD 0 = s.getLast h0 := by
        rw [List.getLastD_eq_getLast?]
        first | rw [List.getLast?_eq_some_getLast h0] | rw [List.getLast?_eq_getLast h0]
        rfl
      rw [e]
      exact List.getLast_mem h0
    exact (h3 _ this).1
/- texts of a form -/
theorem goAll_iff {may : Int → Bool} : ∀ {s : List Int} {k : Nat}, goAll may k s = true ↔ ∀ i, i < s.length → goF may (k + i) (s.getD i 0) = true
  | [], k => by simp [goAll]
  | c :: r, k => by
    unfold goAll
    rw [Bool.and_eq_true, goAll_iff (s := r)]
    constructor
    · rintro ⟨h1, h2⟩ i hi
      match i with
      | 0 => simpa using h1
      | i + 1 =>
        have := h2 i (by simpa using hi)
        rw [show k + (i + 1) = k + 1 + i by omega]
        simpa using this
    · intro h
      refine ⟨by simpa using h 0 (by simp), fun i hi => ?_⟩
      have := h (i + 1) (by simpa using hi)
      rw [show k + (i + 1) = k + 1 + i by omega] at this
      simpa using this
theorem goF_iff {may : Int → Bool} {k : Nat} {c : Int} : goF may k c = true ↔ k < 400 ∧ may c = true ∧ (c = 32 → 0 < k ∧ k < 399) := by
  unfold goF
  by_cases h : c = 32 <;> simp [h, and_assoc]
theorem mem_getD {s : List Int} {c : Int} (h : c ∈ s) : ∃ i, i < s.length ∧ s.getD i 0 = c := by
  obtain ⟨i, hi, rfl⟩ := List.getElem_of_mem h
  exact ⟨i, hi, by simp [List.getD, List.getElem?_eq_getElem hi]⟩
theorem getD_in {s : List Int} {i : Nat} (h : i < s.length) : s.getD i 0 ∈ s := by
  rw [List.getD, List.getElem?_eq_getElem h]
  exact List.getElem_mem _
theorem goAll_all {may : Int → Bool} {s : List Int} (h : goAll may 0 s = true) : s.length ≤ 400 ∧ ∀ c ∈ s, may c = true := by
  rw [goAll_iff] at h
  constructor
  · rcases Nat.lt_or_ge 400 s.length with h1 | h1
    · have := (goF_iff.1 (h 400 h1)).1
      omega
    · exact h1
  · intro c hc
    obtain ⟨i, hi, rfl⟩ := mem_getD hc
    exact (goF_iff.1 (h i hi)).2.1
theorem goAll_of {may : Int → Bool} {s : List Int} (h1 : s.length ≤ 400) (h2 : ∀ c ∈ s, may c = true ∧ c ≠ 32) : goAll may 0 s = true := by
  rw [goAll_iff]
  intro i hi
  have := h2 _ (getD_in hi)
  exact goF_iff.2 ⟨by omega, this.1, fun e => absurd e this.2⟩
theorem last_in {s : List Int} (_h : s ≠ []) : s.getLastD 0 = s.getD (s.length - 1) 0 := by
  rw [List.getLastD_eq_getLast?, List.getLast?_eq_getElem?]
  rfl
theorem ends_iff {least : Nat} {s : List Int} : endsL least s = true ↔ least ≤ s.length ∧ s.getLastD 0 ≠ 32 := by
  unfold endsL
  simp
theorem form_iff {may : Int → Bool} {least : Nat} {s : List Int} : formL may least s = true ↔ goAll may 0 s = true ∧ least ≤ s.length ∧ s.getLastD 0 ≠ 32 := by
  unfold formL
  rw [Bool.and_eq_true, ends_iff]
theorem pos_of {s : List Int} (h : s ≠ []) : 1 ≤ s.length := List.length_pos_iff.2 h
theorem bare_of {may : Int → Bool} (hm : ∀ c, may c = true → c ≠ 32) {s : List Int} (h0 : s ≠ []) (h1 : s.length ≤ 400) (h2 : ∀ c ∈ s, may c = true) : formL may 1 s = true := by
  have h3 : ∀ c ∈ s, may c = true ∧ c ≠ 32 := fun c hc => ⟨h2 c hc, hm c (h2 c hc)⟩
  have hp := pos_of h0
  refine form_iff.2 ⟨goAll_of h1 h3, hp, ?_⟩
  rw [last_in h0]
  exact (h3 _ (getD_in (by omega))).2
theorem ok0_ne {c : Int} (h : ok0 c = true) : c ≠ 32 := by have := ok0_range h; omega
theorem ok2_ne {c : Int} (h : ok2 c = true) : c ≠ 32 := by
  unfold ok2 at h
  simp at h
  omega
theorem small_ne {c : Int} (h : isSmall c = true) : c ≠ 32 := by have := (small_ok3 h).1; omega
theorem form_tok (s : List Int) : formL ok0 1 s = tokL s := by
  rw [Bool.eq_iff_iff]
  constructor
  · intro h
    obtain ⟨h1, h2, _⟩ := form_iff.1 h
    obtain ⟨h3, h4⟩ := goAll_all h1
    exact tok_of (fun e => by rw [e] at h2; simp at h2) h3 h4
  · intro h
    obtain ⟨h1, h2, h3⟩ := tok_ok h
    exact bare_of (fun _ => ok0_ne) h1 h2 (fun c hc => (h3 c hc).1)
theorem form_word (s : List Int) : formL ok2 1 s = wordL s := by
  rw [Bool.eq_iff_iff]
  constructor
  · intro h
    obtain ⟨h1, h2, _⟩ := form_iff.1 h
    obtain ⟨h3, h4⟩ := goAll_all h1
    exact word_of (fun e => by rw [e] at h2; simp at h2) h3 h4
  · intro h
    obtain ⟨h1, h2, h3⟩ := word_ok h
    exact bare_of (fun _ => ok2_ne) h1 h2 (fun c hc => (h3 c hc).1)
theorem form_name (s : List Int) : formL isSmall 1 s = nameL s := by
  rw [Bool.eq_iff_iff]
  constructor
  · intro h
    obtain ⟨h1, h2, _⟩ := form_iff.1 h
    obtain ⟨h3, h4⟩ := goAll_all h1
    exact name_of (fun e => by rw [e] at h2; simp at h2) h3 h4
  · intro h
    obtain ⟨h1, h2, h3⟩ := name_small h
    exact bare_of (fun _ => small_ne) h1 h2 (fun c hc => (h3 c hc).1)
theorem plain_iff {s : List Int} : plainL s = true ↔ (∀ c ∈ s, ok3 c = true) ∧ (s = [] ∨ (s.length ≤ 400 ∧ s.headD 0 ≠ 32 ∧ s.getLastD 0 ≠ 32)) := by
  unfold plainL
  simp only [Bool.and_eq_true, Bool.or_eq_true, List.all_eq_true, decide_eq_true_eq, Bool.not_eq_true', List.isEmpty_iff, decide_eq_false_iff_not, and_assoc]
theorem form_plain (least : Nat) (s : List Int) : formL ok3 least s = (plainL s && decide (least ≤ s.length)) := by
  rw [Bool.eq_iff_iff, Bool.and_eq_true, plain_iff, form_iff, decide_eq_true_eq]
  constructor
  · rintro ⟨h1, h2, h3⟩
    obtain ⟨h4, h5⟩ := goAll_all h1
    refine ⟨⟨h5, ?_⟩, h2⟩
    by_cases h0 : s = []
    · exact Or.inl h0
    · right
      refine ⟨h4, ?_, h3⟩
      rw [goAll_iff] at h1
      have := (goF_iff.1 (h1 0 (pos_of h0))).2.2
      match s, h0 with
      | c :: r, _ =>
        intro e
        have := this (by simpa using e)
        omega
  · rintro ⟨⟨h1, h2⟩, h3⟩
    rcases h2 with rfl | ⟨h4, h5, h6⟩
    · exact ⟨rfl, h3, by simp⟩
    · refine ⟨?_, h3, h6⟩
      rw [goAll_iff]
      intro i hi
      refine goF_iff.2 ⟨by omega, h1 _ (getD_in hi), fun e => ?_⟩
      have hne : s ≠ [] := fun e => by rw [e] at hi; simp at hi
      rw [last_in hne] at h6
      rw [Nat.zero_add]
      constructor
      · rcases Nat.eq_zero_or_pos i with rfl | h
        · match s, hne with
          | c :: r, _ => exact absurd (by simpa using e) h5
        · exact h
      · rcases Nat.lt_or_ge i 399 with h | h
        · exact h
        · have : i = s.length - 1 := by omega
          rw [this] at e
          exact absurd e h6
theorem txt_say {stop : Int} {may : Int → Bool} {least : Nat} {t : List Int} (h : formL may least t = true) (hs : ∀ c ∈ t, c ≠ stop) (X : List Int) : txtP stop may least (t ++ stop :: X) = (0, t, X) := by
  obtain ⟨h1, h2, h3⟩ := form_iff.1 h
  unfold txtP
  rw [bindP_ok (untG_say t X 0 h1 hs), if_pos (ends_iff.2 ⟨h2, h3⟩), bindP_ok (v := ()) (r := X) rfl]
  rfl
theorem txt_inv {stop : Int} {may : Int → Bool} {least : Nat} {b t X : List Int} (h : txtP stop may least b = (0, t, X)) : formL may least t = true ∧ b = t ++ stop :: X := by
  unfold txtP at h
  obtain ⟨s, r1, h1, h2⟩ := bindP_inv h
  obtain ⟨⟨Y, rfl, e⟩, i2, i3⟩ := untG_inv h1
  by_cases he : endsL least s = true
  · rw [if_pos he] at h2
    obtain ⟨_, r2, h3, h4⟩ := bindP_inv h2
    obtain ⟨rfl, rfl⟩ := retP_inv h4
    obtain ⟨d, e2⟩ := skipP_inv h3
    cases e2
    exact ⟨form_iff.2 ⟨i3, ends_iff.1 he⟩, e⟩
  · rw [if_neg he] at h2
    simp [failP] at h2
theorem val_say {least : Nat} {v : List Int} (h : plainL v = true) (hl : least ≤ v.length) (X : List Int) : valP least (v ++ ([13, 10] ++ X)) = (0, v, X) := by
  unfold valP
  have h1 : formL ok3 least v = true := by rw [form_plain, h, decide_eq_true hl]; rfl
  have e : v ++ ([13, 10] ++ X) = v ++ 13 :: ([10] ++ X) := rfl
  rw [e, bindP_ok (txt_say h1 (fun c hc => ((plain_ok h).2.1 c hc).2) _), bindP_ok (mtsP_say _ _)]
  rfl
theorem val_inv {least : Nat} {b v r : List Int} (h : valP least b = (0, v, r)) : plainL v = true ∧ least ≤ v.length ∧ b = v ++ ([13, 10] ++ r) := by
  unfold valP at h
  obtain ⟨s, r1, h1, h2⟩ := bindP_inv h
  obtain ⟨i1, i2⟩ := txt_inv h1
  obtain ⟨_, r2, h3, h4⟩ := bindP_inv h2
  obtain ⟨rfl, rfl⟩ := retP_inv h4
  rw [form_plain, Bool.and_eq_true, decide_eq_true_eq] at i1
  exact ⟨i1.1, i1.2, by rw [i2, mtsP_inv h3]; rfl⟩
/- what is written is read -/
theorem dig_say {least most c : Int} (h : least + 48 ≤ c ∧ c ≤ most + 48) (X : List Int) : digQ least most (c :: X) = (0, c - 48, X) := by
  unfold digQ
  rw [lookP, if_pos h, bindP_ok (v := ()) (r := X) rfl]
  rfl
theorem dig_inv {least most v : Int} {b r : List Int} (h : digQ least most b = (0, v, r)) : least ≤ v ∧ v ≤ most ∧ b = (48 + v) :: r := by
  unfold digQ at h
  match b with
  | [] => simp [lookP] at h
  | c :: q =>
    rw [lookP] at h
    by_cases hc : least + 48 ≤ c ∧ c ≤ most + 48
    · rw [if_pos hc] at h
      obtain ⟨_, r1, h1, h2⟩ := bindP_inv h
      obtain ⟨rfl, rfl⟩ := retP_inv h2
      obtain ⟨d, e⟩ := skipP_inv h1
      cases e
      refine ⟨by omega, by omega, ?_⟩
      congr 1
      omega
    · rw [if_neg hc] at h
      simp [failP] at h
theorem lenR_dec : ∀ n : Nat, 1 ≤ n → n ≤ 8000 → ∃ (d : Nat) (ds : List Int), decL n = dc d :: ds ∧ 1 ≤ d ∧ d ≤ 9 ∧ ∀ Y, lenR d (ds ++ Y) = lenR n Y := by
  intro n
  induction n using Nat.strongRecOn with
  | _ n ih =>
    intro h1 h2
    by_cases h : n < 10
    · exact ⟨n, [], decL_one h, h1, by omega, fun Y => rfl⟩
    · obtain ⟨d, ds, e, i1, i2, i3⟩ := ih (n / 10) (by omega) (by omega) (by omega)
      refine ⟨d, ds ++ [dc (n % 10)], by rw [decL_more h, e]; rfl, i1, i2, fun Y => ?_⟩
      rw [List.append_assoc, i3, List.singleton_append, lenR, if_neg (by unfold dc; omega), if_neg (by unfold dc; omega), if_neg (by unfold dc; omega)]
      congr 1
      unfold dc
      omega
theorem lenQ_say {least : Int} (hl : 0 ≤ least) {n : Nat} (h1 : least ≤ n) (h1' : least ≤ 1) (h2 : n ≤ 8000) (X : List Int) : lenQ least ([32] ++ (decL n ++ ([13, 10] ++ X))) = (0, (n : Int), X) := by
  unfold lenQ
  rw [bindP_ok (mtsP_say _ _)]
  by_cases h0 : n = 0
  · subst h0
    rw [decL_one (by omega), List.singleton_append, bindP_ok (dig_say (by unfold dc; omega) _)]
    have e : lenR (dc 0 - 48) ([13, 10] ++ X) = (0, 0, [13, 10] ++ X) := by
      show lenR 0 (13 :: ([10] ++ X)) = _
      rw [lenR, if_pos (by omega)]
      rfl
    rw [bindP_ok e, bindP_ok (mtsP_say _ _)]
    rfl
  · obtain ⟨d, ds, e, i1, i2, i3⟩ := lenR_dec n (by omega) h2
    rw [e, List.cons_append, bindP_ok (dig_say (by unfold dc; omega) _)]
    have e2 : lenR (dc d - 48) (ds ++ ([13, 10] ++ X)) = (0, (n : Int), [13, 10] ++ X) := by
      rw [show dc d - 48 = (d : Int) by unfold dc; omega, i3]
      show lenR n (13 :: ([10] ++ X)) = _
      rw [lenR, if_pos (Or.inr rfl)]
      rfl
    rw [bindP_ok e2, bindP_ok (mtsP_say _ _)]
    rfl
theorem fld_ok {f : Fd} (h : fldE f = 0) : nameL f.1 = true ∧ plainL f.2 = true ∧ f.1 ≠ hostN ∧ f.1 ≠ lengthN ∧ f.1 ≠ codingN := by
  unfold fldE at h
  split at h
  · rename_i h1
    split at h
    · simp at h
    · rename_i h2
      exact ⟨h1.1, h1.2, fun e => h2 (Or.inl e), fun e => h2 (Or.inr (Or.inl e)), fun e => h2 (Or.inr (Or.inr e))⟩
  · simp at h
theorem fld_of {f : Fd} (h1 : nameL f.1 = true) (h2 : plainL f.2 = true) (h3 : f.1 ≠ hostN) (h4 : f.1 ≠ lengthN) (h5 : f.1 ≠ codingN) : fldE f = 0 := by
  unfold fldE
  rw [if_pos ⟨h1, h2⟩, if_neg]
  rintro (e | e | e)
  · exact h3 e
  · exact h4 e
  · exact h5 e
theorem flds_cons {f : Fd} {l : List Fd} : fldsE (f :: l) = 0 ↔ fldE f = 0 ∧ fldsE l = 0 := by
  show (if fldE f = 0 then fldsE l else fldE f) = 0 ↔ _
  by_cases h : fldE f = 0
  · simp [h]
  · simp [h]
theorem flds_app {l m : List Fd} : fldsE (l ++ m) = 0 ↔ fldsE l = 0 ∧ fldsE m = 0 := by
  induction l with
  | nil => simp [fldsE]
  | cons f l ih => rw [List.cons_append, flds_cons, flds_cons, ih, and_assoc]
theorem last_none {least : Int} {coded : Bool} {n : List Int} (h1 : n ≠ lengthN) (h2 : n ≠ codingN) : lastP least coded n = none := by
  unfold lastP
  rw [if_neg h1, if_neg (fun e => h2 e.1)]
theorem head_line {least : Int} {coded : Bool} {acc : List Fd} {next : List Int → Pz Hd} {f : Fd} (h : fldE f = 0) (X : List Int) : headB least coded acc next (f.1 ++ ([58] ++ X)) = next f.1 X := by
  obtain ⟨h1, h2, h3, h4, h5⟩ := fld_ok h
  obtain ⟨n0, n1, n2⟩ := name_small h1
  have hu := txt_say (stop := 58) (may := isSmall) (least := 1) (t := f.1) (by rw [form_name]; exact h1) (fun c hc => (n2 c hc).2) X
  unfold headB
  match hn : f.1 with
  | [] => exact absurd hn n0
  | c :: r =>
    rw [hn] at hu n2 h3 h4 h5
    have hc := (small_ok3 (n2 c (by simp)).1).1
    rw [List.cons_append, lookP, if_neg (by omega)]
    rw [show c :: (r ++ ([58] ++ X)) = (c :: r) ++ 58 :: X from rfl, bindP_ok hu]
    simp only [last_none h4 h5]
    rw [if_neg (by rintro (e | e | e); exact h3 e; exact h4 e; exact h5 e)]
theorem head_say {least : Int} {coded : Bool} : ∀ (l acc : List Fd) (k : Nat) (T : List Int), fldsE l = 0 → l.length ≤ k → headP least coded k acc (linesL l ++ T) = headP least coded (k - l.length) (acc ++ l) T
  | [], acc, k, T, _, _ => by simp [linesL]
  | f :: l, acc, k, T, h, hk => by
    obtain ⟨h1, h2⟩ := flds_cons.1 h
    match k with
    | 0 => simp at hk
    | k + 1 =>
      have e : linesL (f :: l) ++ T = f.1 ++ ([58] ++ ([32] ++ (f.2 ++ ([13, 10] ++ (linesL l ++ T))))) := by simp [linesL, lineOf]
      rw [e, headP, head_line h1, bindP_ok (mtsP_say _ _), bindP_ok (val_say (fld_ok h1).2.1 (Nat.zero_le _) _), head_say l _ k T h2 (by simpa using hk)]
      simp
theorem head_end {least : Int} {coded : Bool} {acc : List Fd} (k : Nat) (X : List Int) : headP least coded k acc ([13, 10] ++ X) = (0, (acc, -1, false), X) := by
  have go : ∀ next, headB least coded acc next ([13, 10] ++ X) = (0, (acc, -1, false), X) := fun next => by
    unfold headB
    rw [List.cons_append, lookP, if_pos rfl]
    rw [show (13 :: ([10] ++ X) : List Int) = [13, 10] ++ X from rfl, bindP_ok (mtsP_say _ _)]
    rfl
  cases k with
  | zero => exact go _
  | succ k => exact go _
theorem form_length : formL isSmall 1 lengthN = true := by decide
theorem form_coding : formL isSmall 1 codingN = true := by decide
theorem head_len {least : Int} (hl0 : 0 ≤ least) (hl1 : least ≤ 1) {coded : Bool} {acc : List Fd} (k n : Nat) (X : List Int) (h1 : least ≤ n) (h2 : n ≤ 8000) : headP least coded k acc (lenLine n ++ X) = (0, (acc, (n : Int), false), X) := by
  have go : ∀ next, headB least coded acc next (lenLine n ++ X) = (0, (acc, (n : Int), false), X) := fun next => by
    have hu := txt_say (stop := 58) (may := isSmall) (least := 1) form_length (by decide) ([32] ++ (decL n ++ ([13, 10] ++ ([13, 10] ++ X))))
    have e : lenLine n ++ X = lengthN ++ 58 :: ([32] ++ (decL n ++ ([13, 10] ++ ([13, 10] ++ X)))) := by simp [lenLine]
    have hp : lastP least coded lengthN = some (bindP (lenQ least) fun v => retP (v, false)) := rfl
    unfold headB
    rw [e]
    show lookP _ (108 :: _) = _
    rw [lookP, if_neg (by omega)]
    rw [show (108 :: _ : List Int) = lengthN ++ 58 :: ([32] ++ (decL n ++ ([13, 10] ++ ([13, 10] ++ X)))) from rfl, bindP_ok hu]
    simp only [hp]
    have h3 : bindP (lenQ least) (fun v => retP (v, false)) ([32] ++ (decL n ++ ([13, 10] ++ ([13, 10] ++ X)))) = (0, ((n : Int), false), [13, 10] ++ X) := by
      rw [bindP_ok (lenQ_say hl0 h1 hl1 h2 _)]
      rfl
    rw [bindP_ok h3, bindP_ok (mtsP_say _ _)]
    rfl
  cases k with
  | zero => exact go _
  | succ k => exact go _
theorem head_cod {least : Int} {acc : List Fd} (k : Nat) (X : List Int) : headP least true k acc (codingN ++ (chunkedS ++ X)) = (0, (acc, -1, true), X) := by
  have go : ∀ next, headB least true acc next (codingN ++ (chunkedS ++ X)) = (0, (acc, -1, true), X) := fun next => by
    have hu := txt_say (stop := 58) (may := isSmall) (least := 1) form_coding (by decide) (chunkedQ ++ ([13, 10] ++ X))
    have e : codingN ++ (chunkedS ++ X) = codingN ++ 58 :: (chunkedQ ++ ([13, 10] ++ X)) := rfl
    have hp : lastP least true codingN = some (bindP (mtsP chunkedQ) fun _ => retP (-1, true)) := rfl
    unfold headB
    rw [e]
    show lookP _ (99 :: _) = _
    rw [lookP, if_neg (by omega)]
    rw [show (99 :: _ : List Int) = codingN ++ 58 :: (chunkedQ ++ ([13, 10] ++ X)) from rfl, bindP_ok hu]
    simp only [hp]
    have h3 : bindP (mtsP chunkedQ) (fun _ => retP ((-1 : Int), true)) (chunkedQ ++ ([13, 10] ++ X)) = (0, (-1, true), [13, 10] ++ X) := by
      rw [bindP_ok (mtsP_say _ _)]
      rfl
    rw [bindP_ok h3, bindP_ok (mtsP_say _ _)]
    rfl
  cases k with
  | zero => exact go _
  | succ k => exact go _
theorem body_say (B X : List Int) : bodyP B.length (B ++ X) = (0, B, X) := by
  unfold bodyP
  rw [if_neg (by simp)]
  simp
theorem ask_ok {r : Rq} (h : askE r = 0) : r.fields.length ≤ 40 ∧ r.body.length ≤ 8000 ∧ tokL r.method = true ∧ wordL r.path = true ∧ plainL r.host = true ∧ r.host ≠ [] ∧ fldsE r.fields = 0 := by
  unfold askE at h
  split at h
  · simp at h
  · split at h
    · rename_i h1 h2
      exact ⟨by omega, by omega, h2.1, h2.2.1, h2.2.2.1, h2.2.2.2, h⟩
    · simp at h
theorem ask_say {r : Rq} (h : askE r = 0) (X : List Int) : askP (askL r ++ X) = (0, r, X) := by
  obtain ⟨h1, h2, h3, h4, h5, h6, h7⟩ := ask_ok h
  obtain ⟨m, p, ho, l, B⟩ := r
  simp only at h1 h2 h3 h4 h5 h6 h7
  have hT : headP 1 false 40 [] (linesL l ++ (tailL B ++ X)) = (0, (l, if B = [] then -1 else (B.length : Int), false), B ++ X) := by
    rw [head_say l [] 40 _ h7 h1]
    unfold tailL
    by_cases hB : B = []
    · rw [if_pos hB, if_pos hB, head_end, hB]
      simp
    · have hl := pos_of hB
      rw [if_neg hB, if_neg hB, List.append_assoc, head_len (by omega) (by omega) _ _ _ (by omega) h2]
      simp
  have e0 : askL ⟨m, p, ho, l, B⟩ ++ X = m ++ 32 :: (p ++ 32 :: (edgeHostQ ++ (ho ++ ([13, 10] ++ (linesL l ++ (tailL B ++ X)))))) := by simp [askL, edgeHost, edgeHostQ]
  rw [e0]
  unfold askP
  rw [bindP_ok (txt_say (by rw [form_tok]; exact h3) (fun c hc => ((tok_ok h3).2.2 c hc).2) _), bindP_ok (txt_say (by rw [form_word]; exact h4) (fun c hc => ((word_ok h4).2.2 c hc).2) _)]
  rw [bindP_ok (mtsP_say _ _), bindP_ok (val_say h5 (pos_of h6) _), bindP_ok hT]
  have e1 : (if B = [] then -1 else (B.length : Int)).toNat = B.length := by
    by_cases hB : B = []
    · subst hB; rfl
    · rw [if_neg hB]; simp
  simp only
  rw [e1, bindP_ok (body_say B X)]
  rfl
/-- A request that is cut off anywhere is not whole. -/
theorem ask_cut {r : Rq} (h : askE r = 0) (c : Nat) (hc : c < (askL r).length) : (askP ((askL r).take c)).1 = 8 := by
  have h1 := ask_say h []
  rw [List.append_nil] at h1
  exact law_ask.cut c h1 (by simpa using hc)
end Go.Proofs.YtibjbdcmhjbndaaDoor
