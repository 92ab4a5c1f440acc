/-
  MESSAGES AS LINES, as mathematics: how they are written, how they are read. No claim by itself.
-/
import Derived.Test.YtibjbdcmhjbndaaDoorNmath
namespace Go.Proofs.YtibjbdcmhjbndaaDoor
set_option maxRecDepth 100000
/- what texts are -/
def isSmall (c : Int) : Bool := (decide (97 ≤ c) && decide (c ≤ 122)) || (decide (48 ≤ c) && decide (c ≤ 57)) || decide (c = 45) || decide (c = 95)
def isGreat (c : Int) : Bool := decide (65 ≤ c) && decide (c ≤ 90)
def ok0 (c : Int) : Bool := isSmall c || isGreat c
def ok2 (c : Int) : Bool := decide (32 < c) && decide (c ≤ 126)
def ok3 (c : Int) : Bool := decide (32 ≤ c) && decide (c ≤ 126)
def tokL (s : List Int) : Bool := s.all ok0 && !s.isEmpty && decide (s.length ≤ 400)
def plainL (s : List Int) : Bool := s.all ok3 && (s.isEmpty || (decide (s.length ≤ 400) && !decide (s.headD 0 = 32) && !decide (s.getLastD 0 = 32)))
def wordL (s : List Int) : Bool := s.all (fun c => !decide (c = 32)) && plainL s && !s.isEmpty
def nameL (s : List Int) : Bool := s.all (fun c => !isGreat c) && tokL s
abbrev Fd := List Int × List Int
def hostN : List Int := [104, 111, 115, 116]
def lengthN : List Int := [108, 101, 110, 103, 116, 104]
def codingN : List Int := [99, 111, 100, 105, 110, 103]
def fldE (f : Fd) : Int := if nameL f.1 = true ∧ plainL f.2 = true then (if f.1 = hostN ∨ f.1 = lengthN ∨ f.1 = codingN then 3 else 0) else 2
def fldsE : List Fd → Int
  | [] => 0
  | f :: r => if fldE f = 0 then fldsE r else fldE f
structure Rq where
  method : List Int
  path : List Int
  host : List Int
  fields : List Fd
  body : List Int
structure Rp where
  code : Int
  fields : List Fd
  body : List Int
instance : Inhabited Rq := ⟨⟨[], [], [], [], []⟩⟩
instance : Inhabited Rp := ⟨⟨0, [], []⟩⟩
def askE (r : Rq) : Int := if 40 < r.fields.length ∨ 8000 < r.body.length then 4 else if tokL r.method = true ∧ wordL r.path = true ∧ plainL r.host = true ∧ r.host ≠ [] then fldsE r.fields else 2
def tellE (a : Rp) (size : Int) : Int := if 40 < a.fields.length ∨ 8000 < a.body.length then 4 else if a.code < 100 ∨ 599 < a.code ∨ size < 0 then 1 else fldsE a.fields
/- how they are written -/
def dc (d : Nat) : Int := 48 + d
def decL (n : Nat) : List Int := if n < 10 then [dc n] else decL (n / 10) ++ [dc (n % 10)]
termination_by n
decreasing_by omega
theorem decL_one {n : Nat} (h : n < 10) : decL n = [dc n] := by rw [decL, if_pos h]
theorem decL_more {n : Nat} (h : ¬ n < 10) : decL n = decL (n / 10) ++ [dc (n % 10)] := by rw [decL, if_neg h]
theorem decL_pos (n : Nat) : 1 ≤ (decL n).length := by
  by_cases h : n < 10
  · rw [decL_one h]; simp
  · rw [decL_more h]; simp
def lineOf (f : Fd) : List Int := f.1 ++ ([58, 32] ++ (f.2 ++ [13, 10]))
def linesL : List Fd → List Int
  | [] => []
  | f :: r => lineOf f ++ linesL r
def edgeHost : List Int := [32, 69, 68, 71, 69, 47, 49, 13, 10, 104, 111, 115, 116]
def edgeSp : List Int := [69, 68, 71, 69, 47, 49, 32]
def chunkedS : List Int := [58, 32, 99, 104, 117, 110, 107, 101, 100, 13, 10, 13, 10]
def lenLine (n : Nat) : List Int := lengthN ++ ([58, 32] ++ (decL n ++ [13, 10, 13, 10]))
def tailL (body : List Int) : List Int := if body = [] then [13, 10] else lenLine body.length ++ body
def askL (r : Rq) : List Int := r.method ++ ([32] ++ (r.path ++ (edgeHost ++ ([58, 32] ++ (r.host ++ ([13, 10] ++ (linesL r.fields ++ tailL r.body)))))))
def tellTail (body : List Int) (size : Int) : List Int := if size = 0 then lenLine body.length ++ body else codingN ++ (chunkedS ++ chunkL (if 8000 < size then 8000 else size.toNat) body)
def tellL (a : Rp) (size : Int) : List Int := edgeSp ++ (decL a.code.toNat ++ ([13, 10] ++ (linesL a.fields ++ tellTail a.body size)))
/- how they are read -/
def lookP {α : Type} [Inhabited α] (f : Int → Pz α) : Pz α
  | [] => (8, default, [])
  | c :: r => f c (c :: r)
def skipP : Pz Unit
  | [] => (8, (), [])
  | _ :: r => (0, (), r)
def bodyP (n : Nat) : Pz (List Int) := fun b => if b.length < n then (8, [], []) else (0, b.take n, b.drop n)
/-- May a text of k bytes go on with c? -/
def goF (may : Int → Bool) (k : Nat) (c : Int) : Bool := decide (k < 400) && may c && (!decide (c = 32) || (decide (0 < k) && decide (k < 399)))
def endsL (least : Nat) (s : List Int) : Bool := decide (least ≤ s.length) && !decide (s.getLastD 0 = 32)
def goAll (may : Int → Bool) : Nat → List Int → Bool
  | _, [] => true
  | k, c :: r => goF may k c && goAll may (k + 1) r
/-- A text of a form. -/
def formL (may : Int → Bool) (least : Nat) (s : List Int) : Bool := goAll may 0 s && endsL least s
def untG (stop : Int) (may : Int → Bool) : Nat → Pz (List Int)
  | _, [] => (8, [], [])
  | k, c :: r => if c = stop then (0, [], c :: r) else if goF may k c = false then (2, [], []) else
    if (untG stop may (k + 1) r).1 = 0 then (0, c :: (untG stop may (k + 1) r).2.1, (untG stop may (k + 1) r).2.2) else ((untG stop may (k + 1) r).1, [], [])
def txtP (stop : Int) (may : Int → Bool) (least : Nat) : Pz (List Int) := bindP (untG stop may 0) fun s => if endsL least s = true then bindP skipP fun _ => retP s else failP 2
def valP (least : Nat) : Pz (List Int) := bindP (txtP 13 ok3 least) fun s => bindP (mtsP [10]) fun _ => retP s
def digQ (least most : Int) : Pz Int := lookP fun c => if least + 48 ≤ c ∧ c ≤ most + 48 then bindP skipP fun _ => retP (c - 48) else failP 2
def lenR : Int → Pz Int
  | n, [] => if 0 < n then (8, 0, []) else (0, n, [])
  | n, c :: r => if ¬ 0 < n ∨ c = 13 then (0, n, c :: r) else if c < 48 ∨ 57 < c then (2, 0, []) else if 8000 < 10 * n + (c - 48) then (4, 0, []) else lenR (10 * n + (c - 48)) r
def lenQ (least : Int) : Pz Int := bindP (mtsP [32]) fun _ => bindP (digQ least 9) fun n => bindP (lenR n) fun v => bindP (mtsP [13, 10]) fun _ => retP v
abbrev Hd := List Fd × Int × Bool
def chunkedQ : List Int := [32, 99, 104, 117, 110, 107, 101, 100, 13, 10]
/-- What a line is that is no field: how long, or in pieces. -/
def lastP (least : Int) (coded : Bool) (n : List Int) : Option (Pz (Int × Bool)) :=
  if n = lengthN then some (bindP (lenQ least) fun v => retP (v, false)) else if n = codingN ∧ coded = true then some (bindP (mtsP chunkedQ) fun _ => retP (-1, true)) else none
def headB (least : Int) (coded : Bool) (acc : List Fd) (next : List Int → Pz Hd) : Pz Hd := lookP fun c => if c = 13 then bindP (mtsP [13, 10]) fun _ => retP (acc, -1, false) else
  bindP (txtP 58 isSmall 1) fun n => match lastP least coded n with
    | some p => bindP p fun v => bindP (mtsP [13, 10]) fun _ => retP (acc, v.1, v.2)
    | none => if n = hostN ∨ n = lengthN ∨ n = codingN then failP 2 else next n
def headP (least : Int) (coded : Bool) : Nat → List Fd → Pz Hd
  | 0, acc => headB least coded acc fun _ => failP 4
  | k + 1, acc => headB least coded acc fun n => bindP (mtsP [32]) fun _ => bindP (valP 0) fun v => headP least coded k (acc ++ [(n, v)])
def edgeHostQ : List Int := [69, 68, 71, 69, 47, 49, 13, 10, 104, 111, 115, 116, 58, 32]
def askP : Pz Rq := bindP (txtP 32 ok0 1) fun m => bindP (txtP 32 ok2 1) fun p => bindP (mtsP edgeHostQ) fun _ => bindP (valP 1) fun h =>
  bindP (headP 1 false 40 []) fun f => bindP (bodyP f.2.1.toNat) fun x => retP ⟨m, p, h, f.1, x⟩
def codeQ : Pz Int := bindP (digQ 1 5) fun a => bindP (digQ 0 9) fun b => bindP (digQ 0 9) fun c => bindP (mtsP [13, 10]) fun _ => retP (10 * (10 * a + b) + c)
def unchP : Pz (List Int) := fun b => ((unF (b.length + 1) [] b).1, (unF (b.length + 1) [] b).2.1, (unF (b.length + 1) [] b).2.2)
def restP (closed : Bool) : Pz (List Int) := fun b => if closed = true then (0, b, []) else (8, [], [])
def noBody (bare : Bool) (code : Int) : Bool := bare || decide (code < 200) || decide (code = 204) || decide (code = 304)
/-- How the body is read, as the head says. -/
def bodyK (closed : Bool) (f : Int × Bool) : Pz (List Int) := if f.2 = true then unchP else if 0 ≤ f.1 then bodyP f.1.toNat else restP closed
def tellP (bare closed : Bool) : Pz Rp := bindP (mtsP edgeSp) fun _ => bindP codeQ fun code => bindP (headP 0 true 40 []) fun f =>
  if noBody bare code = true then retP ⟨code, f.1, []⟩ else bindP (bodyK closed f.2) fun x => retP ⟨code, f.1, x⟩
/-- What is told in the end: the fault, the thing, how many bytes it takes. -/
def endF {α : Type} [Inhabited α] (p : Pz α) (b : List Int) : Int × α × Int := if (p b).1 = 0 then (0, (p b).2.1, (b.length : Int) - (p b).2.2.length) else if (p b).1 = 8 ∧ 20000 < b.length then (4, default, 0) else ((p b).1, default, 0)
theorem endF_ok {α : Type} [Inhabited α] {p : Pz α} {b : List Int} {v : α} {r : List Int} (h : p b = (0, v, r)) : endF p b = (0, v, (b.length : Int) - r.length) := by unfold endF; rw [h]; rfl
theorem endF_short {α : Type} [Inhabited α] {p : Pz α} {b : List Int} (h : (p b).1 = 8) (hl : b.length ≤ 20000) : endF p b = (8, default, 0) := by
  unfold endF
  rw [h, if_neg (by omega), if_neg (by omega)]
/- laws -/
theorem law_look {α : Type} [Inhabited α] {f : Int → Pz α} (hf : ∀ c, PzLaw (f c)) : PzLaw (lookP f) := by
  refine ⟨fun {b v r} X h => ?_, fun {b v r} h => ?_, fun {b v r} c h hc => ?_, fun {b v r} c h hc => ?_⟩
  · match b with
    | [] => simp [lookP] at h
    | d :: q => exact (hf d).app X h
  · match b with
    | [] => simp [lookP] at h
    | d :: q => exact (hf d).len h
  · match b with
    | [] => simp [lookP] at h
    | d :: q =>
      match c with
      | 0 => simp [lookP]
      | c + 1 =>
        have := (hf d).cut (c + 1) h hc
        simpa [lookP] using this
  · match b with
    | [] => simp [lookP] at h
    | d :: q =>
      match c with
      | 0 => left; simp [lookP]
      | c + 1 =>
        have := (hf d).more (c + 1) h hc
        simpa [lookP] using this
theorem skipP_inv {b r : List Int} {u : Unit} (h : skipP b = (0, u, r)) : ∃ d, b = d :: r := by
  match b with
  | [] => simp [skipP] at h
  | d :: q =>
    simp [skipP] at h
    exact ⟨d, by rw [h]⟩
theorem law_skip : PzLaw skipP := by
  refine ⟨fun {b v r} X h => ?_, fun {b v r} h => ?_, fun {b v r} c h hc => ?_, fun {b v r} c h hc => ?_⟩
  all_goals obtain ⟨d, rfl⟩ := skipP_inv h
  · rfl
  · simp
  · obtain rfl : c = 0 := by simp at hc; omega
    simp [skipP]
  · match c with
    | 0 => simp at hc
    | c + 1 =>
      right
      simp [skipP]
theorem law_body (n : Nat) : PzLaw (bodyP n) := by
  have inv : ∀ {b v r}, bodyP n b = (0, v, r) → n ≤ b.length ∧ v = b.take n ∧ r = b.drop n := fun {b v r} h => by
    unfold bodyP at h
    split at h
    · simp at h
    · simp at h
      exact ⟨by omega, h.1.symm, h.2.symm⟩
  refine ⟨fun {b v r} X h => ?_, fun {b v r} h => ?_, fun {b v r} c h hc => ?_, fun {b v r} c h hc => ?_⟩
  all_goals obtain ⟨h1, rfl, rfl⟩ := inv h
  · unfold bodyP
    rw [if_neg (by simp; omega), List.take_append_of_le_length h1, List.drop_append_of_le_length h1]
  · simp
  · unfold bodyP
    rw [if_pos (by simp at hc ⊢; omega)]
  · right
    unfold bodyP
    have hc' : n ≤ c := by simp at hc; omega
    rw [if_neg (by simp; omega), List.take_take, List.drop_take]
    congr 3
    · omega
    · simp; omega
/- texts -/
theorem untG_say {stop : Int} {may : Int → Bool} : ∀ (t X : List Int) (k : Nat), goAll may k t = true → (∀ c ∈ t, c ≠ stop) → untG stop may k (t ++ stop :: X) = (0, t, stop :: X)
  | [], X, k, _, _ => by simp [untG]
  | c :: t, X, k, h, hs => by
    unfold goAll at h
    rw [Bool.and_eq_true] at h
    have ih := untG_say t X (k + 1) h.2 (fun x hx => hs x (by simp [hx]))
    simp only [List.cons_append, untG]
    rw [if_neg (hs c (by simp)), if_neg (by rw [h.1]; simp), ih]
    simp
theorem untG_inv {stop : Int} {may : Int → Bool} : ∀ {b : List Int} {k : Nat} {t r : List Int}, untG stop may k b = (0, t, r) → (∃ X, r = stop :: X ∧ b = t ++ r) ∧ (∀ c ∈ t, c ≠ stop) ∧ goAll may k t = true
  | [], k, t, r, h => by simp [untG] at h
  | c :: q, k, t, r, h => by
    unfold untG at h
    split at h
    · rename_i e
      simp at h
      obtain ⟨rfl, rfl⟩ := h
      exact ⟨⟨q, by rw [e], rfl⟩, (fun x hx => by cases hx), rfl⟩
    · rename_i hne
      split at h
      · simp at h
      · rename_i hok
        split at h
        · rename_i h0
          match hu : untG stop may (k + 1) q with
          | (e, t', r') =>
            rw [hu] at h h0
            simp at h h0
            subst h0
            obtain ⟨rfl, rfl⟩ := h
            obtain ⟨⟨X, i1, i2⟩, i3, i4⟩ := untG_inv hu
            refine ⟨⟨X, i1, by rw [i2]; simp⟩, fun x hx => ?_, ?_⟩
            · rcases List.mem_cons.1 hx with rfl | hx
              · exact hne
              · exact i3 x hx
            · unfold goAll
              rw [i4, Bool.and_true]
              simpa using hok
        · rename_i h0
          simp at h
          exact absurd h.1 h0
theorem untG_short {stop : Int} {may : Int → Bool} : ∀ (t X : List Int) (k c : Nat), goAll may k t = true → (∀ c ∈ t, c ≠ stop) → c ≤ t.length → (untG stop may k ((t ++ stop :: X).take c)).1 = 8
  | t, X, k, 0, _, _, _ => by simp [untG]
  | [], X, k, c + 1, _, _, hc => by simp at hc
  | d :: t, X, k, c + 1, h, hs, hc => by
    unfold goAll at h
    rw [Bool.and_eq_true] at h
    have ih := untG_short t X (k + 1) c h.2 (fun x hx => hs x (by simp [hx])) (by simpa using hc)
    simp only [List.cons_append, List.take_succ_cons, untG]
    rw [if_neg (hs d (by simp)), if_neg (by rw [h.1]; simp), ih]
    simp
theorem law_untG (stop : Int) (may : Int → Bool) : PzLaw (untG stop may 0) := by
  refine ⟨fun X h => ?_, fun h => ?_, fun c h hc => ?_, fun c h hc => ?_⟩
  all_goals
    obtain ⟨⟨Y, rfl, e⟩, h2, h3⟩ := untG_inv h
    rename_i t
    rw [e]
  · rw [List.append_assoc, List.cons_append]
    exact untG_say t _ 0 h3 h2
  · simp
  · rw [e] at hc
    exact untG_short t Y 0 c h3 h2 (by simp at hc; omega)
  · rw [e] at hc
    have hc' : t.length ≤ c := by simp at hc; omega
    by_cases hq : c = t.length
    · left
      exact untG_short t Y 0 c h3 h2 (by omega)
    · right
      have e2 : (t ++ stop :: Y).take c = t ++ stop :: Y.take (c - t.length - 1) := by
        rw [List.take_append, List.take_of_length_le hc']
        match hx : c - t.length with
        | 0 => omega
        | m + 1 => simp
      rw [e2, untG_say t _ 0 h3 h2]
      congr 3
      simp
      match hx : c - t.length with
      | 0 => omega
      | m + 1 => simp
theorem law_txt (stop : Int) (may : Int → Bool) (least : Nat) : PzLaw (txtP stop may least) := law_bind (law_untG _ _) fun _ => law_if (law_bind law_skip fun _ => law_ret _) (law_fail (by omega))
theorem law_val (least : Nat) : PzLaw (valP least) := law_bind (law_txt _ _ _) fun _ => law_bind (law_mts _) fun _ => law_ret _
theorem law_digQ (least most : Int) : PzLaw (digQ least most) := law_look fun _ => law_if (law_bind law_skip fun _ => law_ret _) (law_fail (by omega))
theorem law_lenR' : ∀ (b : List Int) (n : Int) {v : Int} {r : List Int}, lenR n b = (0, v, r) →
    (∀ X, lenR n (b ++ X) = (0, v, r ++ X) ∨ b = []) ∧ r.length ≤ b.length ∧ (∀ c, c < b.length - r.length → (lenR n (b.take c)).1 = 8) ∧ (∀ c, b.length - r.length ≤ c → (lenR n (b.take c)).1 = 8 ∨ lenR n (b.take c) = (0, v, r.take (c - (b.length - r.length)))) := by
  intro b
  induction b with
  | nil =>
    intro n v r h
    unfold lenR at h
    split at h
    · simp at h
    · rename_i h0
      simp at h
      obtain ⟨rfl, rfl⟩ := h
      refine ⟨fun X => Or.inr rfl, by simp, fun c hc => by simp at hc, fun c hc => Or.inr ?_⟩
      simp [lenR, h0]
  | cons d q ih =>
    intro n v r h
    unfold lenR at h
    by_cases c1 : ¬ 0 < n ∨ d = 13
    · rw [if_pos c1] at h
      simp at h
      obtain ⟨rfl, rfl⟩ := h
      refine ⟨fun X => Or.inl ?_, by simp, fun c hc => by simp at hc, fun c hc => ?_⟩
      · rw [List.cons_append, lenR, if_pos c1]
      · match c with
        | 0 =>
          by_cases h0 : 0 < n
          · left; simp [lenR, h0]
          · right; simp [lenR, h0]
        | c + 1 =>
          right
          rw [List.take_succ_cons, lenR, if_pos c1]
          simp
    · rw [if_neg c1] at h
      have hn : 0 < n := by omega
      by_cases c2 : d < 48 ∨ 57 < d
      · rw [if_pos c2] at h; simp at h
      · rw [if_neg c2] at h
        by_cases c3 : 8000 < 10 * n + (d - 48)
        · rw [if_pos c3] at h; simp at h
        · rw [if_neg c3] at h
          obtain ⟨i1, i2, i3, i4⟩ := ih _ h
          have hq : q ≠ [] := by
            rintro rfl
            unfold lenR at h
            rw [if_pos (by omega)] at h
            simp at h
          refine ⟨fun X => Or.inl ?_, by simp; omega, fun c hc => ?_, fun c hc => ?_⟩
          · rw [List.cons_append, lenR, if_neg c1, if_neg c2, if_neg c3]
            exact (i1 X).resolve_right hq
          · match c with
            | 0 => simp [lenR, hn]
            | c + 1 =>
              rw [List.take_succ_cons, lenR, if_neg c1, if_neg c2, if_neg c3]
              exact i3 c (by simp at hc; omega)
          · match c with
            | 0 => left; simp [lenR, hn]
            | c + 1 =>
              rw [List.take_succ_cons, lenR, if_neg c1, if_neg c2, if_neg c3]
              have e : c + 1 - ((d :: q).length - r.length) = c - (q.length - r.length) := by simp; omega
              rw [e]
              exact i4 c (by simp at hc; omega)
theorem law_lenR (n : Int) : PzLaw (lenR n) := by
  refine ⟨fun {b v r} X h => ?_, fun h => (law_lenR' _ _ h).2.1, fun c h => (law_lenR' _ _ h).2.2.1 c, fun c h => (law_lenR' _ _ h).2.2.2 c⟩
  rcases (law_lenR' _ _ h).1 X with e | e
  · exact e
  · subst e
    unfold lenR at h
    split at h
    · simp at h
    · rename_i h0
      simp at h
      obtain ⟨rfl, rfl⟩ := h
      rw [List.nil_append]
      match X with
      | [] => simp [lenR, h0]
      | c :: X => rw [lenR, if_pos (Or.inl h0)]
theorem law_lenQ (least : Int) : PzLaw (lenQ least) := law_bind (law_mts _) fun _ => law_bind (law_digQ _ _) fun _ => law_bind (law_lenR _) fun _ => law_bind (law_mts _) fun _ => law_ret _
theorem law_last {least : Int} {coded : Bool} {n : List Int} {p : Pz (Int × Bool)} (h : lastP least coded n = some p) : PzLaw p := by
  unfold lastP at h
  split at h
  · cases h; exact law_bind (law_lenQ _) fun _ => law_ret _
  · split at h
    · cases h; exact law_bind (law_mts _) fun _ => law_ret _
    · cases h
theorem law_headB {least : Int} {coded : Bool} {acc : List Fd} {next : List Int → Pz Hd} (hn : ∀ n, PzLaw (next n)) : PzLaw (headB least coded acc next) := by
  refine law_look fun _ => law_if (law_bind (law_mts _) fun _ => law_ret _) (law_bind (law_txt _ _ _) fun n => ?_)
  split
  · rename_i p hp
    exact law_bind (law_last hp) fun _ => law_bind (law_mts _) fun _ => law_ret _
  · exact law_if (law_fail (by omega)) (hn _)
theorem law_head (least : Int) (coded : Bool) : ∀ (k : Nat) (acc : List Fd), PzLaw (headP least coded k acc)
  | 0, _ => law_headB fun _ => law_fail (by omega)
  | k + 1, _ => law_headB fun _ => law_bind (law_mts _) fun _ => law_bind (law_val _) fun _ => law_head least coded k _
theorem law_ask : PzLaw askP := law_bind (law_txt _ _ _) fun _ => law_bind (law_txt _ _ _) fun _ => law_bind (law_mts _) fun _ => law_bind (law_val _) fun _ => law_bind (law_head _ _ _ _) fun _ => law_bind (law_body _) fun _ => law_ret _
theorem law_codeQ : PzLaw codeQ := law_bind (law_digQ _ _) fun _ => law_bind (law_digQ _ _) fun _ => law_bind (law_digQ _ _) fun _ => law_bind (law_mts _) fun _ => law_ret _
end Go.Proofs.YtibjbdcmhjbndaaDoor
