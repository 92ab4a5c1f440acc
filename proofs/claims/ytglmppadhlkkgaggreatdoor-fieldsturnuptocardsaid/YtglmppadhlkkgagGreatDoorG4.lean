/-
  FROM THE ONE TO THE OTHER: the document's fields as mathematics; what goes over comes over. No claim by itself.
-/
import Derived.Laws.AppendOwnNone
import Derived.BigQuiet
import Derived.Deep.QuietTactic
import Derived.Test.YtglmppadhlkkgagGreatDoorG1
import Derived.Test.YtglmppadhlkkgagGreatDoorG3
import Derived.Test.YtglmppadhlkkgagGreatDoorG2
namespace Go.Proofs.YtglmppadhlkkgagGreatDoor
set_option maxRecDepth 100000
def methodP : List Int := [58, 109, 101, 116, 104, 111, 100]
def pathP : List Int := [58, 112, 97, 116, 104]
def hostP : List Int := [58, 104, 111, 115, 116]
def codeP : List Int := [58, 99, 111, 100, 101]
def cookieN : List Int := [99, 111, 111, 107, 105, 101]
def connN : List Int := [99, 111, 110, 110, 101, 99, 116, 105, 111, 110]
def keepX : List Int := [107, 101, 101, 112]
def upgradeN : List Int := [117, 112, 103, 114, 97, 100, 101]
def btwL (n : List Int) : Bool := decide (n = connN ∨ n = codingN ∨ n = keepX ∨ n = upgradeN)
/-- Does a name begin with ':'? -/
def psdL (n : List Int) : Bool := match n with
  | [] => false
  | c :: _ => decide (c = 58)
/-- A text, cut at two bytes wherever they stand side by side, from left to right. -/
def hdCons (c : Int) : List (List Int) → List (List Int)
  | [] => [[c]]
  | x :: l => (c :: x) :: l
def cut2 (a b : Int) : List Int → List (List Int)
  | [] => [[]]
  | [c] => [[c]]
  | c :: d :: r => if c = a ∧ d = b then [] :: cut2 a b r else hdCons c (cut2 a b (d :: r))
def join2 (a b : Int) : List (List Int) → List Int
  | [] => []
  | [x] => x
  | x :: y :: l => x ++ ([a, b] ++ join2 a b (y :: l))
theorem cut2_ne (a b : Int) : ∀ s, cut2 a b s ≠ []
  | [] => by simp [cut2]
  | [c] => by simp [cut2]
  | c :: d :: r => by
    unfold cut2
    split
    · simp
    · cases h : cut2 a b (d :: r) with
      | nil => simp [hdCons]
      | cons x l => simp [hdCons]
theorem join2_cons {a b : Int} {x : List Int} {l : List (List Int)} (h : l ≠ []) : join2 a b (x :: l) = x ++ ([a, b] ++ join2 a b l) := by
  cases l with
  | nil => exact absurd rfl h
  | cons y l => rfl
theorem join2_hd {a b : Int} (c : Int) {l : List (List Int)} (h : l ≠ []) : join2 a b (hdCons c l) = c :: join2 a b l := by
  match l with
  | [] => exact absurd rfl h
  | [x] => rfl
  | x :: y :: l => rfl
theorem join_cut (a b : Int) : ∀ s, join2 a b (cut2 a b s) = s
  | [] => rfl
  | [c] => rfl
  | c :: d :: r => by
    unfold cut2
    split
    · rename_i h
      rw [join2_cons (cut2_ne a b r), join_cut a b r, h.1, h.2]
      rfl
    · rw [join2_hd c (cut2_ne a b _), join_cut a b (d :: r)]
/- clean -/
def namedL (l : List Fd) : List (List Int) := l.flatMap fun f => if f.1 = connN then (cut2 44 32 f.2).filter tokL else []
def goneL (named : List (List Int)) (n : List Int) : Bool := btwL n || decide (n = lengthN) || decide (n ∈ named)
def cleanL (l : List Fd) : List Fd := l.filter fun f => !goneL (namedL l) f.1
theorem named_clean (l : List Fd) : namedL (cleanL l) = [] := by
  unfold namedL
  rw [List.flatMap_eq_nil_iff]
  intro f hf
  rw [if_neg]
  intro e
  have := (List.mem_filter.1 hf).2
  rw [e] at this
  simp [goneL, btwL] at this
theorem clean_clean (l : List Fd) : cleanL (cleanL l) = cleanL l := by
  have h : cleanL (cleanL l) = (cleanL l).filter fun f => !goneL [] f.1 := by
    show (cleanL l).filter _ = _
    rw [named_clean]
  rw [h, List.filter_eq_self]
  intro f hf
  have := (List.mem_filter.1 hf).2
  simp [goneL] at this ⊢
  exact ⟨this.1.1, this.1.2⟩
/- a request's fields, and back -/
def pcsL (f : Fd) : List Fd := if f.1 = cookieN then (cut2 59 32 f.2).map fun v => (cookieN, v) else [f]
def listL (r : Rq) : List Fd := [(methodP, r.method), (pathP, r.path), (hostP, r.host)] ++ r.fields.flatMap pcsL
/-- The three that begin with ':', none behind another field. -/
def psdF : List Fd → Bool → Option (List Int) → Option (List Int) → Option (List Int) → Option (List Int × List Int × List Int)
  | [], _, m, p, h => match m, p, h with
    | some m, some p, some h => some (m, p, h)
    | _, _, _ => none
  | f :: l, r, m, p, h => if psdL f.1 = false then psdF l true m p h else if r = true then none else
    if f.1 = methodP then (if m.isSome then none else psdF l r (some f.2) p h) else
    if f.1 = pathP then (if p.isSome then none else psdF l r m (some f.2) h) else
    if f.1 = hostP then (if h.isSome then none else psdF l r m p (some f.2)) else none
/-- The others, cookies put together. -/
def rstF (n : Nat) : List Fd → List Fd → Option Nat → Option (List Fd)
  | [], acc, _ => some acc
  | f :: l, acc, ck => if btwL f.1 = true ∨ f.1 = hostN then none else if f.1 = lengthN then (if f.2 = decL n then rstF n l acc ck else none) else
    if f.1 = cookieN then (match ck with
      | some k => rstF n l (acc.modify k fun g => (g.1, g.2 ++ ([59, 32] ++ f.2))) ck
      | none => rstF n l (acc ++ [f]) (some acc.length)) else rstF n l (acc ++ [f]) ck
def askW (l : List Fd) (body : List Int) : Int × Rq := match psdF l false none none none with
  | none => (3, default)
  | some (m, p, h) => match rstF body.length (l.filter fun f => !psdL f.1) [] none with
    | none => (3, default)
    | some fs => if askE ⟨m, p, h, fs, body⟩ = 0 then (0, ⟨m, p, h, fs, body⟩) else (askE ⟨m, p, h, fs, body⟩, default)
def listW (r : Rq) : Int × List Fd := if askE r = 0 then (0, listL r) else (askE r, [])
theorem psd_all : ∀ (l : List Fd) (r : Bool) (m p h : List Int), (∀ f ∈ l, psdL f.1 = false) → psdF l r (some m) (some p) (some h) = some (m, p, h)
  | [], r, m, p, h, _ => rfl
  | f :: l, r, m, p, h, hf => by
    unfold psdF
    rw [if_pos (hf f (by simp))]
    exact psd_all l true m p h (fun g hg => hf g (by simp [hg]))
theorem psd_list {r : Rq} (h : ∀ f ∈ r.fields.flatMap pcsL, psdL f.1 = false) : psdF (listL r) false none none none = some (r.method, r.path, r.host) := by
  show psdF ((methodP, r.method) :: (pathP, r.path) :: (hostP, r.host) :: r.fields.flatMap pcsL) false none none none = _
  have e1 : psdL methodP = true := rfl
  have e2 : psdL pathP = true := rfl
  have e3 : psdL hostP = true := rfl
  have n1 : pathP ≠ methodP := by decide
  have n2 : hostP ≠ methodP := by decide
  have n3 : hostP ≠ pathP := by decide
  rw [psdF, if_neg (by rw [e1]; simp), if_neg (by simp), if_pos rfl, if_neg (by simp)]
  rw [psdF, if_neg (by rw [e2]; simp), if_neg (by simp), if_neg n1, if_pos rfl, if_neg (by simp)]
  rw [psdF, if_neg (by rw [e3]; simp), if_neg (by simp), if_neg n2, if_neg n3, if_pos rfl, if_neg (by simp)]
  exact psd_all _ _ _ _ _ h
/- cookies -/
def tlJ (qs : List (List Int)) : List Int := qs.flatMap fun q => [59, 32] ++ q
theorem join_tl : ∀ (p : List Int) (qs : List (List Int)), join2 59 32 (p :: qs) = p ++ tlJ qs
  | p, [] => by simp [join2, tlJ]
  | p, q :: qs => by
    rw [join2_cons (by simp), join_tl q qs]
    simp [tlJ]
theorem mod_last {α : Type} (acc : List α) (x : α) (g : α → α) : (acc ++ [x]).modify acc.length g = acc ++ [g x] := by
  induction acc with
  | nil => rfl
  | cons y acc ih => simpa using ih
theorem ck_ok : btwL cookieN = false ∧ cookieN ≠ hostN ∧ cookieN ≠ lengthN := by decide
theorem rst_more (n : Nat) (acc : List Fd) (l : List Fd) : ∀ (qs : List (List Int)) (v : List Int), rstF n (qs.map (fun v => (cookieN, v)) ++ l) (acc ++ [(cookieN, v)]) (some acc.length) = rstF n l (acc ++ [(cookieN, v ++ tlJ qs)]) (some acc.length)
  | [], v => by simp [tlJ]
  | q :: qs, v => by
    obtain ⟨k1, k2, k3⟩ := ck_ok
    show rstF n ((cookieN, q) :: (qs.map (fun v => (cookieN, v)) ++ l)) _ _ = _
    rw [rstF, if_neg (by simp [k1, k2]), if_neg k3, if_pos rfl]
    show rstF n _ ((acc ++ [(cookieN, v)]).modify acc.length fun g => (g.1, g.2 ++ ([59, 32] ++ q))) _ = _
    rw [mod_last, rst_more n acc l qs]
    simp [tlJ]
theorem rst_cookie (n : Nat) (acc : List Fd) (l : List Fd) (v : List Int) : rstF n ((cut2 59 32 v).map (fun v => (cookieN, v)) ++ l) acc none = rstF n l (acc ++ [(cookieN, v)]) (some acc.length) := by
  obtain ⟨k1, k2, k3⟩ := ck_ok
  cases h : cut2 59 32 v with
  | nil => exact absurd h (cut2_ne _ _ _)
  | cons p qs =>
    have hj := join_cut 59 32 v
    rw [h, join_tl] at hj
    show rstF n ((cookieN, p) :: (qs.map (fun v => (cookieN, v)) ++ l)) _ _ = _
    rw [rstF, if_neg (by simp [k1, k2]), if_neg k3, if_pos rfl]
    show rstF n _ (acc ++ [(cookieN, p)]) (some acc.length) = _
    rw [rst_more, hj]
def okF (f : Fd) : Prop := btwL f.1 = false ∧ f.1 ≠ hostN ∧ f.1 ≠ lengthN
def cksL (l : List Fd) : Nat := (l.filter fun f => decide (f.1 = cookieN)).length
theorem rst_list (n : Nat) : ∀ (l acc : List Fd) (ck : Option Nat), (∀ f ∈ l, okF f) → (cksL l ≤ 1 ∧ (ck ≠ none → cksL l = 0)) → rstF n (l.flatMap pcsL) acc ck = some (acc ++ l)
  | [], acc, ck, _, _ => by simp [rstF]
  | f :: l, acc, ck, hf, hc => by
    obtain ⟨k1, k2, k3⟩ := hf f (by simp)
    have hl : ∀ g ∈ l, okF g := fun g hg => hf g (by simp [hg])
    by_cases e : f.1 = cookieN
    · have hcnt : cksL (f :: l) = cksL l + 1 := by unfold cksL; simp [e]
      have hck : ck = none := by
        cases ck with
        | none => rfl
        | some k => have := hc.2 (by simp); omega
      subst hck
      rw [List.flatMap_cons]
      have hp : pcsL f = (cut2 59 32 f.2).map fun v => (cookieN, v) := by unfold pcsL; rw [if_pos e]
      rw [hp, rst_cookie, rst_list n l _ _ hl ⟨by omega, fun _ => by omega⟩]
      simp [← e]
    · have hcnt : cksL (f :: l) = cksL l := by unfold cksL; simp [e]
      have hp : pcsL f = [f] := by unfold pcsL; rw [if_neg e]
      rw [List.flatMap_cons, hp]
      show rstF n (f :: l.flatMap pcsL) acc ck = _
      rw [rstF.eq_def]
      show (if btwL f.1 = true ∨ f.1 = hostN then none else _) = _
      rw [if_neg (by simp [k1, k2]), if_neg k3, if_neg e, rst_list n l _ _ hl (by rw [hcnt] at hc; exact hc)]
      simp
theorem rst_none (n : Nat) : ∀ (l acc : List Fd) (ck : Option Nat), (∃ f ∈ l, btwL f.1 = true) → rstF n l acc ck = none
  | [], _, _, h => by obtain ⟨f, hf, _⟩ := h; cases hf
  | f :: l, acc, ck, h => by
    rw [rstF.eq_def]
    show (if btwL f.1 = true ∨ f.1 = hostN then none else _) = _
    by_cases hb : btwL f.1 = true
    · rw [if_pos (Or.inl hb)]
    · have h' : ∃ g ∈ l, btwL g.1 = true := by
        obtain ⟨g, hg, h2⟩ := h
        rcases List.mem_cons.1 hg with rfl | hg
        · exact absurd h2 hb
        · exact ⟨g, hg, h2⟩
      have ih := fun acc ck => rst_none n l acc ck h'
      split
      · rfl
      · split
        · split
          · exact ih _ _
          · rfl
        · split
          · cases ck <;> exact ih _ _
          · exact ih _ _
/- names that may be -/
theorem flds_each : ∀ {l : List Fd}, fldsE l = 0 → ∀ f ∈ l, fldE f = 0
  | [], _, f, hf => by cases hf
  | g :: l, h, f, hf => by
    unfold fldsE at h
    split at h
    · rename_i h1
      rcases List.mem_cons.1 hf with rfl | hf
      · exact h1
      · exact flds_each h f hf
    · rename_i h1
      exact absurd h h1
theorem flds_all : ∀ {l : List Fd}, (∀ f ∈ l, fldE f = 0) → fldsE l = 0
  | [], _ => rfl
  | g :: l, h => by
    unfold fldsE
    rw [if_pos (h g (by simp))]
    exact flds_all (fun f hf => h f (by simp [hf]))
theorem fld_name {f : Fd} (h : fldE f = 0) : nameL f.1 = true ∧ f.1 ≠ hostN ∧ f.1 ≠ lengthN ∧ f.1 ≠ codingN := by
  unfold fldE at h
  split at h
  · rename_i h1
    split at h
    · omega
    · rename_i h2
      exact ⟨h1.1, fun e => h2 (Or.inl e), fun e => h2 (Or.inr (Or.inl e)), fun e => h2 (Or.inr (Or.inr e))⟩
  · omega
theorem name_psd {n : List Int} (h : nameL n = true) : psdL n = false := by
  unfold nameL tokL at h
  cases n with
  | nil => rfl
  | cons c r =>
    simp [ok0, isSmall, isGreat] at h
    simp [psdL]
    omega
/- what goes over comes over -/
theorem pcs_psd {l : List Fd} (h : ∀ f ∈ l, nameL f.1 = true) : ∀ f ∈ l.flatMap pcsL, psdL f.1 = false := by
  intro f hf
  obtain ⟨g, hg, h2⟩ := List.mem_flatMap.1 hf
  unfold pcsL at h2
  split at h2
  · obtain ⟨v, _, rfl⟩ := List.mem_map.1 h2
    rfl
  · rw [List.mem_singleton.1 h2]
    exact name_psd (h g hg)
theorem list_rest {r : Rq} (h : ∀ f ∈ r.fields.flatMap pcsL, psdL f.1 = false) : (listL r).filter (fun f => !psdL f.1) = r.fields.flatMap pcsL := by
  have e : (r.fields.flatMap pcsL).filter (fun f => !psdL f.1) = r.fields.flatMap pcsL := List.filter_eq_self.2 (fun f hf => by rw [h f hf]; rfl)
  show ((methodP, r.method) :: (pathP, r.path) :: (hostP, r.host) :: r.fields.flatMap pcsL).filter _ = _
  rw [List.filter_cons_of_neg (by show ¬ (!psdL methodP) = true; decide), List.filter_cons_of_neg (by show ¬ (!psdL pathP) = true; decide), List.filter_cons_of_neg (by show ¬ (!psdL hostP) = true; decide), e]
theorem ask_flds {r : Rq} (h : askE r = 0) : fldsE r.fields = 0 := by
  unfold askE at h
  split at h
  · omega
  · split at h
    · exact h
    · omega
theorem ask_list {r : Rq} (h : askE r = 0) (hc : cksL r.fields ≤ 1) (hb : ∀ f ∈ r.fields, btwL f.1 = false) : askW (listL r) r.body = (0, r) := by
  have hf := flds_each (ask_flds h)
  have hp := pcs_psd (l := r.fields) (fun f hf' => (fld_name (hf f hf')).1)
  unfold askW
  rw [psd_list hp, list_rest hp]
  simp only []
  rw [rst_list _ r.fields [] none (fun f hf' => ⟨hb f hf', (fld_name (hf f hf')).2.1, (fld_name (hf f hf')).2.2.1⟩) ⟨hc, fun h => absurd rfl h⟩]
  simp only [List.nil_append]
  rw [if_pos h]
theorem ask_btw {r : Rq} (h : askE r = 0) (hb : ∃ f ∈ r.fields, btwL f.1 = true) : askW (listL r) r.body = (3, default) := by
  have hf := flds_each (ask_flds h)
  have hp := pcs_psd (l := r.fields) (fun f hf' => (fld_name (hf f hf')).1)
  unfold askW
  rw [psd_list hp, list_rest hp]
  simp only []
  rw [rst_none]
  obtain ⟨f, hf', h2⟩ := hb
  refine ⟨f, List.mem_flatMap.2 ⟨f, hf', ?_⟩, h2⟩
  unfold pcsL
  rw [if_neg (fun e => by rw [e] at h2; exact absurd h2 (by decide))]
  simp
/- replies -/
def tellW (a : Rp) : Int × List Fd := if tellE a 0 = 0 then (0, (codeP, decL a.code.toNat) :: (cleanL a.fields ++ if noBody false a.code = true then [] else [(lengthN, decL a.body.length)])) else (tellE a 0, [])
def code3 (v : List Int) : Option Int := match v with
  | [a, b, c] => if 49 ≤ a ∧ a ≤ 53 ∧ 48 ≤ b ∧ b ≤ 57 ∧ 48 ≤ c ∧ c ≤ 57 then some ((a - 48) * 100 + (b - 48) * 10 + (c - 48)) else none
  | _ => none
def replyW (l : List Fd) (body : List Int) : Int × Rp := match l with
  | [] => (3, default)
  | f :: r => if f.1 ≠ codeP ∨ r.any (fun g => psdL g.1) = true then (3, default) else match code3 f.2 with
    | none => (2, default)
    | some c => if tellE ⟨c, r.filter fun g => !decide (g.1 = lengthN), body⟩ 0 = 0 then (0, ⟨c, r.filter fun g => !decide (g.1 = lengthN), body⟩) else (tellE ⟨c, r.filter fun g => !decide (g.1 = lengthN), body⟩ 0, default)
theorem dec_three {n : Nat} (h1 : 100 ≤ n) (h2 : n ≤ 599) : decL n = [dc (n / 100), dc (n / 10 % 10), dc (n % 10)] := by
  rw [decL, if_neg (by omega), decL, if_neg (by omega), decL, if_pos (by omega)]
  simp [Nat.div_div_eq_div_mul]
theorem code_dec {n : Nat} (h1 : 100 ≤ n) (h2 : n ≤ 599) : code3 (decL n) = some (n : Int) := by
  rw [dec_three h1 h2]
  unfold code3 dc
  simp only []
  rw [if_pos (by omega)]
  congr 1
  omega
theorem reply_tell {a : Rp} (h : tellE a 0 = 0) : replyW (tellW a).2 a.body = (0, ⟨a.code, cleanL a.fields, a.body⟩) := by
  have h0 := h
  unfold tellE at h
  split at h
  · omega
  · rename_i h1
    split at h
    · omega
    · rename_i h2
      have hf := flds_each h
      obtain ⟨n, hn⟩ : ∃ n : Nat, a.code = n := ⟨a.code.toNat, by omega⟩
      have hcl : ∀ f ∈ cleanL a.fields, fldE f = 0 := fun f hf' => hf f (List.mem_filter.1 hf').1
      have hlen : (cleanL a.fields).length ≤ a.fields.length := List.length_filter_le _ _
      have hfil : ∀ T : List Fd, (T = [] ∨ T = [(lengthN, decL a.body.length)]) → (cleanL a.fields ++ T).filter (fun g => !decide (g.1 = lengthN)) = cleanL a.fields := by
        intro T hT
        have e1 : (cleanL a.fields).filter (fun g => !decide (g.1 = lengthN)) = cleanL a.fields := List.filter_eq_self.2 (fun f hf' => by have := (fld_name (hcl f hf')).2.2.1; simp [this])
        rcases hT with rfl | rfl
        · rw [List.append_nil, e1]
        · rw [List.filter_append, e1]; simp
      have hany : ∀ T : List Fd, (T = [] ∨ T = [(lengthN, decL a.body.length)]) → (cleanL a.fields ++ T).any (fun g => psdL g.1) = false := by
        intro T hT
        have e1 : (cleanL a.fields).any (fun g => psdL g.1) = false := List.any_eq_false.2 (fun f hf' => by rw [name_psd (fld_name (hcl f hf')).1]; simp)
        rcases hT with rfl | rfl
        · rw [List.append_nil, e1]
        · rw [List.any_append, e1]; rfl
      obtain ⟨T, hT, hTc⟩ : ∃ T : List Fd, (T = [] ∨ T = [(lengthN, decL a.body.length)]) ∧ (if noBody false a.code = true then [] else [(lengthN, decL a.body.length)]) = T := by
        by_cases e : noBody false a.code = true
        · exact ⟨[], Or.inl rfl, by rw [if_pos e]⟩
        · exact ⟨_, Or.inr rfl, by rw [if_neg e]⟩
      unfold tellW
      rw [if_pos h0, hTc]
      show replyW ((codeP, decL a.code.toNat) :: (cleanL a.fields ++ T)) a.body = _
      unfold replyW
      simp only []
      rw [if_neg (by rw [hany T hT]; simp)]
      have hc : code3 (decL a.code.toNat) = some a.code := by rw [hn]; exact code_dec (by omega) (by omega)
      simp only [hc, hfil T hT]
      have ht : tellE ⟨a.code, cleanL a.fields, a.body⟩ 0 = 0 := by
        unfold tellE
        rw [if_neg (by simp only []; omega), if_neg h2]
        exact flds_all hcl
      rw [if_pos ht]
/- what is clean -/
theorem clean_names {l : List Fd} {f : Fd} (h : f ∈ cleanL l) : btwL f.1 = false ∧ f.1 ≠ lengthN := by
  have := (List.mem_filter.1 h).2
  simp [goneL] at this
  exact ⟨this.1.1, this.1.2⟩
theorem clean_sub (l : List Fd) : (cleanL l).Sublist l := List.filter_sublist
/-- The first place of one that is there. -/
theorem sub_first {α : Type} [DecidableEq α] {x : α} {c : List α} : ∀ {l : List α}, (x :: c).Sublist l → ∃ a b, l = a ++ x :: b ∧ x ∉ a ∧ c.Sublist b
  | [], h => by cases h
  | y :: l, h => by
    by_cases e : y = x
    · subst e
      refine ⟨[], l, rfl, by simp, ?_⟩
      cases h with
      | cons _ h => exact (List.sublist_cons_self _ _).trans h
      | cons_cons _ h => exact h
    · cases h with
      | cons _ h =>
        obtain ⟨a, b, h1, h2, h3⟩ := sub_first h
        exact ⟨y :: a, b, by rw [h1]; rfl, by simp [h2]; exact fun e2 => e e2.symm, h3⟩
      | cons_cons _ h => exact absurd rfl e
theorem cut2_no {a b : Int} : ∀ {s : List Int}, a ∉ s → cut2 a b s = [s]
  | [], _ => rfl
  | [c], _ => rfl
  | c :: d :: r, h => by
    unfold cut2
    rw [if_neg (fun e => h (by simp [e.1])), cut2_no (s := d :: r) (fun e => h (by simp at e ⊢; exact Or.inr e))]
    rfl
theorem tok_comma {n : List Int} (h : tokL n = true) : (44 : Int) ∉ n := fun e => by
  unfold tokL at h
  simp only [Bool.and_eq_true, List.all_eq_true] at h
  have := h.1.1 44 e
  simp [ok0, isSmall, isGreat] at this
theorem named_more {n : List Int} (h : tokL n = true) (l : List Fd) : namedL ((connN, n) :: l) = n :: namedL l := by
  unfold namedL
  rw [List.flatMap_cons, if_pos rfl, cut2_no (tok_comma h)]
  simp [h]
theorem clean_more {n : List Int} (h : tokL n = true) (l : List Fd) : (∀ f ∈ cleanL ((connN, n) :: l), f.1 ≠ n) ∧ (cleanL ((connN, n) :: l)).length ≤ (cleanL l).length := by
  have e : cleanL ((connN, n) :: l) = l.filter fun f => !goneL (n :: namedL l) f.1 := by
    unfold cleanL
    rw [named_more h, List.filter_cons_of_neg (by simp [goneL, btwL])]
  rw [e]
  constructor
  · intro f hf
    have := (List.mem_filter.1 hf).2
    simp [goneL] at this
    exact this.2.1
  · unfold cleanL
    rw [← List.countP_eq_length_filter, ← List.countP_eq_length_filter]
    refine List.countP_mono_left (fun f _ hf => ?_)
    simp [goneL] at hf ⊢
    exact ⟨hf.1, hf.2.2⟩
/- how a walk cuts: what is cut already, and what is still to be looked at -/
theorem cut2_take {a b : Int} : ∀ {x : List Int} {r : List Int}, (∀ k, k < x.length → ¬ ((x ++ a :: b :: r).getD k 0 = a ∧ (x ++ a :: b :: r).getD (k + 1) 0 = b)) → cut2 a b (x ++ a :: b :: r) = x :: cut2 a b r
  | [], r, _ => by
    show cut2 a b (a :: b :: r) = _
    rw [cut2, if_pos ⟨rfl, rfl⟩]
  | c :: x, r, h => by
    have ih := cut2_take (x := x) (r := r) (fun k hk => by
      have := h (k + 1) (by simp; omega)
      simpa using this)
    have h0 := h 0 (by simp)
    cases hx : x ++ a :: b :: r with
    | nil => simp at hx
    | cons d y =>
      rw [List.cons_append, hx]
      have h1 : ¬ (c = a ∧ d = b) := by
        rw [List.cons_append, hx] at h0
        simpa using h0
      rw [cut2, if_neg h1, ← hx, ih]
      rfl
theorem cut2_end {a b : Int} : ∀ {x : List Int}, (∀ k, k + 1 < x.length → ¬ (x.getD k 0 = a ∧ x.getD (k + 1) 0 = b)) → cut2 a b x = [x]
  | [], _ => rfl
  | [c], _ => rfl
  | c :: d :: r, h => by
    have h0 := h 0 (by simp)
    rw [cut2, if_neg (by simpa using h0), cut2_end (x := d :: r) (fun k hk => by
      have := h (k + 1) (by simp at hk ⊢; omega)
      simpa using this)]
    rfl
/-- How far a text was cut: what came of it, where the next piece begins, how far it was looked at. -/
structure CutAt (a b : Int) (s : List Int) (done : List (List Int)) (p k : Nat) : Prop where
  all : cut2 a b s = done ++ cut2 a b (s.drop p)
  le : p ≤ s.length
  most : k ≤ s.length + 1
  no : ∀ j, p ≤ j → j < k → j + 1 < s.length → ¬ (s.getD j 0 = a ∧ s.getD (j + 1) 0 = b)
theorem CutAt.begin (a b : Int) (s : List Int) : CutAt a b s [] 0 0 := ⟨by simp, Nat.zero_le _, Nat.zero_le _, fun j _ h => by omega⟩
variable {a b : Int} {s : List Int} {done : List (List Int)} {p k : Nat}
theorem CutAt.next (h : CutAt a b s done p k) (hk : k ≤ s.length) (hn : p ≤ k → k + 1 < s.length → ¬ (s.getD k 0 = a ∧ s.getD (k + 1) 0 = b)) : CutAt a b s done p (k + 1) :=
  ⟨h.all, h.le, by omega, fun j h1 h2 h3 => by
    by_cases e : j = k
    · subst e; exact hn h1 h3
    · exact h.no j h1 (by omega) h3⟩
theorem CutAt.cut (h : CutAt a b s done p k) (hp : p ≤ k) (hk : k + 1 < s.length) (he : s.getD k 0 = a ∧ s.getD (k + 1) 0 = b) : CutAt a b s (done ++ [(s.drop p).take (k - p)]) (k + 2) (k + 1) := by
  refine ⟨?_, by omega, by omega, fun j h1 h2 => by omega⟩
  have g0 : s.getD k 0 = s[k] := by simp [List.getD, List.getElem?_eq_getElem (show k < s.length by omega)]
  have g1 : s.getD (k + 1) 0 = s[k + 1] := by simp [List.getD, List.getElem?_eq_getElem hk]
  have hs : s.drop p = (s.drop p).take (k - p) ++ a :: b :: s.drop (k + 2) := by
    have e1 : s.drop p = (s.drop p).take (k - p) ++ (s.drop p).drop (k - p) := (List.take_append_drop _ _).symm
    rw [List.drop_drop, show p + (k - p) = k by omega, List.drop_eq_getElem_cons (show k < s.length by omega), List.drop_eq_getElem_cons hk] at e1
    rw [← he.1, ← he.2, g0, g1]
    exact e1
  have hl : ((s.drop p).take (k - p)).length = k - p := by rw [List.length_take, List.length_drop]; omega
  rw [h.all, List.append_assoc]
  congr 1
  conv => lhs; rw [hs]
  rw [cut2_take]
  · rfl
  · intro j hj
    rw [hl] at hj
    rw [← hs]
    have := h.no (p + j) (by omega) (by omega) (by omega)
    simpa [List.getD, List.getElem?_drop, Nat.add_assoc] using this
theorem CutAt.last (h : CutAt a b s done p s.length) : cut2 a b s = done ++ [s.drop p] := by
  rw [h.all, cut2_end]
  intro j hj
  rw [List.length_drop] at hj
  have := h.no (p + j) (by omega) (by omega) (by omega)
  simpa [List.getD, List.getElem?_drop, Nat.add_assoc] using this
end Go.Proofs.YtglmppadhlkkgagGreatDoor
/-
  FROM THE ONE TO THE OTHER: rows of fields that a call itself made; what is asked. No claim by itself.
-/
namespace Go.Proofs.YtglmppadhlkkgagGreatDoor
open Go Go.RowKit
set_option maxRecDepth 100000
theorem n_infoF : (Tryz.prog.info? 51).map (fun i => (i.zero, i.size, i.bytes)) = some (some (.agg #[.string ⟨#[]⟩, .string ⟨#[]⟩]), 2, 32) := by kernel_rfl
abbrev FOwn (w : World) (base : Nat) (v : Value) (FL : List (ByteArray × ByteArray)) : Prop := w.ownsRow base 51 2 v FL.length (fcells FL)
theorem fown_tn {S : Nat → Prop} {base : Nat} {w w' : World} {v : Value} {FL : List (ByteArray × ByteArray)} (h : FOwn w base v FL) (hl : ∀ k, S k → k < base) (ht : Tn S w w') : FOwn w' base v FL := by
  obtain ⟨h1, ⟨rfl, h0⟩ | ⟨g, cap, cur, rfl, hb, hc, hr⟩⟩ := id h
  · exact ⟨h1, Or.inl ⟨rfl, h0⟩⟩
  · exact ⟨h1, Or.inr ⟨g, cap, cur, rfl, hb, (ht.block g (Array.getElem?_eq_some_iff.1 hc).1 (fun e => by have := hl g e; omega)).trans hc, hr⟩⟩
theorem fown_shape {w : World} {base : Nat} {v : Value} {FL : List (ByteArray × ByteArray)} (h : FOwn w base v FL) : ∃ sa sc, v = .slice sa FL.length sc := by
  obtain ⟨_, ⟨rfl, h0⟩ | ⟨g, cap, cur, rfl, _⟩⟩ := id h
  · exact ⟨none, 0, by rw [h0]⟩
  · exact ⟨_, cap, rfl⟩
theorem n_setg (w : World) (y i : Nat) (v : Value) : w.grownBy (w.setCell ⟨y, i, none⟩ v) (some y) := ⟨rfl, rfl, rfl, by simp [World.setCell], fun k _ hk => Below.heap_setCell _ _ _ _ (fun e => hk (by rw [e]))⟩
/-- A row of fields that the call itself made. -/
theorem nfrow_of {w : World} {base : Nat} {sa : Option Addr} {n sc : Nat} {L : List (ByteArray × ByteArray)} (h : FOwn w base (.slice sa n sc) L) : n = L.length ∧ FArg w sa n sc L := by
  obtain ⟨_, ⟨hv, h0⟩ | ⟨g, cap, cur, hv, _, _, hc, hm, _⟩⟩ := id h
  · cases hv
    have e := List.eq_nil_of_length_eq_zero h0
    subst e
    exact ⟨rfl, Or.inl ⟨rfl, rfl⟩⟩
  · cases hv
    refine ⟨rfl, Or.inr ⟨g, 0, rfl, rfl, hc, hm, fun t ht => ?_, fun t ht => ?_⟩⟩
    · have hc := h.cellAt (2 * t) (by omega)
      rw [show 0 + t * 2 = 2 * t from by omega, hc, (fcells_at L t (by omega)).1]
    · have hc := h.cellAt (2 * t + 1) (by omega)
      rw [show 0 + t * 2 + 1 = 2 * t + 1 from by omega, hc, (fcells_at L t (by omega)).2]
theorem fown_set {w : World} {base y i : Nat} {u v : Value} {L : List (ByteArray × ByteArray)} (h : FOwn w base v L) (hy : y < base) : FOwn (w.setCell ⟨y, i, none⟩ u) base v L :=
  World.ownsRow.kept h (n_setg w y i u) (Or.inr (fun e => by have := (h.lt y e).1; omega))
/- what is asked -/
def XCleanSaid (D : NLd) : Prop := ∀ (a : Option Addr) (len cap : Nat) (L : List (ByteArray × ByteArray)) (w : World), D.P w → FArg w a len cap L → len ≤ 4611686018427387904 → (∀ t, (L.getD t fnone).1.size ≤ 140737488351232 ∧ (L.getD t fnone).2.size ≤ 140737488351232) → Calls Tryz.prog 20 #[.slice a len cap] w fun e w' => ∃ v FL, e = .returned v ∧ FOwn w' w.heap.size v FL ∧ fdsOf FL = cleanL (fdsOf L) ∧ Below w.heap.size w w'
def XListSaid (D : NLd) : Prop := ∀ (q : RqM) (w : World), D.P w → RqIn w q → Calls Tryz.prog 9 #[q.val] w fun e w' => ∃ v FL, e = .returned (.tuple #[v, errW (listW q.rq).1]) ∧ FOwn w' w.heap.size v FL ∧ fdsOf FL = (listW q.rq).2 ∧ Below w.heap.size w w'
def XTellSaid (D : NLd) : Prop := ∀ (q : RpM) (w : World), D.P w → RpIn w q → Calls Tryz.prog 16 #[q.val] w fun e w' => ∃ v FL, e = .returned (.tuple #[v, errW (tellW q.rp).1]) ∧ FOwn w' w.heap.size v FL ∧ fdsOf FL = (tellW q.rp).2 ∧ Below w.heap.size w w'
def RCleanSaid : Prop := ∀ (a : Option Addr) (len cap : Nat) (L : List (ByteArray × ByteArray)) (w : World), FArg w a len cap L → len ≤ 4611686018427387904 → (∀ t, (L.getD t fnone).1.size ≤ 140737488351232 ∧ (L.getD t fnone).2.size ≤ 140737488351232) → Calls Tryz.prog 21 #[.slice a len cap] w fun e w' => ∃ v FL, e = .returned v ∧ FOwn w' w.heap.size v FL ∧ fdsOf FL = cleanL (fdsOf L) ∧ Below w.heap.size w w'
end Go.Proofs.YtglmppadhlkkgagGreatDoor
/-
  MESSAGES AS LINES: the document's small, great, Token, Plain, Word, Name. No claim by itself.
-/
namespace Go.Proofs.YtglmppadhlkkgagGreatDoor
open Go.RowKit
set_option maxRecDepth 100000
theorem unums_at (s : ByteArray) (k : Nat) (h : k < s.size) : ∀ h, ((s[k]'h).toNat : Int) = (unums s).getD k 0 := by
  intro h'
  have hk : k < s.data.toList.length := by rw [Array.length_toList]; exact h
  simp only [unums, List.getD, List.getElem?_map, List.getElem?_eq_getElem hk, Option.map_some, Option.getD_some]
  rfl
theorem rsmall_any (c : Int) (w : World) : Calls Tryz.prog 119 #[.int .u8 c] w fun e w' => e = .returned (.bool (isSmall c)) ∧ w = w' := by
  go_enter Tryz.func119, Tryz.ntmps119
  go_wp2
  all_goals
    go_ret
    refine ⟨?_, rfl⟩
    show Ending.returned (Value.bool _) = Ending.returned (Value.bool _)
    first
      | (congr 2; done)
      | (congr 2; unfold isSmall; rw [Bool.eq_iff_iff]; simp <;> omega)
theorem rgreat_any (c : Int) (w : World) : Calls Tryz.prog 120 #[.int .u8 c] w fun e w' => e = .returned (.bool (isGreat c)) ∧ w = w' := by
  go_enter Tryz.func120, Tryz.ntmps120
  go_wp2
  all_goals
    go_ret
    refine ⟨?_, rfl⟩
    show Ending.returned (Value.bool _) = Ending.returned (Value.bool _)
    first
      | (congr 2; done)
      | (congr 2; unfold isGreat; rw [Bool.eq_iff_iff]; simp <;> omega)
theorem all_getD {Z : List Int} {f : Int → Bool} : (∀ t, t < Z.length → f (Z.getD t 0) = true) ↔ Z.all f = true := by
  rw [List.all_eq_true]
  constructor
  · intro h x hx
    obtain ⟨i, hi, rfl⟩ := List.getElem_of_mem hx
    have := h i hi
    simpa [List.getD, List.getElem?_eq_getElem hi] using this
  · intro h t ht
    have : Z.getD t 0 ∈ Z := by
      rw [List.getD, List.getElem?_eq_getElem ht]
      exact List.getElem_mem _
    exact h _ this
theorem all_no {Z : List Int} {f : Int → Bool} {t : Nat} (ht : t < Z.length) (h : f (Z.getD t 0) = false) : Z.all f = false := by
  cases hz : Z.all f
  · rfl
  · have := all_getD.2 hz t ht
    rw [h] at this
    cases this
theorem toL_eq {s t : ByteArray} : s.toList = t.toList ↔ s = t := by
  rw [ByteArray.toList_eq, ByteArray.toList_eq]
  constructor
  · intro h
    apply ByteArray.ext
    exact Array.ext' h
  · rintro rfl; rfl
theorem toL_nil {s : ByteArray} : s.toList = [] ↔ unums s = [] := by
  rw [ByteArray.toList_eq]
  unfold unums
  simp
theorem head_at {Z : List Int} (h : Z ≠ []) : Z.headD 0 = Z.getD 0 0 := by
  match Z, h with
  | c :: r, _ => rfl
theorem last_at {Z : List Int} (_h : Z ≠ []) : Z.getLastD 0 = Z.getD (Z.length - 1) 0 := by
  rw [List.getLastD_eq_getLast?, List.getLast?_eq_getElem?]
  rfl
set_option maxHeartbeats 1000000 in
theorem rtoken_any (s : ByteArray) (w : World) (hs : s.size ≤ 140737488351232) : Calls Tryz.prog 61 #[.string s] w fun e w' => e = .returned (.bool (tokL (unums s))) ∧ w = w' := by
  have HN := vl (unums_at s)
  have HL := vl (unums_len s)
  go_enter Tryz.func61, Tryz.ntmps61
  go_wp2_with fail
  go_loopw [3] (fun i wr => ∃ k : Nat, i = .int .i64 k ∧ k ≤ s.size ∧ Vl (∀ t, t < k → ok0 ((unums s).getD t 0) = true) ∧ w = wr) (fun i _ => s.size - (intOf i).toNat)
  case atStart => exact ⟨0, rfl, by omega, fun t ht => by omega, rfl⟩
  case round =>
    obtain ⟨k, rfl, hk, HK, rfl⟩ := hrel
    by_cases hlt : k < s.size
    · have hix := HN.out k hlt
      have hlt' : (k : Int) < (s.size : Int) := by omega
      obtain ⟨c, hc⟩ : ∃ c, (unums s).getD k 0 = c := ⟨_, rfl⟩
      rw [hc] at hix
      have HC := vl hc
      clear hc
      have H1 := vl (rsmall_any c w)
      have H2 := vl (rgreat_any c w)
      obtain ⟨a, ha⟩ : ∃ a, isSmall c = a := ⟨_, rfl⟩
      obtain ⟨b, hb⟩ : ∃ b, isGreat c = b := ⟨_, rfl⟩
      rw [ha] at H1
      rw [hb] at H2
      have HO : Vl (ok0 c = (a || b)) := by show ok0 c = _; unfold ok0; rw [ha, hb]
      clear ha hb
      go_wp2_with fail
      refine H1.out.mono ?_
      rintro e w' ⟨rfl, rfl⟩
      go_wp2_with fail
      refine H2.out.mono ?_
      rintro e w' ⟨rfl, rfl⟩
      have go : Vl ((a || b) = true → ∀ t, t < k + 1 → ok0 ((unums s).getD t 0) = true) := fun hab t ht => by
        by_cases e : t = k
        · rw [e, HC.out, HO.out, hab]
        · exact HK.out t (by omega)
      have no : Vl ((a || b) = false → tokL (unums s) = false) := fun hab => by
        unfold tokL
        rw [all_no (t := k) (by rw [HL.out]; exact hlt) (by rw [HC.out, HO.out, hab])]
        rfl
      cases a with
      | true =>
        go_wp2
        exact ⟨⟨k + 1, by go_num, by omega, go.out rfl, by first | rfl | trivial⟩, by simp [intOf]; omega⟩
      | false =>
        cases b with
        | true =>
          go_wp2
          exact ⟨⟨k + 1, by go_num, by omega, go.out rfl, by first | rfl | trivial⟩, by simp [intOf]; omega⟩
        | false =>
          go_wp2
          go_ret
          exact ⟨by rw [no.out rfl]; rfl, rfl⟩
    · have HA : Vl ((unums s).all ok0 = true) := all_getD.1 (fun t ht => HK.out t (by rw [HL.out] at ht; omega))
      have hlt' : ¬ ((k : Int) < (s.size : Int)) := by omega
      by_cases he : s.toList = []
      · have HF : Vl (tokL (unums s) = false) := by
          show tokL _ = false
          unfold tokL
          rw [toL_nil.1 he]
          rfl
        go_wp2
        go_ret
        exact ⟨by rw [HF.out]; rfl, rfl⟩
      · have HF : Vl (tokL (unums s) = decide ((s.size : Int) ≤ 400)) := by
          show tokL _ = _
          unfold tokL
          rw [HA.out, HL.out]
          have : (unums s).isEmpty = false := by
            cases hx : (unums s).isEmpty
            · rfl
            · exact absurd (toL_nil.2 (List.isEmpty_iff.1 hx)) he
          rw [this, Bool.eq_iff_iff]
          simp
          omega
        go_wp2
        go_ret
        refine ⟨?_, rfl⟩
        show Ending.returned (Value.bool _) = Ending.returned (Value.bool _)
        congr 2
        rw [HF.out]
        simp [he]
set_option maxHeartbeats 2000000 in
theorem rplain_any (s : ByteArray) (w : World) (hs : s.size ≤ 140737488351232) : Calls Tryz.prog 97 #[.string s] w fun e w' => e = .returned (.bool (plainL (unums s))) ∧ w = w' := by
  have HN := vl (unums_at s)
  have HL := vl (unums_len s)
  go_enter Tryz.func97, Tryz.ntmps97
  go_wp2_with fail
  go_loopw [3] (fun i wr => ∃ k : Nat, i = .int .i64 k ∧ k ≤ s.size ∧ Vl (∀ t, t < k → ok3 ((unums s).getD t 0) = true) ∧ w = wr) (fun i _ => s.size - (intOf i).toNat)
  case atStart => exact ⟨0, rfl, by omega, fun t ht => by omega, rfl⟩
  case round =>
    obtain ⟨k, rfl, hk, HK, rfl⟩ := hrel
    by_cases hlt : k < s.size
    · have hix := HN.out k hlt
      have hlt' : (k : Int) < (s.size : Int) := by omega
      obtain ⟨c, hc⟩ : ∃ c, (unums s).getD k 0 = c := ⟨_, rfl⟩
      rw [hc] at hix
      have HC := vl hc
      clear hc
      have no : Vl (ok3 c = false → plainL (unums s) = false) := fun hab => by
        unfold plainL
        rw [all_no (t := k) (by rw [HL.out]; exact hlt) (by rw [HC.out, hab])]
        rfl
      by_cases c1 : c < 32
      · have h0 : ok3 c = false := by unfold ok3; simp; omega
        go_wp2
        go_ret
        exact ⟨by rw [no.out h0]; rfl, rfl⟩
      by_cases c2 : 126 < c
      · have h0 : ok3 c = false := by unfold ok3; simp; omega
        have c1' : 32 ≤ c := by omega
        go_wp2
        go_ret
        exact ⟨by rw [no.out h0]; rfl, rfl⟩
      have c1' : 32 ≤ c := by omega
      have c2' : c ≤ 126 := by omega
      have go : Vl (∀ t, t < k + 1 → ok3 ((unums s).getD t 0) = true) := fun t ht => by
        by_cases e : t = k
        · rw [e, HC.out]; unfold ok3; simp; omega
        · exact HK.out t (by omega)
      go_wp2
      exact ⟨⟨k + 1, by go_num, by omega, go.out, by first | rfl | trivial⟩, by simp [intOf]; omega⟩
    · have HA : Vl ((unums s).all ok3 = true) := all_getD.1 (fun t ht => HK.out t (by rw [HL.out] at ht; omega))
      have hlt' : ¬ ((k : Int) < (s.size : Int)) := by omega
      by_cases he : s.toList = []
      · have HF : Vl (plainL (unums s) = true) := by
          show plainL _ = true
          rw [toL_nil.1 he]
          rfl
        go_wp2
        go_ret
        exact ⟨by rw [HF.out]; rfl, rfl⟩
      · have hne : unums s ≠ [] := fun e => he (toL_nil.2 e)
        have hpos : 0 < s.size := by
          rcases Nat.eq_zero_or_pos s.size with e | e
          · exact absurd (unums_nil.2 e) hne
          · exact e
        have HF : Vl (plainL (unums s) = (decide ((s.size : Int) ≤ 400) && !decide ((unums s).getD 0 0 = 32) && !decide ((unums s).getD (s.size - 1) 0 = 32))) := by
          show plainL _ = _
          unfold plainL
          have h1 : (unums s).isEmpty = false := by
            cases hx : (unums s).isEmpty
            · rfl
            · exact absurd (List.isEmpty_iff.1 hx) hne
          rw [HA.out, h1, head_at hne, last_at hne, HL.out]
          rw [Bool.eq_iff_iff]
          simp
          omega
        have i0 := HN.out 0 hpos
        have i1 := HN.out (s.size - 1) (by omega)
        obtain ⟨c, hc⟩ : ∃ c, (unums s).getD 0 0 = c := ⟨_, rfl⟩
        obtain ⟨d, hd⟩ : ∃ d, (unums s).getD (s.size - 1) 0 = d := ⟨_, rfl⟩
        rw [hc] at i0 HF
        rw [hd] at i1 HF
        clear hc hd hne
        by_cases q1 : (s.size : Int) ≤ 400
        · by_cases q2 : c = 32
          · subst q2
            go_wp2
            go_ret
            refine ⟨?_, rfl⟩
            rw [HF.out]
            simp [he]
          · have q2' : (c != 32) = true := by simpa using q2
            have hp1 : (1 : Int) ≤ (s.size : Int) := by omega
            go_wp2
            go_ret
            refine ⟨?_, rfl⟩
            show Ending.returned (Value.bool _) = Ending.returned (Value.bool _)
            congr 2
            rw [HF.out, Bool.eq_iff_iff]
            simp [he, q2]
            omega
        · go_wp2
          go_ret
          refine ⟨?_, rfl⟩
          show Ending.returned (Value.bool _) = Ending.returned (Value.bool _)
          congr 2
          rw [HF.out, Bool.eq_iff_iff]
          simp [he]
          omega
set_option maxHeartbeats 2000000 in
theorem rword_any (s : ByteArray) (w : World) (hs : s.size ≤ 140737488351232) : Calls Tryz.prog 96 #[.string s] w fun e w' => e = .returned (.bool (wordL (unums s))) ∧ w = w' := by
  have HN := vl (unums_at s)
  have HL := vl (unums_len s)
  have HP := vl (rplain_any s w hs)
  go_enter Tryz.func96, Tryz.ntmps96
  go_wp2_with fail
  go_loopw [3] (fun i wr => ∃ k : Nat, i = .int .i64 k ∧ k ≤ s.size ∧ Vl (∀ t, t < k → (!decide ((unums s).getD t 0 = 32)) = true) ∧ w = wr) (fun i _ => s.size - (intOf i).toNat)
  case atStart => exact ⟨0, rfl, by omega, fun t ht => by omega, rfl⟩
  case round =>
    obtain ⟨k, rfl, hk, HK, rfl⟩ := hrel
    by_cases hlt : k < s.size
    · have hix := HN.out k hlt
      have hlt' : (k : Int) < (s.size : Int) := by omega
      obtain ⟨c, hc⟩ : ∃ c, (unums s).getD k 0 = c := ⟨_, rfl⟩
      rw [hc] at hix
      have HC := vl hc
      clear hc
      by_cases c1 : c = 32
      · subst c1
        have HF : Vl (wordL (unums s) = false) := by
          show wordL _ = false
          unfold wordL
          rw [all_no (t := k) (by rw [HL.out]; exact hlt) (by rw [HC.out]; rfl)]
          rfl
        go_wp2
        go_ret
        exact ⟨by rw [HF.out]; rfl, rfl⟩
      · have c1' : (c == 32) = false := by simpa using c1
        have go : Vl (∀ t, t < k + 1 → (!decide ((unums s).getD t 0 = 32)) = true) := fun t ht => by
          by_cases e : t = k
          · rw [e, HC.out]; simpa using c1
          · exact HK.out t (by omega)
        go_wp2
        exact ⟨⟨k + 1, by go_num, by omega, go.out, by first | rfl | trivial⟩, by simp [intOf]; omega⟩
    · have HA : Vl ((unums s).all (fun c => !decide (c = 32)) = true) := all_getD.1 (fun t ht => HK.out t (by rw [HL.out] at ht; omega))
      have hlt' : ¬ ((k : Int) < (s.size : Int)) := by omega
      obtain ⟨b, hb⟩ : ∃ b, plainL (unums s) = b := ⟨_, rfl⟩
      rw [hb] at HP
      have HF : Vl (wordL (unums s) = (b && !decide (s.toList = []))) := by
        show wordL _ = _
        unfold wordL
        rw [HA.out, hb, Bool.eq_iff_iff]
        simp [toL_nil]
      clear hb
      go_wp2_with fail
      refine HP.out.mono ?_
      rintro e w' ⟨rfl, rfl⟩
      cases b with
      | false =>
        go_wp2
        go_ret
        exact ⟨by rw [HF.out]; rfl, rfl⟩
      | true =>
        by_cases he : s.toList = []
        · go_wp2
          go_ret
          refine ⟨?_, rfl⟩
          rw [HF.out]
          simp [he]
        · go_wp2
          go_ret
          refine ⟨?_, rfl⟩
          rw [HF.out]
          simp [he]
set_option maxHeartbeats 2000000 in
theorem rname_any (s : ByteArray) (w : World) (hs : s.size ≤ 140737488351232) : Calls Tryz.prog 159 #[.string s] w fun e w' => e = .returned (.bool (nameL (unums s))) ∧ w = w' := by
  have HN := vl (unums_at s)
  have HL := vl (unums_len s)
  have HP := vl (rtoken_any s w hs)
  go_enter Tryz.func159, Tryz.ntmps159
  go_wp2_with fail
  go_loopw [3] (fun i wr => ∃ k : Nat, i = .int .i64 k ∧ k ≤ s.size ∧ Vl (∀ t, t < k → (!isGreat ((unums s).getD t 0)) = true) ∧ w = wr) (fun i _ => s.size - (intOf i).toNat)
  case atStart => exact ⟨0, rfl, by omega, fun t ht => by omega, rfl⟩
  case round =>
    obtain ⟨k, rfl, hk, HK, rfl⟩ := hrel
    by_cases hlt : k < s.size
    · have hix := HN.out k hlt
      have hlt' : (k : Int) < (s.size : Int) := by omega
      obtain ⟨c, hc⟩ : ∃ c, (unums s).getD k 0 = c := ⟨_, rfl⟩
      rw [hc] at hix
      have HC := vl hc
      clear hc
      have H2 := vl (rgreat_any c w)
      obtain ⟨b, hb⟩ : ∃ b, isGreat c = b := ⟨_, rfl⟩
      rw [hb] at H2
      have HG := vl hb
      clear hb
      go_wp2_with fail
      refine H2.out.mono ?_
      rintro e w' ⟨rfl, rfl⟩
      cases b with
      | true =>
        have HF : Vl (nameL (unums s) = false) := by
          show nameL _ = false
          unfold nameL
          rw [all_no (t := k) (by rw [HL.out]; exact hlt) (by rw [HC.out, HG.out]; rfl)]
          rfl
        go_wp2
        go_ret
        exact ⟨by rw [HF.out]; rfl, rfl⟩
      | false =>
        have go : Vl (∀ t, t < k + 1 → (!isGreat ((unums s).getD t 0)) = true) := fun t ht => by
          by_cases e : t = k
          · rw [e, HC.out, HG.out]; rfl
          · exact HK.out t (by omega)
        go_wp2
        exact ⟨⟨k + 1, by go_num, by omega, go.out, by first | rfl | trivial⟩, by simp [intOf]; omega⟩
    · have HA : Vl ((unums s).all (fun c => !isGreat c) = true) := all_getD.1 (fun t ht => HK.out t (by rw [HL.out] at ht; omega))
      have hlt' : ¬ ((k : Int) < (s.size : Int)) := by omega
      have HF : Vl (nameL (unums s) = tokL (unums s)) := by
        show nameL _ = _
        unfold nameL
        rw [HA.out]
        rfl
      go_wp2_with fail
      refine HP.out.mono ?_
      rintro e w' ⟨rfl, rfl⟩
      go_wp2
      go_ret
      exact ⟨by rw [HF.out]; rfl, rfl⟩
end Go.Proofs.YtglmppadhlkkgagGreatDoor
/-
  MESSAGES AS LINES: the document's Fields, Ask, Tell (what is wrong with them). No claim by itself.
-/
namespace Go.Proofs.YtglmppadhlkkgagGreatDoor
open Go.RowKit
set_option maxRecDepth 100000
theorem fds_len (L : List (ByteArray × ByteArray)) : (fdsOf L).length = L.length := by simp [fdsOf]
theorem fds_drop {L : List (ByteArray × ByteArray)} {k : Nat} (h : k < L.length) : (fdsOf L).drop k = (unums (L.getD k fnone).1, unums (L.getD k fnone).2) :: (fdsOf L).drop (k + 1) := by
  have h' : k < (fdsOf L).length := by rw [fds_len]; exact h
  rw [List.drop_eq_getElem_cons h']
  simp [fdsOf, List.getD, List.getElem?_eq_getElem h]
theorem toL_lit {s : ByteArray} {l : List UInt8} : s.toList = l ↔ unums s = l.map fun c => (c.toNat : Int) := by
  rw [ByteArray.toList_eq]
  unfold unums
  constructor
  · intro h; rw [h]
  · intro h
    exact (List.map_inj_right (fun a b e => by apply UInt8.toNat_inj.1; have e' : ((a.toNat : Int)) = ((b.toNat : Int)) := e; omega)).1 h
theorem toL_host {s : ByteArray} : s.toList = [104, 111, 115, 116] ↔ unums s = hostN := toL_lit
theorem toL_length {s : ByteArray} : s.toList = [108, 101, 110, 103, 116, 104] ↔ unums s = lengthN := toL_lit
theorem toL_coding {s : ByteArray} : s.toList = [99, 111, 100, 105, 110, 103] ↔ unums s = codingN := toL_lit
set_option maxHeartbeats 4000000 in
theorem rfields_any (a : Option Addr) (len cap : Nat) (FL : List (ByteArray × ByteArray)) (w : World) (hA : FArg w a len cap FL) (hm : len ≤ 4611686018427387904) (he : ∀ t, (FL.getD t fnone).1.size ≤ 140737488351232 ∧ (FL.getD t fnone).2.size ≤ 140737488351232) :
    Calls Tryz.prog 98 #[.slice a len cap] w fun e w' => e = .returned (.int .i64 (fldsE (fdsOf FL))) ∧ w = w' := by
  have hlen := hA.len
  have HA := vl hA
  have HE := vl he
  clear hA he
  go_enter Tryz.func98, Tryz.ntmps98
  go_wp2_with fail
  go_loopw [3] (fun i wr => ∃ k : Nat, i = .int .i64 k ∧ k ≤ len ∧ Vl (fldsE (fdsOf FL) = fldsE ((fdsOf FL).drop k)) ∧ w = wr) (fun i _ => len - (intOf i).toNat)
  case atStart => exact ⟨0, rfl, by omega, rfl, rfl⟩
  case round =>
    obtain ⟨k, rfl, hk, HK, rfl⟩ := hrel
    by_cases hlt : k < len
    · rcases HA.out with ⟨h0, _⟩ | ⟨g, off, rfl, hr⟩
      · omega
      have c1 := hr.hname k hlt
      have c2 := hr.hvalue k hlt
      have hcap := hr.hcap
      have hlt' : (k : Int) < (len : Int) := by omega
      have HD := vl (fds_drop (L := FL) (k := k) (by omega))
      have hsz := HE.out k
      obtain ⟨⟨n, v⟩, hf⟩ : ∃ f, FL.getD k fnone = f := ⟨_, rfl⟩
      rw [hf] at c1 c2 HD hsz
      clear hf hr
      have H1 := vl (rname_any n w hsz.1)
      have H2 := vl (rplain_any v w hsz.2)
      obtain ⟨b1, hb1⟩ : ∃ b, nameL (unums n) = b := ⟨_, rfl⟩
      obtain ⟨b2, hb2⟩ : ∃ b, plainL (unums v) = b := ⟨_, rfl⟩
      rw [hb1] at H1
      rw [hb2] at H2
      have HF : Vl (fldsE (fdsOf FL) = fldsE ((unums n, unums v) :: (fdsOf FL).drop (k + 1))) := by
        show fldsE _ = _
        rw [HK.out, HD.out]
      have HB1 := vl hb1
      have HB2 := vl hb2
      clear hb1 hb2 HD hsz
      go_wp2_with fail
      refine H1.out.mono ?_
      rintro e w' ⟨rfl, rfl⟩
      go_wp2_with fail
      refine H2.out.mono ?_
      rintro e w' ⟨rfl, rfl⟩
      have bad : Vl ((b1 && b2) = false → fldsE (fdsOf FL) = 2) := fun hb => by
        rw [HF.out]
        have : fldE (unums n, unums v) = 2 := by
          unfold fldE
          rw [if_neg]
          rintro ⟨x, y⟩
          simp only at x y
          rw [HB1.out] at x
          rw [HB2.out] at y
          rw [x, y] at hb
          cases hb
        show (if fldE (unums n, unums v) = 0 then _ else fldE (unums n, unums v)) = 2
        rw [this]
        rfl
      cases b1 with
      | false =>
        go_wp2
        go_ret
        exact ⟨by rw [bad.out rfl]; rfl, rfl⟩
      | true =>
        cases b2 with
        | false =>
          go_wp2
          go_ret
          exact ⟨by rw [bad.out rfl]; rfl, rfl⟩
        | true =>
          have three : Vl ((unums n = hostN ∨ unums n = lengthN ∨ unums n = codingN) → fldsE (fdsOf FL) = 3) := fun hx => by
            rw [HF.out]
            have : fldE (unums n, unums v) = 3 := by
              unfold fldE
              rw [if_pos ⟨HB1.out, HB2.out⟩, if_pos hx]
            show (if fldE (unums n, unums v) = 0 then _ else fldE (unums n, unums v)) = 3
            rw [this]
            rfl
          by_cases q1 : n.toList = [104, 111, 115, 116]
          · have HX := vl (three.out (Or.inl (toL_host.1 q1)))
            go_wp2
            go_ret
            exact ⟨by rw [HX.out]; rfl, rfl⟩
          by_cases q2 : n.toList = [108, 101, 110, 103, 116, 104]
          · have HX := vl (three.out (Or.inr (Or.inl (toL_length.1 q2))))
            go_wp2
            go_ret
            exact ⟨by rw [HX.out]; rfl, rfl⟩
          by_cases q3 : n.toList = [99, 111, 100, 105, 110, 103]
          · have HX := vl (three.out (Or.inr (Or.inr (toL_coding.1 q3))))
            go_wp2
            go_ret
            exact ⟨by rw [HX.out]; rfl, rfl⟩
          have HX : Vl (fldsE (fdsOf FL) = fldsE ((fdsOf FL).drop (k + 1))) := by
            show fldsE _ = _
            rw [HF.out]
            have : fldE (unums n, unums v) = 0 := fld_of HB1.out HB2.out (fun e => q1 (toL_host.2 e)) (fun e => q2 (toL_length.2 e)) (fun e => q3 (toL_coding.2 e))
            show (if fldE (unums n, unums v) = 0 then _ else fldE (unums n, unums v)) = _
            rw [if_pos this]
          have q1' : (n.toList == [104, 111, 115, 116]) = false := by simpa using q1
          have q2' : (n.toList == [108, 101, 110, 103, 116, 104]) = false := by simpa using q2
          have q3' : (n.toList == [99, 111, 100, 105, 110, 103]) = false := by simpa using q3
          go_wp2
          exact ⟨⟨k + 1, by go_num, by omega, HX.out, by first | rfl | trivial⟩, by simp [intOf]; omega⟩
    · have hlt' : ¬ ((k : Int) < (len : Int)) := by omega
      have HX : Vl (fldsE (fdsOf FL) = 0) := by
        show fldsE _ = 0
        rw [HK.out, List.drop_eq_nil_of_le (by rw [fds_len]; omega)]
        rfl
      go_wp2
      go_ret
      exact ⟨by rw [HX.out]; rfl, rfl⟩
set_option maxHeartbeats 4000000 in
theorem rask_any (q : RqM) (w : World) (h : RqIn w q) : Calls Tryz.prog 41 #[q.val] w fun e w' => e = .returned (.int .i64 (askE q.rq)) ∧ Below w.heap.size w w' := by
  obtain ⟨m, p, ho, fa, fn, fc, ba, bn, bc, FL, B⟩ := q
  obtain ⟨h1, h2, h3, ⟨h4, h5⟩, ⟨h6, h7, h8⟩, h9⟩ := h
  simp only at h1 h2 h3 h4 h5 h6 h7 h8 h9
  have hfl := h1.len
  have hbl := h2.len
  have HW : Vl (Below w.heap.size w (w.alloc (.cells #[.string m, .string p, .string ho, .slice fa fn fc, .slice ba bn bc] 25))) := (Below.refl _ _).alloc (Nat.le_refl _) _
  have HF := vl (rfields_any fa fn fc FL _ (h1.below HW.out) h4 h9)
  have HT := vl (fun W => rtoken_any m W h6)
  have HP := vl (fun W => rword_any p W h7)
  have HH := vl (fun W => rplain_any ho W h8)
  unfold RqM.val RqM.rq
  simp only
  have EA : Vl (askE ⟨unums m, unums p, unums ho, fdsOf FL, B⟩ = if 40 < fn ∨ 8000 < bn then 4 else if tokL (unums m) = true ∧ wordL (unums p) = true ∧ plainL (unums ho) = true ∧ ¬ ho.toList = [] then fldsE (fdsOf FL) else 2) := by
    show askE _ = _
    unfold askE
    simp only [fds_len, hfl, hbl, toL_nil, ne_eq]
  obtain ⟨b1, hb1⟩ : ∃ b, tokL (unums m) = b := ⟨_, rfl⟩
  obtain ⟨b2, hb2⟩ : ∃ b, wordL (unums p) = b := ⟨_, rfl⟩
  obtain ⟨b3, hb3⟩ : ∃ b, plainL (unums ho) = b := ⟨_, rfl⟩
  obtain ⟨ef, hef⟩ : ∃ e, fldsE (fdsOf FL) = e := ⟨_, rfl⟩
  rw [hb1] at HT EA
  rw [hb2] at HP EA
  rw [hb3] at HH EA
  rw [hef] at HF EA
  generalize askE ⟨unums m, unums p, unums ho, fdsOf FL, B⟩ = ea at *
  clear h1 h2 h3 h6 h7 h8 h9 hb1 hb2 hb3 hef
  by_cases c1 : 40 < fn
  · have c1' : (40 : Int) < (fn : Int) := by omega
    have E : Vl (ea = 4) := by show ea = 4; rw [EA.out, if_pos (Or.inl c1)]
    go_enter Tryz.func41, Tryz.ntmps41
    go_wp2
    go_ret
    exact ⟨by rw [E.out]; rfl, HW.out⟩
  have c1' : ¬ ((40 : Int) < (fn : Int)) := by omega
  by_cases c2 : 8000 < bn
  · have c2' : (8000 : Int) < (bn : Int) := by omega
    have E : Vl (ea = 4) := by show ea = 4; rw [EA.out, if_pos (Or.inr c2)]
    go_enter Tryz.func41, Tryz.ntmps41
    go_wp2
    go_ret
    exact ⟨by rw [E.out]; rfl, HW.out⟩
  have c2' : ¬ ((8000 : Int) < (bn : Int)) := by omega
  rw [if_neg (by omega)] at EA
  go_enter Tryz.func41, Tryz.ntmps41
  go_wp2_with fail
  refine (HT.out _).mono ?_
  rintro e w' ⟨rfl, rfl⟩
  go_wp2_with fail
  refine (HP.out _).mono ?_
  rintro e w' ⟨rfl, rfl⟩
  go_wp2_with fail
  refine (HH.out _).mono ?_
  rintro e w' ⟨rfl, rfl⟩
  cases b1 with
  | false =>
    have E : Vl (ea = 2) := by show ea = 2; rw [EA.out, if_neg (by simp)]
    go_wp2
    go_ret
    exact ⟨by rw [E.out]; rfl, HW.out⟩
  | true =>
    cases b2 with
    | false =>
      have E : Vl (ea = 2) := by show ea = 2; rw [EA.out, if_neg (by simp)]
      go_wp2
      go_ret
      exact ⟨by rw [E.out]; rfl, HW.out⟩
    | true =>
      cases b3 with
      | false =>
        have E : Vl (ea = 2) := by show ea = 2; rw [EA.out, if_neg (by simp)]
        go_wp2
        go_ret
        exact ⟨by rw [E.out]; rfl, HW.out⟩
      | true =>
        by_cases he : ho.toList = []
        · have E : Vl (ea = 2) := by show ea = 2; rw [EA.out, if_neg (by simp [he])]
          go_wp2
          go_ret
          exact ⟨by rw [E.out]; rfl, HW.out⟩
        · have E : Vl (ea = ef) := by show ea = ef; rw [EA.out, if_pos ⟨rfl, rfl, rfl, he⟩]
          have he' : ho.toList.isEmpty = false := by simpa using he
          go_wp2_with fail
          refine HF.out.mono ?_
          rintro e w' ⟨rfl, rfl⟩
          go_wp2
          go_ret
          exact ⟨by rw [E.out]; rfl, HW.out⟩
set_option maxHeartbeats 4000000 in
theorem rtell_any (q : RpM) (size : Int) (w : World) (h : RpIn w q) : Calls Tryz.prog 53 #[q.val, .int .i64 size] w fun e w' => e = .returned (.int .i64 (tellE q.rp size)) ∧ Below w.heap.size w w' := by
  obtain ⟨code, fa, fn, fc, ba, bn, bc, FL, B⟩ := q
  obtain ⟨_, h1, h2, h3, ⟨h4, h5⟩, h9⟩ := h
  simp only at h1 h2 h3 h4 h5 h9
  have hfl := h1.len
  have hbl := h2.len
  have HW : Vl (Below w.heap.size w (w.alloc (.cells #[.int .i64 code, .slice fa fn fc, .slice ba bn bc] 27))) := (Below.refl _ _).alloc (Nat.le_refl _) _
  have HF := vl (rfields_any fa fn fc FL _ (h1.below HW.out) h4 h9)
  unfold RpM.val RpM.rp
  simp only
  have EA : Vl (tellE ⟨code, fdsOf FL, B⟩ size = if 40 < fn ∨ 8000 < bn then 4 else if code < 100 ∨ 599 < code ∨ size < 0 then 1 else fldsE (fdsOf FL)) := by
    show tellE _ _ = _
    unfold tellE
    simp only [fds_len, hfl, hbl]
  obtain ⟨ef, hef⟩ : ∃ e, fldsE (fdsOf FL) = e := ⟨_, rfl⟩
  rw [hef] at HF EA
  generalize tellE ⟨code, fdsOf FL, B⟩ size = ea at *
  clear h1 h2 h3 h9 hef
  by_cases c1 : 40 < fn
  · have c1' : (40 : Int) < (fn : Int) := by omega
    have E : Vl (ea = 4) := by show ea = 4; rw [EA.out, if_pos (Or.inl c1)]
    go_enter Tryz.func53, Tryz.ntmps53
    go_wp2
    go_ret
    exact ⟨by rw [E.out]; rfl, HW.out⟩
  have c1' : ¬ ((40 : Int) < (fn : Int)) := by omega
  by_cases c2 : 8000 < bn
  · have c2' : (8000 : Int) < (bn : Int) := by omega
    have E : Vl (ea = 4) := by show ea = 4; rw [EA.out, if_pos (Or.inr c2)]
    go_enter Tryz.func53, Tryz.ntmps53
    go_wp2
    go_ret
    exact ⟨by rw [E.out]; rfl, HW.out⟩
  have c2' : ¬ ((8000 : Int) < (bn : Int)) := by omega
  rw [if_neg (by omega)] at EA
  by_cases d1 : code < 100
  · have E : Vl (ea = 1) := by show ea = 1; rw [EA.out, if_pos (Or.inl d1)]
    go_enter Tryz.func53, Tryz.ntmps53
    go_wp2
    go_ret
    exact ⟨by rw [E.out]; rfl, HW.out⟩
  by_cases d2 : 599 < code
  · have E : Vl (ea = 1) := by show ea = 1; rw [EA.out, if_pos (Or.inr (Or.inl d2))]
    go_enter Tryz.func53, Tryz.ntmps53
    go_wp2
    go_ret
    exact ⟨by rw [E.out]; rfl, HW.out⟩
  by_cases d3 : size < 0
  · have E : Vl (ea = 1) := by show ea = 1; rw [EA.out, if_pos (Or.inr (Or.inr d3))]
    go_enter Tryz.func53, Tryz.ntmps53
    go_wp2
    go_ret
    exact ⟨by rw [E.out]; rfl, HW.out⟩
  have E : Vl (ea = ef) := by show ea = ef; rw [EA.out, if_neg (by omega)]
  go_enter Tryz.func53, Tryz.ntmps53
  go_wp2_with fail
  refine HF.out.mono ?_
  rintro e w' ⟨rfl, rfl⟩
  go_wp2
  go_ret
  exact ⟨by rw [E.out]; rfl, HW.out⟩
end Go.Proofs.YtglmppadhlkkgagGreatDoor
