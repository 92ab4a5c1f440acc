/-
  FROM THE ONE TO THE OTHER: the document's fields as mathematics; what goes over comes over. No claim by itself.
-/
import Derived.Test.YtibipnipeaeonaaGreatDoorMA
namespace Go.Proofs.YtibipnipeaeonaaGreatDoor
set_option maxRecDepth 100000
def methodP : List Int := [58, 109, 101, 116, 104, 111, 100]
def pathP : List Int := [58, 112, 97, 116, 104]
def hostP : List Int := [58, 104, 111, 115, 116]
def codeP : List Int := [58, 99, 111, 100, 101]
def cookieN : List Int := [99, 111, 111, 107, 105, 101]
def connN : List Int := [99, 111, 110, 110, 101, 99, 116, 105, 111, 110]
def keepX : List Int := [107, 101, 101, 112]
def upgradeN : List Int := [117, 112, 103, 114, 97, 100, 101]
def btwL (n : List Int) : Bool := decide (n = connN ∨ n = codingN ∨ n = keepX ∨ n = upgradeN)
/-- Does a name begin with ':'? -/
def psdL (n : List Int) : Bool := match n with
  | [] => false
  | c :: _ => decide (c = 58)
/-- A text, cut at two bytes wherever they stand side by side, from left to right. -/
def hdCons (c : Int) : List (List Int) → List (List Int)
  | [] => [[c]]
  | x :: l => (c :: x) :: l
def cut2 (a b : Int) : List Int → List (List Int)
  | [] => [[]]
  | [c] => [[c]]
  | c :: d :: r => if c = a ∧ d = b then [] :: cut2 a b r else hdCons c (cut2 a b (d :: r))
def join2 (a b : Int) : List (List Int) → List Int
  | [] => []
  | [x] => x
  | x :: y :: l => x ++ ([a, b] ++ join2 a b (y :: l))
theorem cut2_ne (a b : Int) : ∀ s, cut2 a b s ≠ []
  | [] => by simp [cut2]
  | [c] => by simp [cut2]
  | c :: d :: r => by
    unfold cut2
    split
    · simp
    · cases h : cut2 a b (d :: r) with
      | nil => simp [hdCons]
      | cons x l => simp [hdCons]
theorem join2_cons {a b : Int} {x : List Int} {l : List (List Int)} (h : l ≠ []) : join2 a b (x :: l) = x ++ ([a, b] ++ join2 a b l) := by
  cases l with
  | nil => exact absurd rfl h
  | cons y l => rfl
theorem join2_hd {a b : Int} (c : Int) {l : List (List Int)} (h : l ≠ []) : join2 a b (hdCons c l) = c :: join2 a b l := by
  match l with
  | [] => exact absurd rfl h
  | [x] => rfl
  | x :: y :: l => rfl
theorem join_cut (a b : Int) : ∀ s, join2 a b (cut2 a b s) = s
  | [] => rfl
  | [c] => rfl
  | c :: d :: r => by
    unfold cut2
    split
    · rename_i h
      rw [join2_cons (cut2_ne a b r), join_cut a b r, h.1, h.2]
      rfl
    · rw [join2_hd c (cut2_ne a b _), join_cut a b (d :: r)]
/- clean -/
def namedL (l : List Fd) : List (List Int) := l.flatMap fun f => if f.1 = connN then (cut2 44 32 f.2).filter tokL else []
def goneL (named : List (List Int)) (n : List Int) : Bool := btwL n || decide (n = lengthN) || decide (n ∈ named)
def cleanL (l : List Fd) : List Fd := l.filter fun f => !goneL (namedL l) f.1
theorem named_clean (l : List Fd) : namedL (cleanL l) = [] := by
  unfold namedL
  rw [List.flatMap_eq_nil_iff]
  intro f hf
  rw [if_neg]
  intro e
  have := (List.mem_filter.1 hf).2
  rw [e] at this
  simp [goneL, btwL] at this
theorem clean_clean (l : List Fd) : cleanL (cleanL l) = cleanL l := by
  have h : cleanL (cleanL l) = (cleanL l).filter fun f => !goneL [] f.1 := by
    show (cleanL l).filter _ = _
    rw [named_clean]
  rw [h, List.filter_eq_self]
  intro f hf
  have := (List.mem_filter.1 hf).2
  simp [goneL] at this ⊢
  exact ⟨this.1.1, this.1.2⟩
/- a request's fields, and back -/
def pcsL (f : Fd) : List Fd := if f.1 = cookieN then (cut2 59 32 f.2).map fun v => (cookieN, v) else [f]
def listL (r : Rq) : List Fd := [(methodP, r.method), (pathP, r.path), (hostP, r.host)] ++ r.fields.flatMap pcsL
/-- The three that begin with ':', none behind another field. -/
def psdF : List Fd → Bool → Option (List Int) → Option (List Int) → Option (List Int) → Option (List Int × List Int × List Int)
  | [], _, m, p, h => match m, p, h with
    | some m, some p, some h => some (m, p, h)
    | _, _, _ => none
  | f :: l, r, m, p, h => if psdL f.1 = false then psdF l true m p h else if r = true then none else
    if f.1 = methodP then (if m.isSome then none else psdF l r (some f.2) p h) else
    if f.1 = pathP then (if p.isSome then none else psdF l r m (some f.2) h) else
    if f.1 = hostP then (if h.isSome then none else psdF l r m p (some f.2)) else none
/-- The others, cookies put together. -/
def rstF (n : Nat) : List Fd → List Fd → Option Nat → Option (List Fd)
  | [], acc, _ => some acc
  | f :: l, acc, ck => if btwL f.1 = true ∨ f.1 = hostN then none else if f.1 = lengthN then (if f.2 = decL n then rstF n l acc ck else none) else
    if f.1 = cookieN then (match ck with
      | some k => rstF n l (acc.modify k fun g => (g.1, g.2 ++ ([59, 32] ++ f.2))) ck
      | none => rstF n l (acc ++ [f]) (some acc.length)) else rstF n l (acc ++ [f]) ck
def askW (l : List Fd) (body : List Int) : Int × Rq := match psdF l false none none none with
  | none => (3, default)
  | some (m, p, h) => match rstF body.length (l.filter fun f => !psdL f.1) [] none with
    | none => (3, default)
    | some fs => if askE ⟨m, p, h, fs, body⟩ = 0 then (0, ⟨m, p, h, fs, body⟩) else (askE ⟨m, p, h, fs, body⟩, default)
def listW (r : Rq) : Int × List Fd := if askE r = 0 then (0, listL r) else (askE r, [])
theorem psd_all : ∀ (l : List Fd) (r : Bool) (m p h : List Int), (∀ f ∈ l, psdL f.1 = false) → psdF l r (some m) (some p) (some h) = some (m, p, h)
  | [], r, m, p, h, _ => rfl
  | f :: l, r, m, p, h, hf => by
    unfold psdF
    rw [if_pos (hf f (by simp))]
    exact psd_all l true m p h (fun g hg => hf g (by simp [hg]))
theorem psd_list {r : Rq} (h : ∀ f ∈ r.fields.flatMap pcsL, psdL f.1 = false) : psdF (listL r) false none none none = some (r.method, r.path, r.host) := by
  show psdF ((methodP, r.method) :: (pathP, r.path) :: (hostP, r.host) :: r.fields.flatMap pcsL) false none none none = _
  have e1 : psdL methodP = true := rfl
  have e2 : psdL pathP = true := rfl
  have e3 : psdL hostP = true := rfl
  have n1 : pathP ≠ methodP := by decide
  have n2 : hostP ≠ methodP := by decide
  have n3 : hostP ≠ pathP := by decide
  rw [psdF, if_neg (by rw [e1]; simp), if_neg (by simp), if_pos rfl, if_neg (by simp)]
  rw [psdF, if_neg (by rw [e2]; simp), if_neg (by simp), if_neg n1, if_pos rfl, if_neg (by simp)]
  rw [psdF, if_neg (by rw [e3]; simp), if_neg (by simp), if_neg n2, if_neg n3, if_pos rfl, if_neg (by simp)]
  exact psd_all _ _ _ _ _ h
/- cookies -/
def tlJ (qs : List (List Int)) : List Int := qs.flatMap fun q => [59, 32] ++ q
theorem join_tl : ∀ (p : List Int) (qs : List (List Int)), join2 59 32 (p :: qs) = p ++ tlJ qs
  | p, [] => by simp [join2, tlJ]
  | p, q :: qs => by
    rw [join2_cons (by simp), join_tl q qs]
    simp [tlJ]
theorem mod_last {α : Type} (acc : List α) (x : α) (g : α → α) : (acc ++ [x]).modify acc.length g = acc ++ [g x] := by
  induction acc with
  | nil => rfl
  | cons y acc ih => simpa using ih
theorem ck_ok : btwL cookieN = false ∧ cookieN ≠ hostN ∧ cookieN ≠ lengthN := by decide
theorem rst_more (n : Nat) (acc : List Fd) (l : List Fd) : ∀ (qs : List (List Int)) (v : List Int), rstF n (qs.map (fun v => (cookieN, v)) ++ l) (acc ++ [(cookieN, v)]) (some acc.length) = rstF n l (acc ++ [(cookieN, v ++ tlJ qs)]) (some acc.length)
  | [], v => by simp [tlJ]
  | q :: qs, v => by
    obtain ⟨k1, k2, k3⟩ := ck_ok
    show rstF n ((cookieN, q) :: (qs.map (fun v => (cookieN, v)) ++ l)) _ _ = _
    rw [rstF, if_neg (by simp [k1, k2]), if_neg k3, if_pos rfl]
    show rstF n _ ((acc ++ [(cookieN, v)]).modify acc.length fun g => (g.1, g.2 ++ ([59, 32] ++ q))) _ = _
    rw [mod_last, rst_more n acc l qs]
    simp [tlJ]
theorem rst_cookie (n : Nat) (acc : List Fd) (l : List Fd) (v : List Int) : rstF n ((cut2 59 32 v).map (fun v => (cookieN, v)) ++ l) acc none = rstF n l (acc ++ [(cookieN, v)]) (some acc.length) := by
  obtain ⟨k1, k2, k3⟩ := ck_ok
  cases h : cut2 59 32 v with
  | nil => exact absurd h (cut2_ne _ _ _)
  | cons p qs =>
    have hj := join_cut 59 32 v
    rw [h, join_tl] at hj
    show rstF n ((cookieN, p) :: (qs.map (fun v => (cookieN, v)) ++ l)) _ _ = _
    rw [rstF, if_neg (by simp [k1, k2]), if_neg k3, if_pos rfl]
    show rstF n _ (acc ++ [(cookieN, p)]) (some acc.length) = _
    rw [rst_more, hj]
def okF (f : Fd) : Prop := btwL f.1 = false ∧ f.1 ≠ hostN ∧ f.1 ≠ lengthN
def cksL (l : List Fd) : Nat := (l.filter fun f => decide (f.1 = cookieN)).length
theorem rst_list (n : Nat) : ∀ (l acc : List Fd) (ck : Option Nat), (∀ f ∈ l, okF f) → (cksL l ≤ 1 ∧ (ck ≠ none → cksL l = 0)) → rstF n (l.flatMap pcsL) acc ck = some (acc ++ l)
  | [], acc, ck, _, _ => by simp [rstF]
  | f :: l, acc, ck, hf, hc => by
    obtain ⟨k1, k2, k3⟩ := hf f (by simp)
    have hl : ∀ g ∈ l, okF g := fun g hg => hf g (by simp [hg])
    by_cases e : f.1 = cookieN
    · have hcnt : cksL (f :: l) = cksL l + 1 := by unfold cksL; simp [e]
      have hck : ck = none := by
        cases ck with
        | none => rfl
        | some k => have := hc.2 (by simp); omega
      subst hck
      rw [List.flatMap_cons]
      have hp : pcsL f = (cut2 59 32 f.2).map fun v => (cookieN, v) := by unfold pcsL; rw [if_pos e]
      rw [hp, rst_cookie, rst_list n l _ _ hl ⟨by omega, fun _ => by omega⟩]
      simp [← e]
    · have hcnt : cksL (f :: l) = cksL l := by unfold cksL; simp [e]
      have hp : pcsL f = [f] := by unfold pcsL; rw [if_neg e]
      rw [List.flatMap_cons, hp]
      show rstF n (f :: l.flatMap pcsL) acc ck = _
      rw [rstF.eq_def]
      show (if btwL f.1 = true ∨ f.1 = hostN then none else _) = _
      rw [if_neg (by simp [k1, k2]), if_neg k3, if_neg e, rst_list n l _ _ hl (by rw [hcnt] at hc; exact hc)]
      simp
theorem rst_none (n : Nat) : ∀ (l acc : List Fd) (ck : Option Nat), (∃ f ∈ l, btwL f.1 = true) → rstF n l acc ck = none
  | [], _, _, h => by obtain ⟨f, hf, _⟩ := h; cases hf
  | f :: l, acc, ck, h => by
    rw [rstF.eq_def]
    show (if btwL f.1 = true ∨ f.1 = hostN then none else _) = _
    by_cases hb : btwL f.1 = true
    · rw [if_pos (Or.inl hb)]
    · have h' : ∃ g ∈ l, btwL g.1 = true := by
        obtain ⟨g, hg, h2⟩ := h
        rcases List.mem_cons.1 hg with rfl | hg
        · exact absurd h2 hb
        · exact ⟨g, hg, h2⟩
      have ih := fun acc ck => rst_none n l acc ck h'
      split
      · rfl
      · split
        · split
          · exact ih _ _
          · rfl
        · split
          · cases ck <;> exact ih _ _
          · exact ih _ _
/- names that may be -/
theorem flds_each : ∀ {l : List Fd}, fldsE l = 0 → ∀ f ∈ l, fldE f = 0
  | [], _, f, hf => by cases hf
  | g :: l, h, f, hf => by
    unfold fldsE at h
    split at h
    · rename_i h1
      rcases List.mem_cons.1 hf with rfl | hf
      · exact h1
      · exact flds_each h f hf
    · rename_i h1
      exact absurd h h1
theorem flds_all : ∀ {l : List Fd}, (∀ f ∈ l, fldE f = 0) → fldsE l = 0
  | [], _ => rfl
  | g :: l, h => by
    unfold fldsE
    rw [if_pos (h g (by simp))]
    exact flds_all (fun f hf => h f (by simp [hf]))
theorem fld_name {f : Fd} (h : fldE f = 0) : nameL f.1 = true ∧ f.1 ≠ hostN ∧ f.1 ≠ lengthN ∧ f.1 ≠ codingN := by
  unfold fldE at h
  split at h
  · rename_i h1
    split at h
    · omega
    · rename_i h2
      exact ⟨h1.1, fun e => h2 (Or.inl e), fun e => h2 (Or.inr (Or.inl e)), fun e => h2 (Or.inr (Or.inr e))⟩
  · omega
theorem name_psd {n : List Int} (h : nameL n = true) : psdL n = false := by
  unfold nameL tokL at h
  cases n with
  | nil => rfl
  | cons c r =>
    simp [ok0, isSmall, isGreat] at h
    simp [psdL]
    omega
/- what goes over comes over -/
theorem pcs_psd {l : List Fd} (h : ∀ f ∈ l, nameL f.1 = true) : ∀ f ∈ l.flatMap pcsL, psdL f.1 = false := by
  intro f hf
  obtain ⟨g, hg, h2⟩ := List.mem_flatMap.1 hf
  unfold pcsL at h2
  split at h2
  · obtain ⟨v, _, rfl⟩ := List.mem_map.1 h2
    rfl
  · rw [List.mem_singleton.1 h2]
    exact name_psd (h g hg)
theorem list_rest {r : Rq} (h : ∀ f ∈ r.fields.flatMap pcsL, psdL f.1 = false) : (listL r).filter (fun f => !psdL f.1) = r.fields.flatMap pcsL := by
  have e : (r.fields.flatMap pcsL).filter (fun f => !psdL f.1) = r.fields.flatMap pcsL := List.filter_eq_self.2 (fun f hf => by rw [h f hf]; rfl)
  show ((methodP, r.method) :: (pathP, r.path) :: (hostP, r.host) :: r.fields.flatMap pcsL).filter _ = _
  rw [List.filter_cons_of_neg (by show ¬ (!psdL methodP) = true; decide), List.filter_cons_of_neg (by show ¬ (!psdL pathP) = true; decide), List.filter_cons_of_neg (by show ¬ (!psdL hostP) = true; decide), e]
theorem ask_flds {r : Rq} (h : askE r = 0) : fldsE r.fields = 0 := by
  unfold askE at h
  split at h
  · omega
  · split at h
    · exact h
    · omega
theorem ask_list {r : Rq} (h : askE r = 0) (hc : cksL r.fields ≤ 1) (hb : ∀ f ∈ r.fields, btwL f.1 = false) : askW (listL r) r.body = (0, r) := by
  have hf := flds_each (ask_flds h)
  have hp := pcs_psd (l := r.fields) (fun f hf' => (fld_name (hf f hf')).1)
  unfold askW
  rw [psd_list hp, list_rest hp]
  simp only []
  rw [rst_list _ r.fields [] none (fun f hf' => ⟨hb f hf', (fld_name (hf f hf')).2.1, (fld_name (hf f hf')).2.2.1⟩) ⟨hc, fun h => absurd rfl h⟩]
  simp only [List.nil_append]
  rw [if_pos h]
theorem ask_btw {r : Rq} (h : askE r = 0) (hb : ∃ f ∈ r.fields, btwL f.1 = true) : askW (listL r) r.body = (3, default) := by
  have hf := flds_each (ask_flds h)
  have hp := pcs_psd (l := r.fields) (fun f hf' => (fld_name (hf f hf')).1)
  unfold askW
  rw [psd_list hp, list_rest hp]
  simp only []
  rw [rst_none]
  obtain ⟨f, hf', h2⟩ := hb
  refine ⟨f, List.mem_flatMap.2 ⟨f, hf', ?_⟩, h2⟩
  unfold pcsL
  rw [if_neg (fun e => by rw [e] at h2; exact absurd h2 (by decide))]
  simp
/- replies -/
def tellW (a : Rp) : Int × List Fd := if tellE a 0 = 0 then (0, (codeP, decL a.code.toNat) :: (cleanL a.fields ++ if noBody false a.code = true then [] else [(lengthN, decL a.body.length)])) else (tellE a 0, [])
def code3 (v : List Int) : Option Int := match v with
  | [a, b, c] => if 49 ≤ a ∧ a ≤ 53 ∧ 48 ≤ b ∧ b ≤ 57 ∧ 48 ≤ c ∧ c ≤ 57 then some ((a - 48) * 100 + (b - 48) * 10 + (c - 48)) else none
  | _ => none
def replyW (l : List Fd) (body : List Int) : Int × Rp := match l with
  | [] => (3, default)
  | f :: r => if f.1 ≠ codeP ∨ r.any (fun g => psdL g.1) = true then (3, default) else match code3 f.2 with
    | none => (2, default)
    | some c => if tellE ⟨c, r.filter fun g => !decide (g.1 = lengthN), body⟩ 0 = 0 then (0, ⟨c, r.filter fun g => !decide (g.1 = lengthN), body⟩) else (tellE ⟨c, r.filter fun g => !decide (g.1 = lengthN), body⟩ 0, default)
theorem dec_three {n : Nat} (h1 : 100 ≤ n) (h2 : n ≤ 599) : decL n = [dc (n / 100), dc (n / 10 % 10), dc (n % 10)] := by
  rw [decL, if_neg (by omega), decL, if_neg (by omega), decL, if_pos (by omega)]
  simp [Nat.div_div_eq_div_mul]
theorem code_dec {n : Nat} (h1 : 100 ≤ n) (h2 : n ≤ 599) : code3 (decL n) = some (n : Int) := by
  rw [dec_three h1 h2]
  unfold code3 dc
  simp only []
  rw [if_pos (by omega)]
  congr 1
  omega
theorem reply_tell {a : Rp} (h : tellE a 0 = 0) : replyW (tellW a).2 a.body = (0, ⟨a.code, cleanL a.fields, a.body⟩) := by
  have h0 := h
  unfold tellE at h
  split at h
  · omega
  · rename_i h1
    split at h
    · omega
    · rename_i h2
      have hf := flds_each h
      obtain ⟨n, hn⟩ : ∃ n : Nat, a.code = n := ⟨a.code.toNat, by omega⟩
      have hcl : ∀ f ∈ cleanL a.fields, fldE f = 0 := fun f hf' => hf f (List.mem_filter.1 hf').1
      have hlen : (cleanL a.fields).length ≤ a.fields.length := List.length_filter_le _ _
      have hfil : ∀ T : List Fd, (T = [] ∨ T = [(lengthN, decL a.body.length)]) → (cleanL a.fields ++ T).filter (fun g => !decide (g.1 = lengthN)) = cleanL a.fields := by
        intro T hT
        have e1 : (cleanL a.fields).filter (fun g => !decide (g.1 = lengthN)) = cleanL a.fields := List.filter_eq_self.2 (fun f hf' => by have := (fld_name (hcl f hf')).2.2.1; simp [this])
        rcases hT with rfl | rfl
        · rw [List.append_nil, e1]
        · rw [List.filter_append, e1]; simp
      have hany : ∀ T : List Fd, (T = [] ∨ T = [(lengthN, decL a.body.length)]) → (cleanL a.fields ++ T).any (fun g => psdL g.1) = false := by
        intro T hT
        have e1 : (cleanL a.fields).any (fun g => psdL g.1) = false := List.any_eq_false.2 (fun f hf' => by rw [name_psd (fld_name (hcl f hf')).1]; simp)
        rcases hT with rfl | rfl
        · rw [List.append_nil, e1]
        · rw [List.any_append, e1]; rfl
      obtain ⟨T, hT, hTc⟩ : ∃ T : List Fd, (T = [] ∨ T = [(lengthN, decL a.body.length)]) ∧ (if noBody false a.code = true then [] else [(lengthN, decL a.body.length)]) = T := by
        by_cases e : noBody false a.code = true
        · exact ⟨[], Or.inl rfl, by rw [if_pos e]⟩
        · exact ⟨_, Or.inr rfl, by rw [if_neg e]⟩
      unfold tellW
      rw [if_pos h0, hTc]
      show replyW ((codeP, decL a.code.toNat) :: (cleanL a.fields ++ T)) a.body = _
      unfold replyW
      simp only []
      rw [if_neg (by rw [hany T hT]; simp)]
      have hc : code3 (decL a.code.toNat) = some a.code := by rw [hn]; exact code_dec (by omega) (by omega)
      simp only [hc, hfil T hT]
      have ht : tellE ⟨a.code, cleanL a.fields, a.body⟩ 0 = 0 := by
        unfold tellE
        rw [if_neg (by simp only []; omega), if_neg h2]
        exact flds_all hcl
      rw [if_pos ht]
/- what is clean -/
theorem clean_names {l : List Fd} {f : Fd} (h : f ∈ cleanL l) : btwL f.1 = false ∧ f.1 ≠ lengthN := by
  have := (List.mem_filter.1 h).2
  simp [goneL] at this
  exact ⟨this.1.1, this.1.2⟩
theorem clean_sub (l : List Fd) : (cleanL l).Sublist l := List.filter_sublist
/-- The first place of one that is there. -/
theorem sub_first {α : Type} [DecidableEq α] {x : α} {c : List α} : ∀ {l : List α}, (x :: c).Sublist l → ∃ a b, l = a ++ x :: b ∧ x ∉ a ∧ c.Sublist b
  | [], h => by cases h
  | y :: l, h => by
    by_cases e : y = x
    · subst e
      refine ⟨[], l, rfl, by simp, ?_⟩
      cases h with
      | cons _ h => exact (List.sublist_cons_self _ _).trans h
      | cons_cons _ h => exact h
    · cases h with
      | cons _ h =>
        obtain ⟨a, b, h1, h2, h3⟩ := sub_first h
        exact ⟨y :: a, b, by rw [h1]; rfl, by simp [h2]; exact fun e2 => e e2.symm, h3⟩
      | cons_cons _ h => exact absurd rfl e
theorem cut2_no {a b : Int} : ∀ {s : List Int}, a ∉ s → cut2 a b s = [s]
  | [], _ => rfl
  | [c], _ => rfl
  | c :: d :: r, h => by
    unfold cut2
    rw [if_neg (fun e => h (by simp [e.1])), cut2_no (s := d :: r) (fun e => h (by simp at e ⊢; exact Or.inr e))]
    rfl
theorem tok_comma {n : List Int} (h : tokL n = true) : (44 : Int) ∉ n := fun e => by
  unfold tokL at h
  simp only [Bool.and_eq_true, List.all_eq_true] at h
  have := h.1.1 44 e
  simp [ok0, isSmall, isGreat] at this
theorem named_more {n : List Int} (h : tokL n = true) (l : List Fd) : namedL ((connN, n) :: l) = n :: namedL l := by
  unfold namedL
  rw [List.flatMap_cons, if_pos rfl, cut2_no (tok_comma h)]
  simp [h]
theorem clean_more {n : List Int} (h : tokL n = true) (l : List Fd) : (∀ f ∈ cleanL ((connN, n) :: l), f.1 ≠ n) ∧ (cleanL ((connN, n) :: l)).length ≤ (cleanL l).length := by
  have e : cleanL ((connN, n) :: l) = l.filter fun f => !goneL (n :: namedL l) f.1 := by
    unfold cleanL
    rw [named_more h, List.filter_cons_of_neg (by simp [goneL, btwL])]
  rw [e]
  constructor
  · intro f hf
    have := (List.mem_filter.1 hf).2
    simp [goneL] at this
    exact this.2.1
  · unfold cleanL
    rw [← List.countP_eq_length_filter, ← List.countP_eq_length_filter]
    refine List.countP_mono_left (fun f _ hf => ?_)
    simp [goneL] at hf ⊢
    exact ⟨hf.1, hf.2.2⟩
/- how a walk cuts: what is cut already, and what is still to be looked at -/
theorem cut2_take {a b : Int} : ∀ {x : List Int} {r : List Int}, (∀ k, k < x.length → ¬ ((x ++ a :: b :: r).getD k 0 = a ∧ (x ++ a :: b :: r).getD (k + 1) 0 = b)) → cut2 a b (x ++ a :: b :: r) = x :: cut2 a b r
  | [], r, _ => by
    show cut2 a b (a :: b :: r) = _
    rw [cut2, if_pos ⟨rfl, rfl⟩]
  | c :: x, r, h => by
    have ih := cut2_take (x := x) (r := r) (fun k hk => by
      have := h (k + 1) (by simp; omega)
      simpa using this)
    have h0 := h 0 (by simp)
    cases hx : x ++ a :: b :: r with
    | nil => simp at hx
    | cons d y =>
      rw [List.cons_append, hx]
      have h1 : ¬ (c = a ∧ d = b) := by
        rw [List.cons_append, hx] at h0
        simpa using h0
      rw [cut2, if_neg h1, ← hx, ih]
      rfl
theorem cut2_end {a b : Int} : ∀ {x : List Int}, (∀ k, k + 1 < x.length → ¬ (x.getD k 0 = a ∧ x.getD (k + 1) 0 = b)) → cut2 a b x = [x]
  | [], _ => rfl
  | [c], _ => rfl
  | c :: d :: r, h => by
    have h0 := h 0 (by simp)
    rw [cut2, if_neg (by simpa using h0), cut2_end (x := d :: r) (fun k hk => by
      have := h (k + 1) (by simp at hk ⊢; omega)
      simpa using this)]
    rfl
/-- How far a text was cut: what came of it, where the next piece begins, how far it was looked at. -/
structure CutAt (a b : Int) (s : List Int) (done : List (List Int)) (p k : Nat) : Prop where
  all : cut2 a b s = done ++ cut2 a b (s.drop p)
  le : p ≤ s.length
  most : k ≤ s.length + 1
  no : ∀ j, p ≤ j → j < k → j + 1 < s.length → ¬ (s.getD j 0 = a ∧ s.getD (j + 1) 0 = b)
theorem CutAt.begin (a b : Int) (s : List Int) : CutAt a b s [] 0 0 := ⟨by simp, Nat.zero_le _, Nat.zero_le _, fun j _ h => by omega⟩
variable {a b : Int} {s : List Int} {done : List (List Int)} {p k : Nat}
theorem CutAt.next (h : CutAt a b s done p k) (hk : k ≤ s.length) (hn : p ≤ k → k + 1 < s.length → ¬ (s.getD k 0 = a ∧ s.getD (k + 1) 0 = b)) : CutAt a b s done p (k + 1) :=
  ⟨h.all, h.le, by omega, fun j h1 h2 h3 => by
    by_cases e : j = k
    · subst e; exact hn h1 h3
    · exact h.no j h1 (by omega) h3⟩
theorem CutAt.cut (h : CutAt a b s done p k) (hp : p ≤ k) (hk : k + 1 < s.length) (he : s.getD k 0 = a ∧ s.getD (k + 1) 0 = b) : CutAt a b s (done ++ [(s.drop p).take (k - p)]) (k + 2) (k + 1) := by
  refine ⟨?_, by omega, by omega, fun j h1 h2 => by omega⟩
  have g0 : s.getD k 0 = s[k] := by simp [List.getD, List.getElem?_eq_getElem (show k < s.length by omega)]
  have g1 : s.getD (k + 1) 0 = s[k + 1] := by simp [List.getD, List.getElem?_eq_getElem hk]
  have hs : s.drop p = (s.drop p).take (k - p) ++ a :: b :: s.drop (k + 2) := by
    have e1 : s.drop p = (s.drop p).take (k - p) ++ (s.drop p).drop (k - p) := (List.take_append_drop _ _).symm
    rw [List.drop_drop, show p + (k - p) = k by omega, List.drop_eq_getElem_cons (show k < s.length by omega), List.drop_eq_getElem_cons hk] at e1
    rw [← he.1, ← he.2, g0, g1]
    exact e1
  have hl : ((s.drop p).take (k - p)).length = k - p := by rw [List.length_take, List.length_drop]; omega
  rw [h.all, List.append_assoc]
  congr 1
  conv => lhs; rw [hs]
  rw [cut2_take]
  · rfl
  · intro j hj
    rw [hl] at hj
    rw [← hs]
    have := h.no (p + j) (by omega) (by omega) (by omega)
    simpa [List.getD, List.getElem?_drop, Nat.add_assoc] using this
theorem CutAt.last (h : CutAt a b s done p s.length) : cut2 a b s = done ++ [s.drop p] := by
  rw [h.all, cut2_end]
  intro j hj
  rw [List.length_drop] at hj
  have := h.no (p + j) (by omega) (by omega) (by omega)
  simpa [List.getD, List.getElem?_drop, Nat.add_assoc] using this
end Go.Proofs.YtibipnipeaeonaaGreatDoor
