/-
  CONNECTIONS TO PLACES: what Tick lets go, entry by entry. No claim by itself.
-/
import Derived.Test.YtibjbdcmhjbndaaDoorLo4
namespace Go.Proofs.YtibjbdcmhjbndaaDoor
open Go.RowKit Go.Maps
set_option maxRecDepth 100000
/-- Whether the one with this id goes. -/
def goesI (L : LL) (p : Lk → Bool) (i : Int) : Bool := match lkFind L i with
  | some o => p o
  | none => false
/-- What the map says while entries come. -/
def fLeft (L : LL) (p : Lk → Bool) (left : Lit → Bool) : LF := fun i => if goesI L p i = true ∧ left (pkK i) = false then none else fI L i
def cameL (L : LL) (p : Lk → Bool) (left : Lit → Bool) : LL := L.filter (fun x => p x && !left (pkK x.id))
theorem goesI_mem {L : LL} (hn : (L.map Lk.id).Nodup) {p : Lk → Bool} {o : Lk} (ho : o ∈ L) : goesI L p o.id = p o := by unfold goesI; rw [lk_mem hn ho]
theorem fLeft_start {L : LL} {D : Dat} {n : Nat} (h : MF D (fI L) n) {p : Lk → Bool} (hp : ∀ o ∈ L, p o = true → o.busy = false) (i : Int) : fLeft L p (Maps.has D) i = fI L i := by
  unfold fLeft
  by_cases hg : goesI L p i = true ∧ Maps.has D (pkK i) = false
  · rw [if_pos hg]
    obtain ⟨h1, h2⟩ := hg
    unfold goesI at h1
    cases e : lkFind L i with
    | none => rw [e] at h1; cases h1
    | some o =>
      rw [e] at h1
      rw [h.some_ (fI_some e (hp o (lk_some e).1 h1))] at h2
      cases h2
  · rw [if_neg hg]
theorem cameL_start {L : LL} {D : Dat} {n : Nat} (h : MF D (fI L) n) (hn : (L.map Lk.id).Nodup) {p : Lk → Bool} (hp : ∀ o ∈ L, p o = true → o.busy = false) : cameL L p (Maps.has D) = [] := by
  unfold cameL
  rw [List.filter_eq_nil_iff]
  intro x hx
  cases e : p x with
  | false => simp
  | true => rw [h.some_ (fI_some (lk_mem hn hx) (hp x hx e))]; simp
theorem fLeft_no {L : LL} (hn : (L.map Lk.id).Nodup) {p : Lk → Bool} {left : Lit → Bool} {o : Lk} (ho : o ∈ L) (hp : p o = false) (i : Int) : fLeft L p (strike left o.id) i = fLeft L p left i := by
  unfold fLeft
  rw [strike_at]
  by_cases hi : i = o.id
  · subst hi
    rw [goesI_mem hn ho, hp]
    simp
  · simp [hi]
theorem fLeft_yes {L : LL} (hn : (L.map Lk.id).Nodup) {p : Lk → Bool} {left : Lit → Bool} {o : Lk} (ho : o ∈ L) (hp : p o = true) (i : Int) : fLeft L p (strike left o.id) i = lfPut (fLeft L p left) o.id none i := by
  unfold fLeft lfPut
  rw [strike_at]
  by_cases hi : i = o.id
  · subst hi
    rw [goesI_mem hn ho, hp]
    simp
  · simp [hi]
theorem fLeft_at {L : LL} {p : Lk → Bool} {left : Lit → Bool} {id : Int} {v : LV} (h : fLeft L p left id = some v) : fI L id = some v := by
  unfold fLeft at h
  split at h
  · cases h
  · exact h
theorem fI_inv {L : LL} {id : Int} {v : LV} (e : fI L id = some v) : ∃ o ∈ L, o.id = id ∧ o.busy = false ∧ v = iV o := by
  unfold fI at e
  split at e
  · rename_i o ho
    split at e
    · cases e
    · rename_i hb
      cases e
      exact ⟨o, (lk_some ho).1, (lk_some ho).2, by simpa using hb, rfl⟩
  · cases e
theorem mf_entry {D : Dat} {f : LF} {n : Nat} (h : MF D f n) {id : Int} {v : LV} (ha : ∀ zd, D.atKey (pkK id) zd = lkD v) : f id = some v := by
  have h1 := ha (.agg [])
  rw [h.at_] at h1
  cases e : f id with
  | none => rw [e] at h1; simp [lkD] at h1
  | some u =>
    rw [e] at h1
    rw [lkD_inj h1]
theorem cameL_no {L : LL} (hn : (L.map Lk.id).Nodup) {p : Lk → Bool} {left : Lit → Bool} {o : Lk} (ho : o ∈ L) (hp : p o = false) : cameL L p (strike left o.id) = cameL L p left := by
  unfold cameL
  apply List.filter_congr
  intro x hx
  rw [strike_at]
  by_cases e : x.id = o.id
  · rw [lk_eq hn hx ho e, hp]; simp
  · simp [e]
theorem cameL_yes {L : LL} (hn : (L.map Lk.id).Nodup) {p : Lk → Bool} {left : Lit → Bool} {o : Lk} (ho : o ∈ L) (hp : p o = true) (hl : left (pkK o.id) = true) : (cameL L p (strike left o.id)).Perm (cameL L p left ++ [o]) := by
  induction L with
  | nil => cases ho
  | cons x r ih =>
    rw [List.map_cons, List.nodup_cons] at hn
    unfold cameL at ih ⊢
    rcases List.mem_cons.1 ho with rfl | h
    · have hr : r.filter (fun y => p y && !strike left o.id (pkK y.id)) = r.filter (fun y => p y && !left (pkK y.id)) := by
        apply List.filter_congr
        intro y hy
        have : y.id ≠ o.id := fun e => hn.1 (by rw [← e]; exact List.mem_map_of_mem (f := Lk.id) hy)
        rw [strike_at]
        simp [this]
      rw [List.filter_cons, List.filter_cons, hr, strike_at, hl, hp]
      simp
      exact (List.perm_append_singleton o _).symm
    · have hne : x.id ≠ o.id := fun e => hn.1 (by rw [e]; exact List.mem_map_of_mem (f := Lk.id) h)
      have h1 := ih hn.2 h
      rw [List.filter_cons, List.filter_cons, strike_at]
      simp only [hne, decide_false, Bool.not_false, Bool.and_true]
      split
      · exact (List.Perm.cons x h1)
      · exact h1
theorem cameL_end {L : LL} {p : Lk → Bool} {left : Lit → Bool} (h : ∀ kl, left kl = false) : cameL L p left = L.filter p := by
  unfold cameL
  apply List.filter_congr
  intro x _
  rw [h]
  simp
theorem fLeft_end {L : LL} (hn : (L.map Lk.id).Nodup) {p : Lk → Bool} {left : Lit → Bool} (h : ∀ kl, left kl = false) (i : Int) : fI (L.filter (fun x => !p x)) i = fLeft L p left i := by
  unfold fLeft fI goesI
  rw [lk_filter hn, h]
  cases lkFind L i with
  | none => simp
  | some o => cases hq : p o <;> simp [hq]
theorem fB_filter {L : LL} (hn : (L.map Lk.id).Nodup) {p : Lk → Bool} (hp : ∀ o ∈ L, p o = true → o.busy = false) (i : Int) : fB (L.filter (fun x => !p x)) i = fB L i := by
  unfold fB
  rw [lk_filter hn]
  cases e : lkFind L i with
  | none => simp
  | some o =>
    cases hq : p o with
    | false => simp [hq]
    | true => simp [hq, hp o (lk_some e).1 hq]
theorem nB_filter {L : LL} {p : Lk → Bool} (hp : ∀ o ∈ L, p o = true → o.busy = false) : nB (L.filter (fun x => !p x)) = nB L := by
  unfold nB busyL
  rw [List.filter_filter]
  congr 1
  apply List.filter_congr
  intro x hx
  cases e : p x with
  | false => simp
  | true => simp [hp x hx e]
theorem nI_filter {L : LL} {p : Lk → Bool} (hp : ∀ o ∈ L, p o = true → o.busy = false) : (L.filter p).length + nI (L.filter (fun x => !p x)) = nI L := by
  unfold nI idleL
  induction L with
  | nil => rfl
  | cons x r ih =>
    have h1 := ih (fun o ho => hp o (List.mem_cons_of_mem _ ho))
    rw [List.filter_filter] at h1 ⊢
    cases e : p x with
    | false => cases e2 : x.busy <;> simp [e, e2] <;> omega
    | true => have := hp x (by simp) e; simp [e, this]; omega
theorem goes_idle {now old : Int} : ∀ L : LL, ∀ o ∈ L, goesB now old o = true → o.busy = false := by
  intro L o _ h
  unfold goesB at h
  cases e : o.busy <;> simp_all
end Go.Proofs.YtibjbdcmhjbndaaDoor
