/-
  CONNECTIONS TO PLACES: a pool as mathematics. No claim by itself.
-/
import Derived.Test.YtibjbdcmhjbndaaDoorVl
namespace Go.Proofs.YtibjbdcmhjbndaaDoor
set_option maxRecDepth 100000
/-- A connection. -/
structure Lk where
  id : Int
  to : ByteArray
  busy : Bool
  at_ : Int
  turn : Int
abbrev LL := List Lk
/-- A pool. -/
structure Po where
  many : Int
  last : Int
  now : Int
  turn : Int
  L : LL
def lkFind (L : LL) (id : Int) : Option Lk := L.find? (fun o => decide (o.id = id))
def dropK (L : LL) (id : Int) : LL := L.filter (fun o => !decide (o.id = id))
def mapK (L : LL) (id : Int) (f : Lk → Lk) : LL := L.map (fun o => if o.id = id then f o else o)
def isTo (to : ByteArray) (x : Lk) : Bool := !x.busy && decide (x.to = to)
/-- The one with the greatest turn; with the least. -/
def maxT : LL → Option Lk
  | [] => none
  | x :: r => match maxT r with
    | none => some x
    | some y => if x.turn < y.turn then some y else some x
def minT : LL → Option Lk
  | [] => none
  | x :: r => match minT r with
    | none => some x
    | some y => if y.turn < x.turn then some y else some x
theorem maxT_none {L : LL} : maxT L = none ↔ L = [] := by
  cases L with
  | nil => simp [maxT]
  | cons x r =>
    simp only [maxT]
    split
    · simp
    · split <;> simp
theorem minT_none {L : LL} : minT L = none ↔ L = [] := by
  cases L with
  | nil => simp [minT]
  | cons x r =>
    simp only [minT]
    split
    · simp
    · split <;> simp
theorem maxT_some {L : LL} : ∀ {x : Lk}, maxT L = some x → x ∈ L ∧ ∀ y ∈ L, y.turn ≤ x.turn := by
  induction L with
  | nil => intro x h; cases h
  | cons a r ih =>
    intro x h
    simp only [maxT] at h
    split at h
    · rename_i e
      cases h
      have := maxT_none.1 e
      subst this
      exact ⟨by simp, fun y hy => by simp at hy; subst hy; exact Int.le_refl _⟩
    · rename_i z e
      obtain ⟨h1, h2⟩ := ih e
      split at h
      · cases h
        exact ⟨List.mem_cons_of_mem _ h1, fun y hy => by
          rcases List.mem_cons.1 hy with rfl | hy
          · omega
          · exact h2 y hy⟩
      · cases h
        exact ⟨by simp, fun y hy => by
          rcases List.mem_cons.1 hy with rfl | hy
          · exact Int.le_refl _
          · have := h2 y hy; omega⟩
theorem minT_some {L : LL} : ∀ {x : Lk}, minT L = some x → x ∈ L ∧ ∀ y ∈ L, x.turn ≤ y.turn := by
  induction L with
  | nil => intro x h; cases h
  | cons a r ih =>
    intro x h
    simp only [minT] at h
    split at h
    · rename_i e
      cases h
      have := minT_none.1 e
      subst this
      exact ⟨by simp, fun y hy => by simp at hy; subst hy; exact Int.le_refl _⟩
    · rename_i z e
      obtain ⟨h1, h2⟩ := ih e
      split at h
      · cases h
        exact ⟨List.mem_cons_of_mem _ h1, fun y hy => by
          rcases List.mem_cons.1 hy with rfl | hy
          · omega
          · exact h2 y hy⟩
      · cases h
        exact ⟨by simp, fun y hy => by
          rcases List.mem_cons.1 hy with rfl | hy
          · exact Int.le_refl _
          · have := h2 y hy; omega⟩
/-- No two that differ have one turn. -/
def TurnsD (L : LL) : Prop := ∀ x ∈ L, ∀ y ∈ L, x.turn = y.turn → x = y
theorem maxT_of {L : LL} (hd : TurnsD L) {x : Lk} (hx : x ∈ L) (hm : ∀ y ∈ L, y.turn ≤ x.turn) : maxT L = some x := by
  cases e : maxT L with
  | none => rw [maxT_none.1 e] at hx; cases hx
  | some z =>
    obtain ⟨h1, h2⟩ := maxT_some e
    have := h2 x hx
    have := hm z h1
    rw [hd x hx z h1 (by omega)]
theorem minT_of {L : LL} (hd : TurnsD L) {x : Lk} (hx : x ∈ L) (hm : ∀ y ∈ L, x.turn ≤ y.turn) : minT L = some x := by
  cases e : minT L with
  | none => rw [minT_none.1 e] at hx; cases hx
  | some z =>
    obtain ⟨h1, h2⟩ := minT_some e
    have := h2 x hx
    have := hm z h1
    rw [hd x hx z h1 (by omega)]
def idleL (L : LL) : LL := L.filter (fun x => !x.busy)
def busyL (L : LL) : LL := L.filter (fun x => x.busy)
/-- Whom Take takes: the Idle one to the place that came back last; whom it lets go. -/
def bestK (L : LL) (to : ByteArray) : Option Lk := maxT (L.filter (isTo to))
def oldK (L : LL) : Option Lk := minT (idleL L)
def setB (o : Lk) : Lk := ⟨o.id, o.to, true, o.at_, o.turn⟩
def setI (now turn : Int) (o : Lk) : Lk := ⟨o.id, o.to, false, now, turn⟩
def newK (id : Int) (to : ByteArray) : Lk := ⟨id, to, true, 0, 0⟩
/-- What Take does of a place that is a Token: the id, whether it is new, the fault, what is left. -/
def takeF (S : Po) (to : ByteArray) : Int × Bool × Int × Po :=
  match bestK S.L to with
  | some x => (x.id, false, 0, ⟨S.many, S.last, S.now, S.turn, mapK S.L x.id setB⟩)
  | none => if S.many ≤ (S.L.length : Int) then match oldK S.L with
      | none => (0, false, 4, S)
      | some o => (S.last + 1, true, 0, ⟨S.many, S.last + 1, S.now, S.turn, dropK S.L o.id ++ [newK (S.last + 1) to]⟩)
    else (S.last + 1, true, 0, ⟨S.many, S.last + 1, S.now, S.turn, S.L ++ [newK (S.last + 1) to]⟩)
def busyF (L : LL) (id : Int) : Bool := match lkFind L id with
  | some o => o.busy
  | none => false
def backF (S : Po) (id : Int) (good : Bool) : Int × Po :=
  if busyF S.L id then (if good then (0, ⟨S.many, S.last, S.now, S.turn + 1, mapK S.L id (setI S.now (S.turn + 1))⟩) else (0, ⟨S.many, S.last, S.now, S.turn, dropK S.L id⟩)) else (5, S)
def goesB (now old : Int) (x : Lk) : Bool := !x.busy && decide (old < now - x.at_)
def tickE (S : Po) (now old : Int) : Int := if now < 0 ∨ 1000000 < now ∨ old < 0 ∨ 1000000 < old then 1 else if now < S.now then 6 else 0
def tickS (S : Po) (now old : Int) : Po := ⟨S.many, S.last, now, S.turn, S.L.filter (fun x => !goesB now old x)⟩
/-- Those that go, rising. -/
def goneL (L : LL) (now old : Int) : List Int := (L.filter (goesB now old)).map Lk.id
def TickIds (S : Po) (now old : Int) (ids : List Int) : Prop := ids.Perm (goneL S.L now old) ∧ ids.Pairwise (· ≤ ·)
structure PoI (S : Po) : Prop where
  each : ∀ x ∈ S.L, 1 ≤ x.id ∧ x.id ≤ S.last
  nodup : (S.L.map Lk.id).Nodup
  turns : ∀ x ∈ S.L, x.busy = false → 1 ≤ x.turn ∧ x.turn ≤ S.turn ∧ 0 ≤ x.at_ ∧ x.at_ ≤ S.now
  apart : ∀ x ∈ S.L, ∀ y ∈ S.L, x.busy = false → y.busy = false → x.turn = y.turn → x = y
  len : (S.L.length : Int) ≤ S.many
  many : 1 ≤ S.many ∧ S.many ≤ 8
  now : 0 ≤ S.now ∧ S.now ≤ 1000000
  last : 0 ≤ S.last
  turn : 0 ≤ S.turn
def po0 (many : Int) : Po := ⟨many, 0, 0, 0, []⟩
theorem poI_new {many : Int} (h : 1 ≤ many ∧ many ≤ 8) : PoI (po0 many) :=
  ⟨(fun x hx => by cases hx), List.nodup_nil, (fun x hx => by cases hx), (fun x hx => by cases hx), by simp [po0]; omega, h, ⟨by simp [po0], by simp [po0]⟩, by simp [po0], by simp [po0]⟩
theorem lk_some {L : LL} {id : Int} {o : Lk} (h : lkFind L id = some o) : o ∈ L ∧ o.id = id := by
  unfold lkFind at h
  exact ⟨List.mem_of_find?_eq_some h, by have := List.find?_some h; simpa using this⟩
theorem lk_none {L : LL} {id : Int} : lkFind L id = none ↔ ∀ o ∈ L, o.id ≠ id := by
  unfold lkFind
  rw [List.find?_eq_none]
  simp
theorem lk_mem {L : LL} (hn : (L.map Lk.id).Nodup) {o : Lk} (ho : o ∈ L) : lkFind L o.id = some o := by
  induction L with
  | nil => cases ho
  | cons x r ih =>
    rw [List.map_cons, List.nodup_cons] at hn
    unfold lkFind
    rcases List.mem_cons.1 ho with rfl | h
    · simp
    · have : x.id ≠ o.id := fun e => hn.1 (by rw [e]; exact List.mem_map_of_mem (f := Lk.id) h)
      rw [List.find?_cons_of_neg (by simpa using this)]
      exact ih hn.2 h
theorem lk_eq {L : LL} (hn : (L.map Lk.id).Nodup) {x y : Lk} (hx : x ∈ L) (hy : y ∈ L) (h : x.id = y.id) : x = y := by
  have h1 := lk_mem hn hx
  rw [h, lk_mem hn hy] at h1
  exact (Option.some.inj h1).symm
theorem lk_map {L : LL} {id : Int} {f : Lk → Lk} (hf : ∀ o, (f o).id = o.id) (i : Int) : lkFind (mapK L id f) i = if i = id then (lkFind L id).map f else lkFind L i := by
  unfold lkFind mapK
  induction L with
  | nil => simp
  | cons x r ih =>
    rw [List.map_cons]
    by_cases hx : x.id = id
    · rw [if_pos hx]
      by_cases hi : i = id
      · subst hi
        rw [if_pos rfl, List.find?_cons_of_pos (by simp [hf, hx]), List.find?_cons_of_pos (by simp [hx])]
        rfl
      · rw [if_neg hi, List.find?_cons_of_neg (by simp [hf, hx]; exact fun e => hi e.symm), List.find?_cons_of_neg (by simp [hx]; exact fun e => hi e.symm), ih, if_neg hi]
    · rw [if_neg hx]
      by_cases hi : x.id = i
      · have hne : ¬ i = id := fun e => hx (hi.trans e)
        simp [List.find?, hi, hne]
      · simp only [List.find?, decide_eq_false hi, decide_eq_false hx, ih]
theorem lk_app (L : LL) (o : Lk) (i : Int) (hn : lkFind L o.id = none) : lkFind (L ++ [o]) i = if i = o.id then some o else lkFind L i := by
  by_cases hi : i = o.id
  · subst hi
    unfold lkFind at *
    rw [if_pos rfl, List.find?_append, hn]
    simp
  · rw [if_neg hi]
    unfold lkFind
    rw [List.find?_append]
    have : List.find? (fun x : Lk => decide (x.id = i)) [o] = none := by
      simp
      exact fun e => hi e.symm
    rw [this]
    simp
theorem lk_filter_none {L : LL} {p : Lk → Bool} {i : Int} (h : ∀ o ∈ L, o.id = i → p o = false) : lkFind (L.filter p) i = none := by
  rw [lk_none]
  intro o ho e
  have h1 := List.mem_filter.1 ho
  rw [h o h1.1 e] at h1
  exact absurd h1.2 (by decide)
theorem lk_filter {L : LL} (hn : (L.map Lk.id).Nodup) {p : Lk → Bool} (i : Int) : lkFind (L.filter p) i = match lkFind L i with
    | some o => if p o then some o else none
    | none => none := by
  have hn2 : ((L.filter p).map Lk.id).Nodup := (List.Sublist.map Lk.id List.filter_sublist).nodup hn
  cases e : lkFind L i with
  | none =>
    rw [lk_none] at e
    exact lk_filter_none (fun o ho h => absurd h (e o ho))
  | some o =>
    obtain ⟨h1, rfl⟩ := lk_some e
    by_cases hp : p o = true
    · show _ = if p o = true then some o else none
      rw [if_pos hp]
      exact lk_mem hn2 (List.mem_filter.2 ⟨h1, hp⟩)
    · show _ = if p o = true then some o else none
      rw [if_neg hp]
      exact lk_filter_none (fun x hx h => by rw [lk_eq hn hx h1 h]; simpa using hp)
theorem lk_drop {L : LL} (hn : (L.map Lk.id).Nodup) (id i : Int) : lkFind (dropK L id) i = if i = id then none else lkFind L i := by
  unfold dropK
  rw [lk_filter hn]
  by_cases hi : i = id
  · subst hi
    rw [if_pos rfl]
    cases e : lkFind L i with
    | none => rfl
    | some o => simp [(lk_some e).2]
  · rw [if_neg hi]
    cases e : lkFind L i with
    | none => rfl
    | some o => simp [(lk_some e).2, hi]
theorem drop_ids {L : LL} {id : Int} (hn : (L.map Lk.id).Nodup) : ((dropK L id).map Lk.id).Nodup := (List.Sublist.map Lk.id List.filter_sublist).nodup hn
theorem drop_len {L : LL} (hn : (L.map Lk.id).Nodup) {o : Lk} (ho : o ∈ L) : (dropK L o.id).length + 1 = L.length := by
  induction L with
  | nil => cases ho
  | cons x r ih =>
    rw [List.map_cons, List.nodup_cons] at hn
    unfold dropK
    by_cases e : x.id = o.id
    · rw [List.filter_cons_of_neg (by simp [e])]
      have : r.filter (fun y => !decide (y.id = o.id)) = r := List.filter_eq_self.2 (fun y hy => by
        have : y.id ≠ o.id := fun h => hn.1 (by rw [e, ← h]; exact List.mem_map_of_mem (f := Lk.id) hy)
        simpa using this)
      rw [this]
      simp
    · rw [List.filter_cons_of_pos (by simp [e])]
      rcases List.mem_cons.1 ho with rfl | h
      · exact absurd rfl e
      · have := ih hn.2 h
        unfold dropK at this
        simp only [List.length_cons]
        omega
theorem map_ids {L : LL} {id : Int} {f : Lk → Lk} (hf : ∀ o, (f o).id = o.id) : (mapK L id f).map Lk.id = L.map Lk.id := by
  unfold mapK
  rw [List.map_map]
  apply List.map_congr_left
  intro o _
  simp only [Function.comp_apply]
  split
  · exact hf o
  · rfl
theorem map_mem {L : LL} {id : Int} {f : Lk → Lk} {y : Lk} (h : y ∈ mapK L id f) : (∃ x ∈ L, x.id = id ∧ y = f x) ∨ (y ∈ L ∧ y.id ≠ id) := by
  unfold mapK at h
  obtain ⟨x, hx, rfl⟩ := List.mem_map.1 h
  by_cases e : x.id = id
  · exact Or.inl ⟨x, hx, e, by rw [if_pos e]⟩
  · rw [if_neg e]
    exact Or.inr ⟨hx, e⟩
/- the counts -/
def nB (L : LL) : Nat := (busyL L).length
def nI (L : LL) : Nat := (idleL L).length
theorem nB_nI (L : LL) : nB L + nI L = L.length := by
  unfold nB nI busyL idleL
  induction L with
  | nil => rfl
  | cons x r ih => cases h : x.busy <;> simp [h] <;> omega
def idleTo (L : LL) (to : ByteArray) : Nat := (L.filter (isTo to)).length
/- what the steps keep -/
theorem isTo_iff {to : ByteArray} {x : Lk} : isTo to x = true ↔ x.busy = false ∧ x.to = to := by
  unfold isTo
  cases x.busy <;> simp
theorem best_some {L : LL} {to : ByteArray} {x : Lk} (h : bestK L to = some x) : x ∈ L ∧ x.busy = false ∧ x.to = to ∧ ∀ y ∈ L, y.busy = false → y.to = to → y.turn ≤ x.turn := by
  obtain ⟨h1, h2⟩ := maxT_some h
  obtain ⟨h3, h4⟩ := List.mem_filter.1 h1
  obtain ⟨h5, h6⟩ := isTo_iff.1 h4
  exact ⟨h3, h5, h6, fun y hy a b => h2 y (List.mem_filter.2 ⟨hy, isTo_iff.2 ⟨a, b⟩⟩)⟩
theorem best_none {L : LL} {to : ByteArray} (h : bestK L to = none) : ∀ y ∈ L, y.busy = false → y.to ≠ to := by
  intro y hy a b
  have := maxT_none.1 h
  have h1 : y ∈ L.filter (isTo to) := List.mem_filter.2 ⟨hy, isTo_iff.2 ⟨a, b⟩⟩
  rw [this] at h1
  cases h1
theorem PoI.best_of {S : Po} (h : PoI S) {to : ByteArray} {x : Lk} (hx : x ∈ S.L) (hb : x.busy = false) (ht : x.to = to) (hm : ∀ y ∈ S.L, y.busy = false → y.to = to → y.turn ≤ x.turn) : bestK S.L to = some x :=
  maxT_of (fun a ha b hb' e => h.apart a (List.mem_filter.1 ha).1 b (List.mem_filter.1 hb').1 (isTo_iff.1 (List.mem_filter.1 ha).2).1 (isTo_iff.1 (List.mem_filter.1 hb').2).1 e)
    (List.mem_filter.2 ⟨hx, isTo_iff.2 ⟨hb, ht⟩⟩) (fun y hy => hm y (List.mem_filter.1 hy).1 (isTo_iff.1 (List.mem_filter.1 hy).2).1 (isTo_iff.1 (List.mem_filter.1 hy).2).2)
theorem best_none_of {L : LL} {to : ByteArray} (h : ∀ y ∈ L, y.busy = false → y.to ≠ to) : bestK L to = none := by
  refine maxT_none.2 (List.filter_eq_nil_iff.2 fun y hy e => ?_)
  obtain ⟨a, b⟩ := isTo_iff.1 e
  exact h y hy a b
theorem idle_mem {L : LL} {x : Lk} : x ∈ idleL L ↔ x ∈ L ∧ x.busy = false := by
  unfold idleL
  rw [List.mem_filter]
  simp
theorem old_some {L : LL} {x : Lk} (h : oldK L = some x) : x ∈ L ∧ x.busy = false ∧ ∀ y ∈ L, y.busy = false → x.turn ≤ y.turn := by
  obtain ⟨h1, h2⟩ := minT_some h
  obtain ⟨h3, h4⟩ := idle_mem.1 h1
  exact ⟨h3, h4, fun y hy a => h2 y (idle_mem.2 ⟨hy, a⟩)⟩
theorem old_none {L : LL} : oldK L = none ↔ nI L = 0 := by
  unfold oldK nI
  rw [minT_none, List.length_eq_zero_iff]
theorem PoI.old_of {S : Po} (h : PoI S) {x : Lk} (hx : x ∈ S.L) (hb : x.busy = false) (hm : ∀ y ∈ S.L, y.busy = false → x.turn ≤ y.turn) : oldK S.L = some x :=
  minT_of (fun a ha b hb' e => h.apart a (idle_mem.1 ha).1 b (idle_mem.1 hb').1 (idle_mem.1 ha).2 (idle_mem.1 hb').2 e) (idle_mem.2 ⟨hx, hb⟩) (fun y hy => hm y (idle_mem.1 hy).1 (idle_mem.1 hy).2)
theorem PoI.fresh {S : Po} (h : PoI S) : ∀ x ∈ S.L, x.id ≠ S.last + 1 := fun x hx => by have := (h.each x hx).2; omega
theorem poI_drop {S : Po} (h : PoI S) (id : Int) : PoI ⟨S.many, S.last, S.now, S.turn, dropK S.L id⟩ := by
  have hm : ∀ {x}, x ∈ dropK S.L id → x ∈ S.L := fun hx => (List.mem_filter.1 hx).1
  refine ⟨fun x hx => h.each x (hm hx), drop_ids h.nodup, fun x hx => h.turns x (hm hx), fun x hx y hy => h.apart x (hm hx) y (hm hy), ?_, h.many, h.now, h.last, h.turn⟩
  have h1 : (dropK S.L id).length ≤ S.L.length := List.length_filter_le _ _
  have := h.len
  show ((dropK S.L id).length : Int) ≤ S.many
  omega
theorem poI_add {S : Po} (h : PoI S) (to : ByteArray) (hl : (S.L.length : Int) < S.many) : PoI ⟨S.many, S.last + 1, S.now, S.turn, S.L ++ [newK (S.last + 1) to]⟩ := by
  have hm : ∀ {x}, x ∈ S.L ++ [newK (S.last + 1) to] → x ∈ S.L ∨ x = newK (S.last + 1) to := fun hx => by simpa using hx
  have hl0 := h.last
  refine ⟨fun x hx => ?_, ?_, fun x hx hb => ?_, fun x hx y hy a b e => ?_, ?_, h.many, h.now, by simp only; omega, h.turn⟩
  · rcases hm hx with hx | rfl
    · have := h.each x hx; simp only; omega
    · simp [newK]; omega
  · rw [List.map_append, List.nodup_append]
    refine ⟨h.nodup, by simp, fun a ha b hb => ?_⟩
    simp [newK] at hb
    obtain ⟨x, hx, rfl⟩ := List.mem_map.1 ha
    rw [hb]
    exact h.fresh x hx
  · rcases hm hx with hx | rfl
    · exact h.turns x hx hb
    · simp [newK] at hb
  · rcases hm hx with hx | rfl
    · rcases hm hy with hy | rfl
      · exact h.apart x hx y hy a b e
      · simp [newK] at b
    · simp [newK] at a
  · simp only [List.length_append, List.length_cons, List.length_nil]; omega
theorem poI_take {S : Po} (h : PoI S) (to : ByteArray) : PoI (takeF S to).2.2.2 := by
  unfold takeF
  cases e : bestK S.L to with
  | some x =>
    obtain ⟨h1, h2, h3, h4⟩ := best_some e
    simp only
    refine ⟨fun y hy => ?_, (by show ((mapK _ _ _).map Lk.id).Nodup; rw [map_ids (fun o => by rfl)]; exact h.nodup), fun y hy hb => ?_, fun y hy z hz a b e => ?_, by unfold mapK; simp only [List.length_map]; exact h.len, h.many, h.now, h.last, h.turn⟩
    · rcases map_mem hy with ⟨z, hz, _, rfl⟩ | ⟨hy, _⟩
      · exact h.each z hz
      · exact h.each y hy
    · rcases map_mem hy with ⟨z, hz, _, rfl⟩ | ⟨hy, _⟩
      · simp [setB] at hb
      · exact h.turns y hy hb
    · rcases map_mem hy with ⟨q, hq, _, rfl⟩ | ⟨hy, _⟩
      · simp [setB] at a
      · rcases map_mem hz with ⟨q, hq, _, rfl⟩ | ⟨hz, _⟩
        · simp [setB] at b
        · exact h.apart y hy z hz a b e
  | none =>
    simp only
    by_cases hl : S.many ≤ (S.L.length : Int)
    · rw [if_pos hl]
      cases eo : oldK S.L with
      | none => exact h
      | some o =>
        obtain ⟨h1, _⟩ := old_some eo
        have := drop_len h.nodup h1
        have := h.len
        exact poI_add (poI_drop h o.id) to (by simp only; omega)
    · rw [if_neg hl]
      exact poI_add h to (by omega)
theorem poI_back {S : Po} (h : PoI S) (id : Int) (good : Bool) : PoI (backF S id good).2 := by
  unfold backF
  split
  · rename_i hbz
    split
    · have hn := h.now
      have ht := h.turn
      refine ⟨fun y hy => ?_, (by show ((mapK _ _ _).map Lk.id).Nodup; rw [map_ids (fun o => by rfl)]; exact h.nodup), fun y hy hb => ?_, fun y hy z hz a b e => ?_, by unfold mapK; simp only [List.length_map]; exact h.len, h.many, h.now, h.last, by simp only; omega⟩
      · rcases map_mem hy with ⟨z, hz, _, rfl⟩ | ⟨hy, _⟩
        · exact h.each z hz
        · exact h.each y hy
      · rcases map_mem hy with ⟨z, hz, _, rfl⟩ | ⟨hy, _⟩
        · simp [setI]; omega
        · have := h.turns y hy hb
          simp only
          omega
      · rcases map_mem hy with ⟨q, hq, e1, rfl⟩ | ⟨hy, _⟩
        · rcases map_mem hz with ⟨q', hq', e2, rfl⟩ | ⟨hz, _⟩
          · rw [lk_eq h.nodup hq hq' (e1.trans e2.symm)]
          · have := h.turns z hz b
            simp only [setI] at e
            omega
        · rcases map_mem hz with ⟨q', hq', e2, rfl⟩ | ⟨hz, _⟩
          · have := h.turns y hy a
            simp only [setI] at e
            omega
          · exact h.apart y hy z hz a b e
    · exact poI_drop h id
  · exact h
theorem poI_tick {S : Po} (h : PoI S) {now old : Int} (he : tickE S now old = 0) : PoI (tickS S now old) := by
  have hn : 0 ≤ now ∧ now ≤ 1000000 ∧ S.now ≤ now := by
    unfold tickE at he
    split at he
    · cases he
    · split at he
      · cases he
      · omega
  have hm : ∀ {x}, x ∈ (tickS S now old).L → x ∈ S.L := fun hx => (List.mem_filter.1 hx).1
  refine ⟨fun x hx => h.each x (hm hx), (List.Sublist.map Lk.id List.filter_sublist).nodup h.nodup, fun x hx hb => ?_, fun x hx y hy => h.apart x (hm hx) y (hm hy), ?_, h.many, ⟨hn.1, hn.2.1⟩, h.last, h.turn⟩
  · have := h.turns x (hm hx) hb
    show _ ∧ _ ∧ _ ∧ x.at_ ≤ now
    refine ⟨this.1, this.2.1, this.2.2.1, ?_⟩
    omega
  · have h1 : (S.L.filter (fun x => !goesB now old x)).length ≤ S.L.length := List.length_filter_le _ _
    have := h.len
    show ((S.L.filter (fun x => !goesB now old x)).length : Int) ≤ S.many
    omega
end Go.Proofs.YtibjbdcmhjbndaaDoor
