/-
  WHOSE TURN IT IS: the document's picker as mathematics. No claim by itself.
-/
import Derived.Test.YtbhjgpbdfcppkaeDoorVl
namespace Go.Proofs.YtbhjgpbdfcppkaeDoor
set_option maxRecDepth 100000
structure PkO where
  id : Int
  wt : Int
  sc : Int
  wants : Bool
abbrev PL := List PkO
def pkb (x y : PkO) : Bool := decide (x.sc < y.sc) || (decide (x.sc = y.sc) && decide (x.id < y.id))
def lstep (a : Option PkO) (x : PkO) : Option PkO :=
  if x.wants then match a with
    | none => some x
    | some y => if pkb x y then some x else some y
  else a
def leastF (L : PL) : Option PkO := L.foldl lstep none
def leastSc (L : PL) : Int := match leastF L with
  | none => 0
  | some y => y.sc
def nextF (L : PL) : Int × Bool := match leastF L with
  | none => (0, false)
  | some y => (y.id, true)
def pkFind (L : PL) (id : Int) : Option PkO := L.find? (fun o => decide (o.id = id))
def addF (L : PL) (id wt : Int) : Int × PL :=
  if id < 1 ∨ 2147483647 < id ∨ wt < 1 ∨ 256 < wt then (1, L)
  else if (pkFind L id).isSome then (7, L) else if 100 ≤ L.length then (4, L) else (0, L ++ [⟨id, wt, leastSc L, false⟩])
def dropL (L : PL) (id : Int) : PL := L.filter (fun o => !decide (o.id = id))
def dropF (L : PL) (id : Int) : Int × PL := if (pkFind L id).isSome then (0, dropL L id) else (5, L)
def pkMap (L : PL) (id : Int) (f : PkO → PkO) : PL := L.map (fun o => if o.id = id then f o else o)
def wantO (L : PL) (yes : Bool) (o : PkO) : PkO := ⟨o.id, o.wt, if yes && !o.wants then max o.sc (leastSc L) else o.sc, yes⟩
def wantF (L : PL) (id : Int) (yes : Bool) : Int × PL := if (pkFind L id).isSome then (0, pkMap L id (wantO L yes)) else (5, L)
def sentO (n : Int) (o : PkO) : PkO := ⟨o.id, o.wt, min (o.sc + n * 65536 / o.wt) 4611686018427387904, o.wants⟩
def sentF (L : PL) (id n : Int) : Int × PL := if (pkFind L id).isSome then (if n < 0 ∨ 1000000 < n then (1, L) else (0, pkMap L id (sentO n))) else (5, L)
structure PkI (L : PL) : Prop where
  each : ∀ o ∈ L, 1 ≤ o.id ∧ o.id ≤ 2147483647 ∧ 1 ≤ o.wt ∧ o.wt ≤ 256 ∧ 0 ≤ o.sc ∧ o.sc ≤ 4611686018427387904
  nodup : (L.map PkO.id).Nodup
  len : L.length ≤ 100
theorem pkI_nil : PkI [] := ⟨(fun o ho => by cases ho), List.nodup_nil, by simp⟩
/- the least one -/
theorem foldl_least (L : PL) : ∀ a : Option PkO, (L.foldl lstep a = none ↔ a = none ∧ ∀ x ∈ L, x.wants = false) ∧
    (∀ y, L.foldl lstep a = some y → ((a = some y ∨ (y ∈ L ∧ y.wants = true)) ∧ (∀ z, a = some z → pkb z y = false) ∧ ∀ x ∈ L, x.wants = true → pkb x y = false)) := by
  have irr : ∀ x, pkb x x = false := fun x => by simp [pkb]
  have tr : ∀ x y z, pkb x y = true → pkb z y = false → pkb z x = false → True := fun _ _ _ _ _ _ => trivial
  have tr2 : ∀ x y z : PkO, pkb x y = false → pkb y z = false → pkb x z = false := by
    intro x y z h1 h2
    simp [pkb] at *
    omega
  have asym : ∀ x y, pkb x y = true → pkb y x = false := by
    intro x y h
    simp [pkb] at *
    omega
  clear tr
  induction L with
  | nil =>
    intro a
    refine ⟨by simp, fun y h => ?_⟩
    simp only [List.foldl_nil] at h
    subst h
    exact ⟨Or.inl rfl, fun z hz => by cases hz; exact irr _, fun x hx => by cases hx⟩
  | cons x r ih =>
    intro a
    obtain ⟨i1, i2⟩ := ih (lstep a x)
    rw [List.foldl_cons]
    refine ⟨?_, fun y h => ?_⟩
    · rw [i1]
      unfold lstep
      cases hx : x.wants
      · simp [hx]
      · simp only [if_true]
        constructor
        · rintro ⟨h, _⟩
          split at h
          · cases h
          · split at h <;> cases h
        · rintro ⟨_, h⟩
          have := h x (by simp)
          rw [hx] at this
          cases this
    · obtain ⟨j1, j2, j3⟩ := i2 y h
      cases hx : x.wants
      · have e : lstep a x = a := by unfold lstep; rw [hx]; rfl
        rw [e] at j1 j2
        refine ⟨j1.imp_right (fun k => ⟨List.mem_cons_of_mem _ k.1, k.2⟩), j2, fun z hz hw => ?_⟩
        rcases List.mem_cons.1 hz with rfl | hz
        · rw [hx] at hw; cases hw
        · exact j3 z hz hw
      · cases ha : a with
        | none =>
          have e : lstep a x = some x := by unfold lstep; rw [hx, ha]; rfl
          rw [e] at j1 j2
          refine ⟨Or.inr ?_, (fun z hz => by cases hz), fun z hz hw => ?_⟩
          · rcases j1 with k | k
            · cases k; exact ⟨by simp, hx⟩
            · exact ⟨List.mem_cons_of_mem _ k.1, k.2⟩
          · rcases List.mem_cons.1 hz with rfl | hz
            · exact j2 _ rfl
            · exact j3 z hz hw
        | some b =>
          cases hb : pkb x b
          · have e : lstep a x = some b := by unfold lstep; rw [hx, ha]; simp [hb]
            rw [e] at j1 j2
            refine ⟨?_, fun z hz => j2 z hz, fun z hz hw => ?_⟩
            · rcases j1 with k | k
              · exact Or.inl k
              · exact Or.inr ⟨List.mem_cons_of_mem _ k.1, k.2⟩
            · rcases List.mem_cons.1 hz with rfl | hz
              · exact tr2 _ _ _ hb (j2 b rfl)
              · exact j3 z hz hw
          · have e : lstep a x = some x := by unfold lstep; rw [hx, ha]; simp [hb]
            rw [e] at j1 j2
            refine ⟨Or.inr ?_, fun z hz => ?_, fun z hz hw => ?_⟩
            · rcases j1 with k | k
              · cases k; exact ⟨by simp, hx⟩
              · exact ⟨List.mem_cons_of_mem _ k.1, k.2⟩
            · cases hz
              exact tr2 _ _ _ (asym _ _ hb) (j2 x rfl)
            · rcases List.mem_cons.1 hz with rfl | hz
              · exact j2 _ rfl
              · exact j3 z hz hw
theorem least_none {L : PL} : leastF L = none ↔ ∀ x ∈ L, x.wants = false := by
  have h := (foldl_least L none).1
  unfold leastF
  rw [h]
  simp
theorem least_some {L : PL} {y : PkO} (h : leastF L = some y) : y ∈ L ∧ y.wants = true ∧ ∀ x ∈ L, x.wants = true → pkb x y = false := by
  obtain ⟨h1, _, h3⟩ := (foldl_least L none).2 y h
  rcases h1 with k | k
  · cases k
  · exact ⟨k.1, k.2, h3⟩
theorem mem_eq {L : PL} (hn : (L.map PkO.id).Nodup) {x y : PkO} (hx : x ∈ L) (hy : y ∈ L) (e : x.id = y.id) : x = y := by
  induction L with
  | nil => cases hx
  | cons a r ih =>
    rw [List.map_cons, List.nodup_cons] at hn
    rcases List.mem_cons.1 hx with h1 | h1
    · rcases List.mem_cons.1 hy with h2 | h2
      · rw [h1, h2]
      · exact absurd (by rw [← h1, e]; exact List.mem_map_of_mem (f := PkO.id) h2) hn.1
    · rcases List.mem_cons.1 hy with h2 | h2
      · exact absurd (by rw [← h2, ← e]; exact List.mem_map_of_mem (f := PkO.id) h1) hn.1
      · exact ih hn.2 h1 h2
/-- Who is the least one of all is the least one, whatever the order in which they are looked at. -/
theorem least_of {L : PL} (hn : (L.map PkO.id).Nodup) {y : PkO} (hy : y ∈ L) (hw : y.wants = true) (h : ∀ x ∈ L, x.wants = true → pkb x y = false) : leastF L = some y := by
  match e : leastF L with
  | none => have := least_none.1 e y hy; rw [hw] at this; cases this
  | some z =>
    obtain ⟨z1, z2, z3⟩ := least_some e
    have k1 := h z z1 z2
    have k2 := z3 y hy hw
    rw [mem_eq hn z1 hy (by simp [pkb] at k1 k2; omega)]
theorem find_some {L : PL} {id : Int} {o : PkO} (h : pkFind L id = some o) : o ∈ L ∧ o.id = id := by
  have h1 := List.find?_some h
  exact ⟨List.mem_of_find?_eq_some h, by simpa using h1⟩
theorem find_none {L : PL} {id : Int} : pkFind L id = none ↔ ∀ o ∈ L, o.id ≠ id := by
  unfold pkFind
  rw [List.find?_eq_none]
  simp
theorem find_mem {L : PL} (hn : (L.map PkO.id).Nodup) {o : PkO} (h : o ∈ L) : pkFind L o.id = some o := by
  match e : pkFind L o.id with
  | none => exact absurd rfl (find_none.1 e o h)
  | some x =>
    obtain ⟨h1, h2⟩ := find_some e
    rw [mem_eq hn h1 h h2]
theorem leastSc_range {L : PL} (h : PkI L) : 0 ≤ leastSc L ∧ leastSc L ≤ 4611686018427387904 := by
  unfold leastSc
  match e : leastF L with
  | none => simp
  | some y => have := h.each y (least_some e).1; simp only; omega
theorem addF_inv {L : PL} (h : PkI L) (id wt : Int) : PkI (addF L id wt).2 := by
  unfold addF
  split
  · exact h
  · split
    · exact h
    · split
      · exact h
      · rename_i h1 h2 h3
        have hr := leastSc_range h
        have hf : pkFind L id = none := by simpa using h2
        refine ⟨fun o ho => ?_, ?_, by simp; omega⟩
        · rcases List.mem_append.1 ho with k | k
          · exact h.each o k
          · simp at k
            subst k
            simp only
            omega
        · simp only [List.map_append, List.map_cons, List.map_nil]
          rw [List.nodup_append]
          refine ⟨h.nodup, by simp, fun a ha b hb => ?_⟩
          simp at hb
          subst hb
          obtain ⟨o, ho, rfl⟩ := List.mem_map.1 ha
          exact find_none.1 hf o ho
theorem dropF_inv {L : PL} (h : PkI L) (id : Int) : PkI (dropF L id).2 := by
  unfold dropF
  split
  · refine ⟨fun o ho => h.each o (List.mem_filter.1 ho).1, ?_, Nat.le_trans (List.length_filter_le _ _) h.len⟩
    exact (List.filter_sublist.map PkO.id).nodup h.nodup
  · exact h
theorem pkMap_ids (L : PL) (id : Int) (f : PkO → PkO) (hf : ∀ o, (f o).id = o.id) : (pkMap L id f).map PkO.id = L.map PkO.id := by
  unfold pkMap
  rw [List.map_map]
  apply List.map_congr_left
  intro o _
  simp only [Function.comp]
  split
  · exact hf o
  · rfl
theorem pkMap_inv {L : PL} (h : PkI L) (id : Int) (f : PkO → PkO) (hf : ∀ o, (f o).id = o.id) (hr : ∀ o ∈ L, 1 ≤ (f o).wt ∧ (f o).wt ≤ 256 ∧ 0 ≤ (f o).sc ∧ (f o).sc ≤ 4611686018427387904) : PkI (pkMap L id f) := by
  refine ⟨fun o ho => ?_, by rw [pkMap_ids L id f hf]; exact h.nodup, by unfold pkMap; rw [List.length_map]; exact h.len⟩
  obtain ⟨x, hx, rfl⟩ := List.mem_map.1 ho
  have := h.each x hx
  split
  · have := hr x hx
    have := hf x
    omega
  · omega
theorem wantF_inv {L : PL} (h : PkI L) (id : Int) (yes : Bool) : PkI (wantF L id yes).2 := by
  unfold wantF
  have hr := leastSc_range h
  split
  · refine pkMap_inv h id _ (fun o => rfl) (fun o ho => ?_)
    have := h.each o ho
    simp only [wantO]
    split <;> omega
  · exact h
theorem sent_room {n wt : Int} (h0 : 0 ≤ n) (h1 : n ≤ 1000000) (h2 : 1 ≤ wt) : 0 ≤ n * 65536 / wt ∧ n * 65536 / wt ≤ 65536000000 := by
  refine ⟨Int.ediv_nonneg (by omega) (by omega), ?_⟩
  exact Int.le_trans (Int.ediv_le_self _ (by omega)) (by omega)
theorem sentF_inv {L : PL} (h : PkI L) (id n : Int) : PkI (sentF L id n).2 := by
  unfold sentF
  split
  · split
    · exact h
    · rename_i hn
      refine pkMap_inv h id _ (fun o => rfl) (fun o ho => ?_)
      have := h.each o ho
      have hs := sent_room (n := n) (wt := o.wt) (by omega) (by omega) (by omega)
      simp only [sentO]
      omega
  · exact h
end Go.Proofs.YtbhjgpbdfcppkaeDoor
