/-
  CONNECTIONS TO PLACES: whom Take takes, by the order in which they came back. No claim by itself.
-/
import Derived.Test.YtibjbdcmhjbndaaDoorLo8X
import Derived.Test.YtibjbdcmhjbndaaDoorLo9a
namespace Go.Proofs.YtibjbdcmhjbndaaDoor
open Go Go.RowKit Go.Maps
set_option maxRecDepth 100000
/-- The Idle ones in their order. -/
structure ByTurn (S : Po) (T : LL) : Prop where
  nodup : T.Nodup
  mem : ∀ x, x ∈ T ↔ x ∈ S.L ∧ x.busy = false
  sorted : T.Pairwise (fun a b => a.turn < b.turn)
theorem idle_nodup {S : Po} (hI : PoI S) : (idleL S.L).Nodup := nodup_of_ids ((List.Sublist.map Lk.id List.filter_sublist).nodup hI.nodup)
theorem ByTurn.len {S : Po} {T : LL} (h : ByTurn S T) (hI : PoI S) : T.length = nI S.L := by
  have hp : T.Perm (idleL S.L) := (List.perm_ext_iff_of_nodup h.nodup (idle_nodup hI)).2 (fun x => by rw [h.mem, idle_mem])
  exact hp.length_eq
def lk0 : Lk := ⟨0, ⟨#[]⟩, false, 0, 0⟩
theorem ids_at {T : LL} {i : Nat} (h : i < T.length) : (T.map Lk.id).getD i 0 = (T.getD i lk0).id := by simp [List.getD, h]
theorem ByTurn.at_ {S : Po} {T : LL} (h : ByTurn S T) {i : Nat} (hi : i < T.length) : T.getD i lk0 ∈ S.L ∧ (T.getD i lk0).busy = false := by
  have : T.getD i lk0 ∈ T := by rw [List.getD, List.getElem?_eq_getElem hi]; exact List.getElem_mem hi
  exact (h.mem _).1 this
theorem ByTurn.find {S : Po} {T : LL} (h : ByTurn S T) {y : Lk} (hy : y ∈ S.L) (hb : y.busy = false) : ∃ j, j < T.length ∧ T.getD j lk0 = y := by
  obtain ⟨j, hj, e⟩ := List.getElem_of_mem ((h.mem y).2 ⟨hy, hb⟩)
  exact ⟨j, hj, by rw [List.getD, List.getElem?_eq_getElem hj]; exact e⟩
/-- The last one in the order that is to the place is the best. -/
theorem ByTurn.best {S : Po} {T : LL} (h : ByTurn S T) (hI : PoI S) {to : ByteArray} {i : Nat} (hi : i < T.length) (ht : (T.getD i lk0).to = to) (hn : ∀ j, i < j → j < T.length → (T.getD j lk0).to ≠ to) : bestK S.L to = some (T.getD i lk0) := by
  obtain ⟨h1, h2⟩ := h.at_ hi
  refine hI.best_of h1 h2 ht (fun y hy hb hto => ?_)
  obtain ⟨j, hj, rfl⟩ := h.find hy hb
  by_cases e : i < j
  · exact absurd hto (hn j e hj)
  · by_cases e2 : j = i
    · subst e2; exact Int.le_refl _
    · have hs := List.pairwise_iff_getElem.1 h.sorted j i hj hi (by omega)
      simp only [List.getD, List.getElem?_eq_getElem hj, List.getElem?_eq_getElem hi, Option.getD_some]
      omega
theorem ByTurn.none_ {S : Po} {T : LL} (h : ByTurn S T) {to : ByteArray} (hn : ∀ j, j < T.length → (T.getD j lk0).to ≠ to) : bestK S.L to = none :=
  best_none_of (fun y hy hb => by
    obtain ⟨j, hj, rfl⟩ := h.find hy hb
    exact hn j hj)
theorem ByTurn.old {S : Po} {T : LL} (h : ByTurn S T) (hI : PoI S) (hl : 0 < T.length) : oldK S.L = some (T.getD 0 lk0) := by
  obtain ⟨h1, h2⟩ := h.at_ hl
  refine hI.old_of h1 h2 (fun y hy hb => ?_)
  obtain ⟨j, hj, rfl⟩ := h.find hy hb
  by_cases e2 : j = 0
  · subst e2; exact Int.le_refl _
  · have hs := List.pairwise_iff_getElem.1 h.sorted 0 j hl hj (by omega)
    simp only [List.getD, List.getElem?_eq_getElem hj, List.getElem?_eq_getElem hl, Option.getD_some]
    omega
theorem fB_new {L : LL} {id : Int} {to : ByteArray} (hn : lkFind L id = none) (i : Int) : fB (L ++ [newK id to]) i = lfPut (fB L) id (some (to, 0, 0)) i := by
  unfold fB lfPut
  rw [lk_app L (newK id to) i hn]
  show (match if i = id then some (newK id to) else lkFind L i with | some o => if o.busy = true then some (bV o) else none | none => none) = _
  by_cases hi : i = id
  · rw [if_pos hi, if_pos hi]; rfl
  · rw [if_neg hi, if_neg hi]; rfl
theorem fI_new {L : LL} {id : Int} {to : ByteArray} (hn : lkFind L id = none) (i : Int) : fI (L ++ [newK id to]) i = fI L i := by
  unfold fI
  rw [lk_app L (newK id to) i hn]
  show (match if i = id then some (newK id to) else lkFind L i with | some o => if o.busy = true then none else some (iV o) | none => none) = _
  by_cases hi : i = id
  · rw [if_pos hi, hi, hn]; rfl
  · rw [if_neg hi]; rfl
theorem nB_new (L : LL) (id : Int) (to : ByteArray) : nB (L ++ [newK id to]) = nB L + 1 := by unfold nB busyL; rw [List.filter_append]; simp [newK]
theorem nI_new (L : LL) (id : Int) (to : ByteArray) : nI (L ++ [newK id to]) = nI L := by unfold nI idleL; rw [List.filter_append]; simp [newK]
theorem fresh_find {S : Po} (hI : PoI S) : lkFind S.L (S.last + 1) = none := lk_none.2 hI.fresh
theorem fresh_drop {S : Po} (hI : PoI S) (id : Int) : lkFind (dropK S.L id) (S.last + 1) = none := lk_none.2 (fun x hx => hI.fresh x (List.mem_filter.1 hx).1)
end Go.Proofs.YtibjbdcmhjbndaaDoor
