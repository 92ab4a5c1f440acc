/-
  WHO IS TAKEN IS TAKEN BY ONE ALONE: those that are away, as a list. No claim by itself.
-/
import Derived.Test.YtibjbdcmhjbndaaDoorLo12
import Derived.Test.YtibjbdcmhjbndaaDoorLo2b
namespace Go.Proofs.YtibjbdcmhjbndaaDoor
open Go Go.RowKit Go.Maps
set_option maxRecDepth 100000
/-- Those that are away are the Busy ones. -/
def Away (S : Po) (B : List Int) : Prop := B.Perm ((busyL S.L).map Lk.id)
theorem away_nil (many : Int) : Away (po0 many) [] := List.Perm.nil
section
variable {S : Po} {B : List Int} (h : Away S B)
include h
theorem Away.len : B.length = nB S.L := by unfold Away at h; rw [h.length_eq, List.length_map]; rfl
theorem Away.mem {id : Int} : id ∈ B ↔ ∃ o ∈ S.L, o.busy = true ∧ o.id = id := by
  rw [h.mem_iff, List.mem_map]
  constructor
  · rintro ⟨o, ho, rfl⟩
    have := List.mem_filter.1 ho
    exact ⟨o, this.1, this.2, rfl⟩
  · rintro ⟨o, ho, hb, rfl⟩
    exact ⟨o, List.mem_filter.2 ⟨ho, hb⟩, rfl⟩
theorem Away.busy (hI : PoI S) {id : Int} (hm : id ∈ B) : busyF S.L id = true := by
  obtain ⟨o, ho, hb, rfl⟩ := h.mem.1 hm
  unfold busyF
  rw [lk_mem hI.nodup ho]
  exact hb
end
theorem busyL_app (L : LL) (o : Lk) : busyL (L ++ [o]) = busyL L ++ busyL [o] := List.filter_append ..
theorem busyL_drop {L : LL} {id : Int} (h : ∀ o ∈ L, o.id = id → o.busy = false) : busyL (dropK L id) = busyL L := by
  unfold busyL dropK
  rw [List.filter_filter]
  refine List.filter_congr fun o ho => ?_
  cases hb : o.busy with
  | false => rfl
  | true =>
    have : ¬ o.id = id := fun e => by rw [h o ho e] at hb; cases hb
    simp [this]
/-- Who was Idle, and is taken. -/
theorem busy_set {L : LL} (hn : (L.map Lk.id).Nodup) {x : Lk} (hx : x ∈ L) (hb : x.busy = false) : ((busyL (mapK L x.id setB)).map Lk.id).Perm ((busyL L).map Lk.id ++ [x.id]) := by
  induction L with
  | nil => cases hx
  | cons a r ih =>
    rw [List.map_cons, List.nodup_cons] at hn
    have hr : ∀ o ∈ r, a.id ≠ o.id := fun o ho e => hn.1 (List.mem_map.2 ⟨o, ho, e.symm⟩)
    have keep : ∀ {i : Int}, (∀ o ∈ r, o.id ≠ i) → mapK r i setB = r := by
      intro i hi
      unfold mapK
      conv => rhs; rw [← List.map_id r]
      exact List.map_congr_left fun o ho => by simp [hi o ho]
    rcases List.mem_cons.1 hx with rfl | hx
    · have e1 : mapK (x :: r) x.id setB = setB x :: r := by
        unfold mapK at keep ⊢
        rw [List.map_cons, keep (fun o ho e => hr o ho e.symm)]
        simp
      rw [e1]
      unfold busyL
      rw [List.filter_cons_of_pos (by rfl), List.filter_cons_of_neg (by simp [hb])]
      exact (List.perm_append_singleton x.id _).symm
    · have ha : a.id ≠ x.id := hr x hx
      have e1 : mapK (a :: r) x.id setB = a :: mapK r x.id setB := by unfold mapK; rw [List.map_cons, if_neg ha]
      rw [e1]
      unfold busyL at ih ⊢
      cases hab : a.busy with
      | false => rw [List.filter_cons_of_neg (by simp [hab]), List.filter_cons_of_neg (by simp [hab])]; exact ih hn.2 hx
      | true => rw [List.filter_cons_of_pos (by simp [hab]), List.filter_cons_of_pos (by simp [hab])]; exact (ih hn.2 hx).cons a.id
theorem busyL_ids {L : LL} (hn : (L.map Lk.id).Nodup) (id : Int) (g : Lk → Lk) (hg : ∀ o, (g o).busy = false) : (busyL (mapK L id g)).map Lk.id = ((busyL L).map Lk.id).filter (fun i => !decide (i = id)) := by
  induction L with
  | nil => rfl
  | cons a r ih =>
    rw [List.map_cons, List.nodup_cons] at hn
    have ih := ih hn.2
    unfold mapK busyL at ih ⊢
    rw [List.map_cons]
    by_cases e : a.id = id
    · rw [if_pos e, List.filter_cons_of_neg (by simp [hg]), ih]
      cases hab : a.busy with
      | false => rw [List.filter_cons_of_neg (a := a) (by simp [hab])]
      | true => rw [List.filter_cons_of_pos (a := a) (by simp [hab]), List.map_cons, List.filter_cons_of_neg (by simp [e])]
    · rw [if_neg e]
      cases hab : a.busy with
      | false => rw [List.filter_cons_of_neg (a := a) (by simp [hab]), List.filter_cons_of_neg (a := a) (by simp [hab]), ih]
      | true => rw [List.filter_cons_of_pos (a := a) (by simp [hab]), List.filter_cons_of_pos (a := a) (by simp [hab]), List.map_cons, List.map_cons, List.filter_cons_of_pos (by simp [e]), ih]
theorem busyL_dropped {L : LL} (id : Int) : (busyL (dropK L id)).map Lk.id = ((busyL L).map Lk.id).filter (fun i => !decide (i = id)) := by
  unfold busyL dropK
  rw [List.filter_filter, List.filter_map, List.filter_filter]
  congr 1
  refine List.filter_congr fun o _ => ?_
  simp [Bool.and_comm]
theorem cons_gone {id : Int} {B M : List Int} (hn : M.Nodup) (h : (id :: B).Perm M) : B.Perm (M.filter (fun i => !decide (i = id))) := by
  have hnd : (id :: B).Nodup := h.nodup_iff.2 hn
  have h2 := h.filter (fun i => !decide (i = id))
  rw [List.filter_cons_of_neg (by simp)] at h2
  have e : B.filter (fun i => !decide (i = id)) = B := List.filter_eq_self.2 fun i hi => by
    have : i ≠ id := fun e => (List.nodup_cons.1 hnd).1 (e ▸ hi)
    simp [this]
  rwa [e] at h2
theorem busy_nodup {S : Po} (hI : PoI S) : ((busyL S.L).map Lk.id).Nodup := (List.Sublist.map Lk.id List.filter_sublist).nodup hI.nodup
/-- What Take tells, and who is away then. -/
structure TookS (S : Po) (B : List Int) (many last : Int) (id : Int) (fresh : Bool) (S' : Po) : Prop where
  away : Away S' (B ++ [id])
  new : id ∉ B
  yes : fresh = true → id = last + 1 ∧ S'.last = last + 1
  no : fresh = false → id ≤ last ∧ S'.last = last
  rng : 1 ≤ id ∧ id ≤ S'.last
  turn : S'.turn = S.turn
  many : S'.many = many
theorem take_away {S : Po} {B : List Int} (h : Away S B) (hI : PoI S) {to : ByteArray} (ht : tokL (unums to) = true) :
    ((B.length : Int) = S.many ∧ takeT S to = (0, false, 4, S)) ∨ ∃ id fresh S', takeT S to = (id, fresh, 0, S') ∧ TookS S B S.many S.last id fresh S' := by
  have hnew : S.last + 1 ∉ B := fun hm => by
    obtain ⟨o, ho, _, e⟩ := h.mem.1 hm
    exact hI.fresh o ho e
  have hl0 := hI.last
  cases hb : bestK S.L to with
  | some x =>
    right
    obtain ⟨hx, hxb, _, _⟩ := best_some hb
    refine ⟨x.id, false, _, take_again ht hb, ?_, fun hm => ?_, (fun e => by cases e), fun _ => ⟨(hI.each x hx).2, rfl⟩, hI.each x hx, rfl, rfl⟩
    · exact (h.append_right [x.id]).trans (busy_set hI.nodup hx hxb).symm
    · obtain ⟨o, ho, hob, e⟩ := h.mem.1 hm
      have := lk_eq hI.nodup ho hx e
      rw [this, hxb] at hob
      cases hob
  | none =>
    by_cases hf : S.many ≤ (nB S.L : Int)
    · left
      have h1 := nB_nI S.L
      have h2 := hI.len
      have h3 := h.len
      exact ⟨by omega, take_full ht hI hb hf⟩
    · right
      by_cases hl : S.many ≤ (S.L.length : Int)
      · cases ho : oldK S.L with
        | none =>
          have := old_none.1 ho
          have h1 := nB_nI S.L
          omega
        | some o =>
          obtain ⟨ho1, ho2, _⟩ := old_some ho
          refine ⟨S.last + 1, true, ⟨S.many, S.last + 1, S.now, S.turn, dropK S.L o.id ++ [newK (S.last + 1) to]⟩, ?_, ?_, hnew, fun _ => ⟨rfl, rfl⟩, (fun e => by cases e), ⟨by omega, Int.le_refl _⟩, rfl, rfl⟩
          · unfold takeT takeF
            rw [if_pos ht, hb]
            simp only
            rw [if_pos hl, ho]
          · show (B ++ [S.last + 1]).Perm ((busyL (dropK S.L o.id ++ [newK (S.last + 1) to])).map Lk.id)
            rw [busyL_app, busyL_drop (fun y hy e => by rw [lk_eq hI.nodup hy ho1 e]; exact ho2), List.map_append]
            exact h.append_right _
      · refine ⟨S.last + 1, true, ⟨S.many, S.last + 1, S.now, S.turn, S.L ++ [newK (S.last + 1) to]⟩, ?_, ?_, hnew, fun _ => ⟨rfl, rfl⟩, (fun e => by cases e), ⟨by omega, Int.le_refl _⟩, rfl, rfl⟩
        · unfold takeT takeF
          rw [if_pos ht, hb]
          simp only
          rw [if_neg hl]
        · show (B ++ [S.last + 1]).Perm ((busyL (S.L ++ [newK (S.last + 1) to])).map Lk.id)
          rw [busyL_app, List.map_append]
          exact h.append_right _
/-- One that is away comes back, once. -/
theorem back_away {S : Po} {id : Int} {B : List Int} (h : Away S (id :: B)) (hI : PoI S) (good : Bool) :
    ∃ S', backF S id good = (0, S') ∧ Away S' B ∧ backF S' id true = (5, S') ∧ S'.many = S.many ∧ S'.last = S.last ∧ S'.turn ≤ S.turn + 1 := by
  have hb := h.busy hI (List.mem_cons_self ..)
  have hI' := poI_back hI id good
  have hgone : B.Perm (((busyL S.L).map Lk.id).filter (fun i => !decide (i = id))) := cons_gone (busy_nodup hI) h
  have key : ∀ S', backF S id good = (0, S') → Away S' B → S'.many = S.many → S'.last = S.last → S'.turn ≤ S.turn + 1 → ∃ S', backF S id good = (0, S') ∧ Away S' B ∧ backF S' id true = (5, S') ∧ S'.many = S.many ∧ S'.last = S.last ∧ S'.turn ≤ S.turn + 1 := by
    intro S' e hA a b c
    refine ⟨S', e, hA, back_none ?_, a, b, c⟩
    rw [e] at hI'
    cases hq : busyF S'.L id with
    | false => rfl
    | true =>
      obtain ⟨o, ho, hob⟩ := busyF_inv hq
      obtain ⟨ho1, ho2⟩ := lk_some ho
      have hm : id ∈ B := hA.mem.2 ⟨o, ho1, hob, ho2⟩
      have hnd : (id :: B).Nodup := h.nodup_iff.2 (busy_nodup hI)
      exact absurd hm (List.nodup_cons.1 hnd).1
  cases good with
  | true =>
    refine key _ (back_good hb) ?_ rfl rfl (Int.le_refl _)
    show B.Perm ((busyL (mapK S.L id (setI S.now (S.turn + 1)))).map Lk.id)
    rw [busyL_ids hI.nodup id _ (fun _ => rfl)]
    exact hgone
  | false =>
    refine key _ (back_bad hb) ?_ rfl rfl (by show S.turn ≤ S.turn + 1; omega)
    show B.Perm ((busyL (dropK S.L id)).map Lk.id)
    rw [busyL_dropped]
    exact hgone
/-- All that are there are not more than may be. -/
theorem sum_many {S : Po} {B : List Int} (h : Away S B) (hI : PoI S) {a b : ByteArray} (hne : a ≠ b) : (idleTo S.L a : Int) + (idleTo S.L b : Int) + (B.length : Int) ≤ S.many := by
  have h1 : idleTo S.L a + idleTo S.L b ≤ nI S.L := by
    unfold idleTo nI idleL
    generalize S.L = L
    induction L with
    | nil => simp
    | cons x r ih =>
      have e1 := List.filter_cons (p := isTo a) (x := x) (xs := r)
      have e2 := List.filter_cons (p := isTo b) (x := x) (xs := r)
      have e3 := List.filter_cons (p := fun x : Lk => !x.busy) (x := x) (xs := r)
      rw [e1, e2, e3]
      by_cases c1 : isTo a x = true
      · have k1 := isTo_iff.1 c1
        have c2 : ¬ isTo b x = true := fun c2 => hne (k1.2.symm.trans (isTo_iff.1 c2).2)
        simp only [c1, c2, k1.1, if_true, Bool.not_false, List.length_cons]
        simp only [Bool.false_eq_true, if_false]
        omega
      · by_cases c2 : isTo b x = true
        · have k2 := isTo_iff.1 c2
          simp only [c1, c2, k2.1, if_true, Bool.not_false, List.length_cons]
          simp only [Bool.false_eq_true, if_false]
          omega
        · simp only [c1, c2]
          simp only [Bool.false_eq_true, if_false]
          split
          · rw [List.length_cons]; omega
          · omega
  have h2 := nB_nI S.L
  have h3 := hI.len
  have h4 := h.len
  omega
end Go.Proofs.YtibjbdcmhjbndaaDoor
