/-
  A PICKER as the document's answer keeps it: what is stored and where; mathematics of its rows. No claim by itself.
-/
import Derived.Test.YtbhjgpbdfcppkaeDoorPref2
import Derived.Maps.AppendAt
import Derived.Deep.AppendLies
namespace Go.Proofs.YtbhjgpbdfcppkaeDoor
open Go.RowKit
set_option maxRecDepth 100000
theorem pk_map_none (L : PL) (id : Int) (f : PkO → PkO) (h : ∀ o ∈ L, o.id ≠ id) : pkMap L id f = L := by
  unfold pkMap
  conv => rhs; rw [← List.map_id L]
  exact List.map_congr_left (fun o ho => if_neg (h o ho))
theorem drop_none (L : PL) (id : Int) (h : ∀ o ∈ L, o.id ≠ id) : dropL L id = L := by
  unfold dropL
  rw [List.filter_eq_self]
  intro o ho
  simp [h o ho]
theorem pk_found {L : PL} {id : Int} {o : PkO} (hn : (L.map PkO.id).Nodup) (h : pkFind L id = some o) :
    ∃ t : Nat, atI L id = t ∧ t < L.length ∧ pnth L t = o ∧ (∀ f, pkMap L id f = L.set t (f o)) ∧ dropL L id = L.take t ++ L.drop (t + 1) := by
  induction L with
  | nil => cases h
  | cons x r ih =>
    rw [List.map_cons, List.nodup_cons] at hn
    rw [at_cons]
    unfold pkFind at h
    rw [List.find?_cons] at h
    by_cases hx : x.id = id
    · simp only [hx, decide_true] at h
      have hxo : x = o := Option.some.inj h
      subst hxo
      have hr : ∀ o ∈ r, o.id ≠ id := fun o ho e => hn.1 (by rw [hx, ← e]; exact List.mem_map_of_mem (f := PkO.id) ho)
      refine ⟨0, by rw [if_pos hx]; rfl, by simp, rfl, fun f => ?_, ?_⟩
      · show (if x.id = id then f x else x) :: pkMap r id f = _
        rw [if_pos hx, pk_map_none r id f hr]
        rfl
      · have e := drop_none r id hr
        unfold dropL at e ⊢
        rw [List.filter_cons]
        simp [hx, e]
    · simp only [hx, decide_false] at h
      obtain ⟨t, h1, h2, h3, h4, h5⟩ := ih hn.2 h
      refine ⟨t + 1, by rw [if_neg hx, h1, if_neg (by omega)]; rfl, by simpa using h2, h3, fun f => ?_, ?_⟩
      · show (if x.id = id then f x else x) :: pkMap r id f = _
        rw [if_neg hx, h4 f]
        rfl
      · unfold dropL at h5 ⊢
        rw [List.filter_cons]
        simp [hx, h5]
theorem pkCells_set2 (L : PL) (t : Nat) (ht : t < L.length) (s : Int) : (pkCells L).set (t * 4 + 2) (.int .i64 s) = pkCells (L.set t ⟨(pnth L t).id, (pnth L t).wt, s, (pnth L t).wants⟩) := by
  induction L generalizing t with
  | nil => simp at ht
  | cons o r ih =>
    cases t with
    | zero => rfl
    | succ t =>
      have e : pkCells (o :: r) = pkC o ++ pkCells r := rfl
      have hl : (pkC o).length = 4 := rfl
      rw [e, List.set_append_right _ _ (by omega), hl, show (t + 1) * 4 + 2 - 4 = t * 4 + 2 by omega, ih t (by simpa using ht)]
      rfl
theorem pkCells_set3 (L : PL) (t : Nat) (ht : t < L.length) (b : Bool) : (pkCells L).set (t * 4 + 3) (.bool b) = pkCells (L.set t ⟨(pnth L t).id, (pnth L t).wt, (pnth L t).sc, b⟩) := by
  induction L generalizing t with
  | nil => simp at ht
  | cons o r ih =>
    cases t with
    | zero => rfl
    | succ t =>
      have e : pkCells (o :: r) = pkC o ++ pkCells r := rfl
      have hl : (pkC o).length = 4 := rfl
      rw [e, List.set_append_right _ _ (by omega), hl, show (t + 1) * 4 + 3 - 4 = t * 4 + 3 by omega, ih t (by simpa using ht)]
      rfl
theorem RpP.score {w : World} {rb g cap : Nat} {a : Option Addr} {L : PL} (h : RpP w rb (.slice a L.length cap) L) (ha : a = some ⟨g, 0, none⟩) (t : Nat) (ht : t < L.length) (s : Int) :
    RpP (w.setCell ⟨g, t * 4 + 2, none⟩ (.int .i64 s)) rb (.slice a L.length cap) (L.set t ⟨(pnth L t).id, (pnth L t).wt, s, (pnth L t).wants⟩) ∧ Tn (Hers rb (.slice a L.length cap)) w (w.setCell ⟨g, t * 4 + 2, none⟩ (.int .i64 s)) := by
  subst ha
  have hg := h.row.lt g rfl
  have hT : Tn (fun k => k = g) w (w.setCell ⟨g, t * 4 + 2, none⟩ (.int .i64 s)) := tn_set rfl
  have e0 := hT.block rb (blk_of_cell h.c0) (by omega)
  have hst := (h.row.stored (t * 4 + 2) (.int .i64 s)).1
  rw [pkCells_set2 L t ht s] at hst
  refine ⟨⟨(World.cell?_of_block (a := ⟨rb, 0, none⟩) e0).trans h.c0, (World.frozen?_of_block (a := ⟨rb, 0, none⟩) e0).trans h.f0, ?_⟩, ?_⟩
  · rw [List.length_set]; exact hst
  · exact tn_set (Or.inr rfl)
theorem RpP.want {w : World} {rb g cap : Nat} {a : Option Addr} {L : PL} (h : RpP w rb (.slice a L.length cap) L) (ha : a = some ⟨g, 0, none⟩) (t : Nat) (ht : t < L.length) (b : Bool) :
    RpP (w.setCell ⟨g, t * 4 + 3, none⟩ (.bool b)) rb (.slice a L.length cap) (L.set t ⟨(pnth L t).id, (pnth L t).wt, (pnth L t).sc, b⟩) ∧ Tn (Hers rb (.slice a L.length cap)) w (w.setCell ⟨g, t * 4 + 3, none⟩ (.bool b)) := by
  subst ha
  have hg := h.row.lt g rfl
  have hT : Tn (fun k => k = g) w (w.setCell ⟨g, t * 4 + 3, none⟩ (.bool b)) := tn_set rfl
  have e0 := hT.block rb (blk_of_cell h.c0) (by omega)
  have hst := (h.row.stored (t * 4 + 3) (.bool b)).1
  rw [pkCells_set3 L t ht b] at hst
  refine ⟨⟨(World.cell?_of_block (a := ⟨rb, 0, none⟩) e0).trans h.c0, (World.frozen?_of_block (a := ⟨rb, 0, none⟩) e0).trans h.f0, ?_⟩, ?_⟩
  · rw [List.length_set]; exact hst
  · exact tn_set (Or.inr rfl)
theorem Tn.mono {S S' : Nat → Prop} {w w' : World} (h : Tn S w w') (hs : ∀ k, S k → S' k) : Tn S' w w' := ⟨h.os, h.tape, h.output, h.size, fun k hk hn => h.block k hk (fun e => hn (hs k e))⟩
theorem Tn.trans {S : Nat → Prop} {a b c : World} (h : Tn S a b) (k : Tn S b c) : Tn S a c := ⟨k.os.trans h.os, k.tape.trans h.tape, k.output.trans h.output, Nat.le_trans h.size k.size, fun i hi hn => (k.block i (Nat.lt_of_lt_of_le hi h.size) hn).trans (h.block i hi hn)⟩
theorem Tn.of_grown {S : Nat → Prop} {w w' : World} {r : Option Nat} (h : w.grownBy w' r) (hs : ∀ k, r = some k → S k) : Tn S w w' := ⟨h.os, h.tape, h.output, h.size, fun k hk hn => h.block k hk (fun e => hn (hs k e.symm))⟩
/-- What a call of the document's picker leaves. -/
def RpOut (rb : Nat) (v : Value) (w w' : World) (L : PL) : Prop := ∃ v', RpP w' rb v' L ∧ Tn (Hers rb v) w w' ∧ ∀ k, Hers rb v' k → Hers rb v k ∨ w.heap.size ≤ k
theorem RpOut.same {rb : Nat} {v : Value} {w w' : World} {L : PL} (h : RpP w' rb v L) (ht : Tn (Hers rb v) w w') : RpOut rb v w w' L := ⟨v, h, ht, fun _ hk => Or.inl hk⟩
end Go.Proofs.YtbhjgpbdfcppkaeDoor
