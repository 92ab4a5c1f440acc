/-
  A PICKER as the document's answer keeps it: what it is in memory; At and Least. No claim by itself.
-/
import Derived.Test.YtbhjgpbdfcppkaeDoorPspec
import Derived.Laws.OwnMore
import Derived.Deep.DeepCutAuto
import Derived.Deep.CutBlock
namespace Go.Proofs.YtbhjgpbdfcppkaeDoor
open Go.RowKit
set_option maxRecDepth 100000
def pkC (o : PkO) : List Value := [.int .i64 o.id, .int .i64 o.wt, .int .i64 o.sc, .bool o.wants]
def pkCells (L : PL) : List Value := L.flatMap pkC
theorem pkCells_len (L : PL) : (pkCells L).length = L.length * 4 := by
  induction L with
  | nil => rfl
  | cons o r ih => unfold pkCells at *; rw [List.flatMap_cons, List.length_append, ih, List.length_cons]; simp [pkC]; omega
theorem pkCells_at (L : PL) (t q : Nat) (ht : t < L.length) (hq : q < 4) : (pkCells L)[t * 4 + q]? = (pkC (L[t]'ht))[q]? := by
  induction L generalizing t with
  | nil => simp at ht
  | cons o r ih =>
    have e : pkCells (o :: r) = pkC o ++ pkCells r := rfl
    have hl : (pkC o).length = 4 := rfl
    rw [e]
    cases t with
    | zero => rw [Nat.zero_mul, Nat.zero_add, List.getElem?_append_left (by omega)]; rfl
    | succ t =>
      rw [List.getElem?_append_right (by omega), hl, show (t + 1) * 4 + q - 4 = t * 4 + q by omega, ih t (by simpa using ht)]
      rfl
theorem pkCells_append (A B : PL) : pkCells (A ++ B) = pkCells A ++ pkCells B := by unfold pkCells; rw [List.flatMap_append]
structure RpP (w : World) (rb : Nat) (v : Value) (L : PL) : Prop where
  c0 : w.cell? ⟨rb, 0, none⟩ = some v
  f0 : w.frozen? ⟨rb, 0, none⟩ = false
  row : w.ownsRow (rb + 1) 44 4 v L.length (pkCells L)
def pO : PkO := ⟨0, 0, 0, false⟩
def pnth (L : PL) (k : Nat) : PkO := L.getD k pO
theorem pnth_at {L : PL} {k : Nat} (h : k < L.length) : L[k]'h = pnth L k := by simp [pnth, List.getD, List.getElem?_eq_getElem h]
theorem pdrop_nth (L : PL) (k : Nat) (h : k < L.length) : L.drop k = pnth L k :: L.drop (k + 1) := by
  rw [List.drop_eq_getElem_cons h, pnth_at h]
theorem ptake_nth (L : PL) (k : Nat) (h : k < L.length) : L.take (k + 1) = L.take k ++ [pnth L k] := by
  rw [← pnth_at h, List.take_succ_eq_append_getElem h]
theorem rowp_kept {w w' : World} {base n : Nat} {v : Value} {xs : List Value} (h : w.ownsRow base 44 4 v n xs) (hk : ∀ k, v.ownBlock = some k → w'.heap[k]? = w.heap[k]?) : w'.ownsRow base 44 4 v n xs := by
  obtain ⟨h1, h2 | ⟨g, cap, cur, hv, hg, hc, r⟩⟩ := h
  · exact ⟨h1, Or.inl h2⟩
  · exact ⟨h1, Or.inr ⟨g, cap, cur, hv, hg, (hk g (by rw [hv]; rfl)).trans hc, r⟩⟩
/-- The blocks of the document's picker. -/
def Hers (rb : Nat) (v : Value) (k : Nat) : Prop := k = rb ∨ v.ownBlock = some k
theorem RpP.lt {w : World} {rb : Nat} {v : Value} {L : PL} (h : RpP w rb v L) : ∀ k, Hers rb v k → rb ≤ k ∧ k < w.heap.size := by
  rintro k (rfl | hk)
  · exact ⟨Nat.le_refl _, blk_of_cell h.c0⟩
  · have := h.row.lt k hk
    omega
theorem RpP.kept {w w' : World} {rb : Nat} {v : Value} {L : PL} (h : RpP w rb v L) (e : ∀ k, Hers rb v k → w'.heap[k]? = w.heap[k]?) : RpP w' rb v L :=
  ⟨(World.cell?_of_block (a := ⟨rb, 0, none⟩) (e rb (Or.inl rfl))).trans h.c0, (World.frozen?_of_block (a := ⟨rb, 0, none⟩) (e rb (Or.inl rfl))).trans h.f0, rowp_kept h.row (fun k hk => e k (Or.inr hk))⟩
theorem RpP.below {w w' : World} {rb : Nat} {v : Value} {L : PL} (h : RpP w rb v L) (hb : Below w.heap.size w w') : RpP w' rb v L := h.kept (fun k hk => hb.block k (h.lt k hk).2)
/-- What a row that is owned looks like. -/
theorem pown_shape {w : World} {base n : Nat} {v : Value} {L : PL} (hn : L.length = n) (h : w.ownsRow base 44 4 v n (pkCells L)) :
    ∃ a c, v = .slice a n c ∧ n ≤ c ∧ c ≤ maxLen ∧ ∀ t, t < n → ∃ g, a = some ⟨g, 0, none⟩ ∧ base ≤ g ∧ w.cell? ⟨g, t * 4, none⟩ = some (.int .i64 (pnth L t).id) ∧ w.cell? ⟨g, t * 4 + 1, none⟩ = some (.int .i64 (pnth L t).wt) ∧ w.cell? ⟨g, t * 4 + 2, none⟩ = some (.int .i64 (pnth L t).sc) ∧ w.cell? ⟨g, t * 4 + 3, none⟩ = some (.bool (pnth L t).wants) ∧ w.frozen? ⟨g, t * 4 + 2, none⟩ = false ∧ w.frozen? ⟨g, t * 4 + 3, none⟩ = false := by
  have h0 := h
  obtain ⟨h1, ⟨hv, h2⟩ | ⟨g, cap, cur, hv, hg, hc, h3, h4, r⟩⟩ := h
  · exact ⟨none, 0, by rw [hv, h2], by omega, by decide, fun t ht => by omega⟩
  · refine ⟨_, cap, hv, h3, h4, fun t ht => ⟨g, rfl, hg, ?_⟩⟩
    rw [hv] at h0
    have hx : ∀ q, q < 4 → w.cell? ⟨g, t * 4 + q, none⟩ = (pkC (pnth L t))[q]? := fun q hq => by
      rw [h0.cellAt (t * 4 + q) (by omega), pkCells_at L t q (by omega) hq, pnth_at]
    refine ⟨?_, ?_, ?_, ?_, h0.frozenAt _, h0.frozenAt _⟩
    · exact hx 0 (by omega)
    · exact hx 1 (by omega)
    · exact hx 2 (by omega)
    · exact hx 3 (by omega)
/-- The index of an id; the list's length: none. -/
def atN (L : PL) (id : Int) : Nat := L.findIdx (fun o => decide (o.id = id))
def atI (L : PL) (id : Int) : Int := if (pkFind L id).isSome then (atN L id : Int) else -1
theorem at_cons (o : PkO) (r : PL) (id : Int) : atI (o :: r) id = if o.id = id then 0 else if atI r id = -1 then -1 else atI r id + 1 := by
  unfold atI pkFind atN
  rw [List.find?_cons, List.findIdx_cons]
  by_cases h : o.id = id
  · simp [h]
  · simp only [h, decide_false, if_false]
    by_cases k : (List.find? (fun o => decide (o.id = id)) r).isSome
    · rw [if_pos k, if_pos k]
      simp only [cond_false]
      rw [if_neg (by omega)]
      omega
    · rw [if_neg k, if_neg k, if_pos rfl]
theorem atI_ge (L : PL) (id : Int) : -1 ≤ atI L id := by unfold atI; split <;> omega
set_option maxHeartbeats 1000000 in
theorem rpat_any {w : World} {rb : Nat} {v : Value} {L : PL} (h : RpP w rb v L) (hL : L.length ≤ 1000) (id : Int) :
    Calls Tryd.prog 18 #[kptr rb, .int .i64 id] w fun e w' => e = .returned (.int .i64 (atI L id)) ∧ w = w' := by
  obtain ⟨a, c, rfl, hc1, hc2, hcell⟩ := pown_shape rfl h.row
  have c0 := h.c0
  have HC := vl hcell
  clear h hcell
  unfold kptr
  go_enter Tryd.func18, Tryd.ntmps18
  go_wp2
  go_loopw [5] (fun i wr => ∃ k : Nat, i = .int .i64 k ∧ k ≤ L.length ∧ Vl (atI L id = if atI (L.drop k) id = -1 then -1 else atI (L.drop k) id + k) ∧ w = wr) (fun i _ => L.length - (intOf i).toNat)
  case atStart => exact ⟨0, rfl, by omega, by show _ = _; simp, rfl⟩
  case round =>
    obtain ⟨k, rfl, hk, HR, rfl⟩ := hrel
    by_cases hlt : k < L.length
    · have p1 : (k : Int) < (L.length : Int) := by omega
      obtain ⟨g, rfl, _, hcl, _⟩ := HC.out k hlt
      have HN := vl (pdrop_nth L k hlt)
      generalize pnth L k = p at *
      by_cases e : p.id = id
      · have HF := vl e
        obtain ⟨pi, pw, ps, pt⟩ := p
        dsimp only at hcl e
        subst e
        go_wp2
        go_ret
        refine ⟨?_, rfl⟩
        rw [HR.out, HN.out, at_cons, if_pos rfl]
        simp
      · obtain ⟨pi, pw, ps, pt⟩ := p
        dsimp only at hcl e
        go_wp2
        go_roundw
        case rel =>
          refine ⟨k + 1, by go_num, by omega, ?_, trivial⟩
          show _ = _
          rw [HR.out, HN.out, at_cons, if_neg e]
          have hge := atI_ge (L.drop (k + 1)) id
          by_cases hx : atI (L.drop (k + 1)) id = -1
          · rw [hx]; rfl
          · rw [if_neg hx, if_neg hx, if_neg (by omega)]
            omega
        case measure => simp [intOf]; omega
    · have p1 : ¬ ((k : Int) < (L.length : Int)) := by omega
      have hkl : k = L.length := by omega
      go_wp2
      go_ret
      refine ⟨?_, rfl⟩
      rw [HR.out, hkl, List.drop_length]
      rfl
end Go.Proofs.YtbhjgpbdfcppkaeDoor
