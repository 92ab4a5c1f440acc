/-
  A PICKER as the document's answer keeps it: Drop. No claim by itself.
-/
import Derived.Test.YtbhjgpbdfcppkaeDoorPref6
namespace Go.Proofs.YtbhjgpbdfcppkaeDoor
open Go.RowKit
set_option maxRecDepth 100000
/-- A row that was made anew is the picker's. -/
theorem RpP.anew {w w1 : World} {rb : Nat} {v v' : Value} {L L' : PL} (h : RpP w rb v L) (hb : Below w.heap.size w w1) (hown : w1.ownsRow (rb + 1) 44 4 v' L'.length (pkCells L')) (hloc : ∀ k, v'.ownBlock = some k → w.heap.size ≤ k) :
    RpOut rb v w (w1.setCell ⟨rb, 0, none⟩ v') L' := by
  have hrb := blk_of_cell h.c0
  have e0 : w1.heap[rb]? = w.heap[rb]? := hb.block rb hrb
  have hT : Tn (fun k => k = rb) w1 (w1.setCell ⟨rb, 0, none⟩ v') := tn_set rfl
  have d0 : w1.cell? ⟨rb, 0, none⟩ = some v := (World.cell?_of_block (a := ⟨rb, 0, none⟩) e0).trans h.c0
  refine ⟨v', ⟨?_, ?_, rowp_kept hown (fun k hk => hT.block k (hown.lt k hk).2 (by have := (hown.lt k hk).1; omega))⟩, (Tn.of_below hb).trans (hT.mono (fun k e => Or.inl e)), fun k hk => ?_⟩
  · exact World.cell?_setCell_same _ _ _ d0
  · rw [World.frozen?_setCell, World.frozen?_of_block (a := ⟨rb, 0, none⟩) e0]; exact h.f0
  · rcases hk with hk | hk
    · exact Or.inl (Or.inl hk)
    · exact Or.inr (hloc k hk)
theorem below_grown {B : Nat} {w0 w w' : World} {r : Option Nat} (h : Below B w0 w) (hg : w.grownBy w' r) (hB : B ≤ w.heap.size) (hr : ∀ k, r = some k → B ≤ k) : Below B w0 w' :=
  ⟨hg.os.trans h.os, hg.tape.trans h.tape, hg.output.trans h.output, Nat.le_trans h.size hg.size, fun k hk => (hg.block k (by omega) (fun e => by have := hr k e.symm; omega)).trans (h.block k hk)⟩
theorem padd_at (g off q : Nat) : (⟨g, off, none⟩ : Addr).add q = ⟨g, off + q, none⟩ := by unfold Addr.add; split <;> simp_all
theorem pkCells_take (L : PL) (t : Nat) : pkCells (L.take t) = (pkCells L).take (t * 4) := by
  induction L generalizing t with
  | nil => simp [pkCells]
  | cons o r ih =>
    cases t with
    | zero => simp [pkCells]
    | succ t =>
      have e : pkCells (o :: r) = pkC o ++ pkCells r := rfl
      have hl : (pkC o).length = 4 := rfl
      rw [e, List.take_append, hl, show (t + 1) * 4 - 4 = t * 4 by omega, ← ih t, show (pkC o).take ((t + 1) * 4) = pkC o from List.take_of_length_le (by omega)]
      rfl
theorem pkCells_drop (L : PL) (t : Nat) : pkCells (L.drop t) = (pkCells L).drop (t * 4) := by
  induction L generalizing t with
  | nil => simp [pkCells]
  | cons o r ih =>
    cases t with
    | zero => simp
    | succ t =>
      have e : pkCells (o :: r) = pkC o ++ pkCells r := rfl
      have hl : (pkC o).length = 4 := rfl
      rw [e, List.drop_append, hl, show (t + 1) * 4 - 4 = t * 4 by omega, ← ih t, show (pkC o).drop ((t + 1) * 4) = [] from List.drop_of_length_le (by omega)]
      rfl
set_option maxHeartbeats 4000000 in
theorem rpdrop_any {w : World} {rb : Nat} {v : Value} {L : PL} (h : RpP w rb v L) (hI : PkI L) (id : Int) :
    Calls Tryd.prog 9 #[kptr rb, .int .i64 id] w fun e w' => e = .returned (.int .i64 (dropF L id).1) ∧ RpOut rb v w w' (dropF L id).2 := by
  have HP := vl h
  have HS := vl (RpOut.same h (Tn.refl _ w))
  have hl := hI.len
  have hLL : L.length ≤ 1000 := by omega
  have HA := vl (rpat_any h hLL id)
  have c0 := h.c0
  have f0 := h.f0
  obtain ⟨a, c, rfl, hc1, hc2, hcell⟩ := pown_shape rfl h.row
  unfold dropF
  match hf : pkFind L id with
  | none =>
    have h1 : atI L id = -1 := by unfold atI; rw [hf]; rfl
    rw [h1] at HA
    simp only [Option.isSome_none, Bool.false_eq_true, if_false]
    unfold kptr at HA ⊢
    clear hI h hcell h1 hf
    go_enter Tryd.func9, Tryd.ntmps9
    go_wp2_with fail
    refine HA.out.mono ?_
    rintro e w' ⟨rfl, rfl⟩
    go_wp2
    go_ret
    exact ⟨rfl, HS.out⟩
  | some o =>
  obtain ⟨t, h1, h2, _, _, h5⟩ := pk_found hI.nodup hf
  rw [h1] at HA
  simp only [Option.isSome_some, if_true]
  unfold kptr at HA ⊢
  have hge : ¬ ((t : Int) < 0) := by omega
  have hge' : (0 : Int) ≤ (t : Int) := by omega
  have hlt : (t : Int) < (L.length : Int) := by omega
  obtain ⟨g, rfl, _, _⟩ := hcell t h2
  have HROW : Vl (∀ wx : World, wx.heap[g]? = w.heap[g]? → ∀ j, j < L.length * 4 → wx.cell? ⟨g, j, none⟩ = (pkCells L)[j]?) := fun wx he j hj => by
    have := h.row.cellAt j hj
    rw [← this]
    exact World.cell?_of_block (a := ⟨g, j, none⟩) he
  rw [h5]
  obtain ⟨i0, hi0, hz0, hz1, hz2⟩ := info_parts infoOne
  have HZ := vl (And.intro hi0 (And.intro hz0 (And.intro hz1 hz2)))
  have hrb := blk_of_cell c0
  have hgl : g < w.heap.size := (h.row.lt g rfl).2
  have hc3 : L.length ≤ c := hc1
  have t1 : t ≤ c := by omega
  have t2 : t + 1 ≤ c := by omega
  clear hI h hcell h1 hf h5 HS hi0 hz0 hz1 hz2
  go_enter Tryd.func9, Tryd.ntmps9
  go_wp2_with fail
  refine HA.out.mono ?_
  rintro e w' ⟨rfl, rfl⟩
  clear HA
  go_wp2_with (at_builtin; refine wpList_append_own_at _ rfl _ _ 26 rfl (rb + 1) 44 i0 (.agg #[.int .i64 0, .int .i64 0, .int .i64 0, .bool false]) 4 32 Tryd.underlying26 HZ.out.1 HZ.out.2.1 HZ.out.2.2.1 HZ.out.2.2.2 rfl (by decide) _ _ _ rfl (World.ownsRow_nil _ _ _ _) ⟨g, 0, none⟩ t c (pkCells (L.take t)) rfl ?c1 ?c2 (pone_four _) ?c3 ?c4 ?c5 ?_)
  case c1 => rw [pkCells_len, List.length_take]; omega
  case c2 =>
    intro j u hj
    rw [padd_at, Nat.zero_add]
    rw [pkCells_take, List.getElem?_take] at hj
    split at hj
    · rw [HROW.out w rfl j (by omega)]; exact hj
    · cases hj
  case c3 => unfold maxLen; omega
  case c4 => omega
  case c5 => omega
  intro v1 w1 hown1 hgrow1 _ hloc1
  have hb1 : Below w.heap.size w w1 := below_grown (Below.refl _ w) hgrow1 (Nat.le_refl _) (fun k e => by cases e)
  have hl1 : ∀ k, v1.ownBlock = some k → w.heap.size ≤ k := fun k hk => by
    rcases hloc1 with e | e
    · rw [e] at hk; cases hk
    · rw [e] at hk; simp at hk; omega
  have hk1 : v1.ownBlock = none ∨ v1.ownBlock = some w.heap.size := hloc1
  have hown1' : w1.ownsRow (rb + 1) 44 4 v1 t (pkCells (L.take t)) := hown1
  have HO1 := vl hown1'
  have HB1 := vl hb1
  have HL1 := vl hl1
  have egl : w1.heap[g]? = w.heap[g]? := hb1.block g hgl
  have erb : w1.heap[rb]? = w.heap[rb]? := hb1.block rb hrb
  have HROW1 := vl (HROW.out w1 egl)
  have d0 : w1.cell? ⟨rb, 0, none⟩ = some (.slice (some ⟨g, 0, none⟩) L.length c) := (World.cell?_of_block (a := ⟨rb, 0, none⟩) erb).trans c0
  have f1 : w1.frozen? ⟨rb, 0, none⟩ = false := (World.frozen?_of_block (a := ⟨rb, 0, none⟩) erb).trans f0
  have hs1 : w.heap.size ≤ w1.heap.size := hb1.size
  obtain ⟨o2, ho2⟩ : ∃ o2, (if c = t + 1 then some (⟨g, 0, none⟩ : Addr) else some ⟨g, (t + 1) * 4, none⟩) = some ⟨g, o2, none⟩ := by
    by_cases e : c = t + 1
    · exact ⟨0, by rw [if_pos e]⟩
    · exact ⟨_, by rw [if_neg e]⟩
  have HO2 : Vl (t + 1 = L.length ∨ o2 = (t + 1) * 4) := by
    by_cases e : c = t + 1
    · exact Or.inl (by omega)
    · rw [if_neg e] at ho2
      simp at ho2
      exact Or.inr ho2.symm
  clear hgrow1 hloc1 hb1 hl1 hk1 hown1 hown1' egl erb HROW c0 f0
  go_wp2_with (at_builtin; refine wpList_append_own_at _ rfl _ _ 26 rfl (rb + 1) 44 i0 (.agg #[.int .i64 0, .int .i64 0, .int .i64 0, .bool false]) 4 32 Tryd.underlying26 HZ.out.1 HZ.out.2.1 HZ.out.2.2.1 HZ.out.2.2.2 rfl (by decide) _ _ _ rfl HO1.out ⟨g, o2, none⟩ (L.length - (t + 1)) (c - (t + 1)) (pkCells (L.drop (t + 1))) rfl ?c1 ?c2 (pone_four _) ?c3 ?c4 ?c5 ?_)
  case c1 => rw [pkCells_len, List.length_drop]
  case c2 =>
    intro j u hj
    rw [padd_at]
    have hjl : j < (L.length - (t + 1)) * 4 := by
      have h1 := (List.getElem?_eq_some_iff.1 hj).1
      rw [pkCells_len, List.length_drop] at h1
      exact h1
    rcases HO2.out with e | e
    · omega
    · rw [pkCells_drop, List.getElem?_drop] at hj
      rw [e, HROW1.out ((t + 1) * 4 + j) (by omega)]
      exact hj
  case c3 => unfold maxLen; omega
  case c4 => omega
  case c5 => omega
  intro v2 w2 hown2 hgrow2 _ hloc2
  have hb2 : Below w.heap.size w w2 := below_grown HB1.out hgrow2 hs1 HL1.out
  have hl2 : ∀ k, v2.ownBlock = some k → w.heap.size ≤ k := fun k hk => by
    rcases hloc2 with e | e
    · exact HL1.out k (e ▸ hk)
    · rw [e] at hk; simp at hk; omega
  have hown2' : w2.ownsRow (rb + 1) 44 4 v2 (L.take t ++ L.drop (t + 1)).length (pkCells (L.take t ++ L.drop (t + 1))) := by
    rw [pkCells_append, List.length_append, List.length_take, List.length_drop, Nat.min_eq_left (by omega)]
    exact hown2
  have OUT := vl (HP.out.anew hb2 hown2' hl2)
  have erb2 : w2.heap[rb]? = w1.heap[rb]? := (hb2.block rb hrb).trans (HB1.out.block rb hrb).symm
  have d2 : w2.cell? ⟨rb, 0, none⟩ = some (.slice (some ⟨g, 0, none⟩) L.length c) := (World.cell?_of_block (a := ⟨rb, 0, none⟩) erb2).trans d0
  have f2 : w2.frozen? ⟨rb, 0, none⟩ = false := (World.frozen?_of_block (a := ⟨rb, 0, none⟩) erb2).trans f1
  have hform : ∃ a2 n2 c2, v2 = .slice a2 n2 c2 := by
    obtain ⟨_, ⟨e, _⟩ | ⟨g2, c2, _, e, _⟩⟩ := hown2
    · exact ⟨_, _, _, e⟩
    · exact ⟨_, _, _, e⟩
  obtain ⟨a2, n2, c2, rfl⟩ := hform
  clear hgrow2 hloc2 hb2 hl2 hown2 hown2' erb2 d0 f1 HO1 HROW1
  go_wp2
  go_ret
  exact ⟨rfl, OUT.out⟩
end Go.Proofs.YtbhjgpbdfcppkaeDoor
