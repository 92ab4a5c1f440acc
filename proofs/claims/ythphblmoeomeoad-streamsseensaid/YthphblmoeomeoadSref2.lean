/-
  STREAMS THAT WERE SEEN, as the document's answer keeps them: Put and Open. No claim by itself.
-/
import Derived.Test.YthphblmoeomeoadSref
import Derived.Deep.DeepCutAuto
import Derived.Deep.CutBlock
namespace Go.Proofs.Ythphblmoeomeoad
open Go.RowKit
set_option maxRecDepth 100000
theorem putL_cons (p : Int × Int) (r : SL) (id s : Int) : putL (p :: r) id s = if p.1 = id then (id, s) :: r else p :: putL r id s := rfl
theorem info3 : (Try.prog.info? 3).map (fun i => (i.zero, i.size, i.bytes)) = some (some (.int .i64 0), 1, 8) := by kernel_rfl
/-- The blocks of the document's streams. -/
def Hers (rb : Nat) (vI vS : Value) (k : Nat) : Prop := k = rb ∨ vI.ownBlock = some k ∨ vS.ownBlock = some k
theorem RsP.setLast {w : World} {rb : Nat} {vI vS : Value} {L : SL} {last : Int} (h : RsP w rb vI vS L last) (id : Int) : RsP (w.setCell ⟨rb, 2, none⟩ (.int .i64 id)) rb vI vS L id := by
  have hT : Tn (fun k => k = rb) w (w.setCell ⟨rb, 2, none⟩ (.int .i64 id)) := tn_set rfl
  refine ⟨?_, ?_, World.cell?_setCell_same _ _ _ h.c2, ?_, ?_, ?_, row_kept h.oI (fun k hk => ?_), row_kept h.oS (fun k hk => ?_), h.ne⟩
  · rw [World.cell?_setCell_other _ _ _ _ (by simp)]; exact h.c0
  · rw [World.cell?_setCell_other _ _ _ _ (by simp)]; exact h.c1
  · rw [World.frozen?_setCell]; exact h.f0
  · rw [World.frozen?_setCell]; exact h.f1
  · rw [World.frozen?_setCell]; exact h.f2
  · have := h.oI.lt k hk
    exact hT.block k this.2 (by omega)
  · have := h.oS.lt k hk
    exact hT.block k this.2 (by omega)
/-- The k-th state is put anew. -/
theorem RsP.putAt {w : World} {rb g cap : Nat} {vI : Value} {L : SL} {last : Int} {a : Option Addr} (h : RsP w rb vI (.slice a L.length cap) L last) (ha : a = some ⟨g, 0, none⟩) (k : Nat) (hk : k < L.length) (s : Int) :
    RsP (w.setCell ⟨g, k, none⟩ (.int .i64 s)) rb vI (.slice a L.length cap) (L.take k ++ ((nth L k).1, s) :: L.drop (k + 1)) last ∧ Tn (Hers rb vI (.slice a L.length cap)) w (w.setCell ⟨g, k, none⟩ (.int .i64 s)) := by
  subst ha
  have hg := h.oS.lt g rfl
  have hT : Tn (fun k => k = g) w (w.setCell ⟨g, k, none⟩ (.int .i64 s)) := tn_set rfl
  have e0 := hT.block rb (blk_of_cell h.c0) (by omega)
  have hst := (h.oS.stored k (.int .i64 s)).1
  have hlen : (L.take k ++ ((nth L k).1, s) :: L.drop (k + 1)).length = L.length := by simp; omega
  have hn : L[k]? = some (nth L k) := by simp [nth, List.getD, List.getElem?_eq_getElem hk]
  have e1 : (L.take k ++ ((nth L k).1, s) :: L.drop (k + 1)).map (fun p => Value.int .i64 p.1) = L.map (fun p => Value.int .i64 p.1) := by
    conv => rhs; rw [← List.take_append_drop k L, drop_nth L k hk]
    simp
  have e2 : (L.take k ++ ((nth L k).1, s) :: L.drop (k + 1)).map (fun p => Value.int .i64 p.2) = (L.map (fun p => Value.int .i64 p.2)).set k (.int .i64 s) := by
    rw [List.set_eq_take_append_cons_drop, if_pos (by simpa using hk)]
    simp
  refine ⟨⟨(World.cell?_of_block (a := ⟨rb, 0, none⟩) e0).trans h.c0, (World.cell?_of_block (a := ⟨rb, 1, none⟩) e0).trans h.c1, (World.cell?_of_block (a := ⟨rb, 2, none⟩) e0).trans h.c2,
    (World.frozen?_of_block (a := ⟨rb, 0, none⟩) e0).trans h.f0, (World.frozen?_of_block (a := ⟨rb, 1, none⟩) e0).trans h.f1, (World.frozen?_of_block (a := ⟨rb, 2, none⟩) e0).trans h.f2, ?_, ?_, h.ne⟩, ?_⟩
  · rw [hlen, e1]
    exact row_kept h.oI (fun i hi => hT.block i (h.oI.lt i hi).2 (fun e => h.ne i hi (by rw [e]; rfl)))
  · rw [hlen, e2]
    exact hst
  · exact hT.mono (fun i hi => Or.inr (Or.inr (by rw [hi]; rfl)))
set_option maxHeartbeats 2000000 in
theorem rsput_no {w : World} {rb : Nat} {vI vS : Value} {L : SL} {last : Int} (h : RsP w rb vI vS L last) (id s : Int) (hc : id < 1 ∨ id.tmod 2 ≠ 1 ∨ last < id ∨ s < 1 ∨ 4 < s) :
    Calls Try.prog 14 #[sptr rb, .int .i64 id, .int .i64 s] w fun e w' => (∃ v, e = .returned v) ∧ w = w' := by
  have c2 := h.c2
  clear h
  unfold sptr
  by_cases h1 : id < 1
  · clear hc
    go_enter Try.func14, Try.ntmps14
    go_wp2
    refine bodyPost_ret (results_none rfl _ _ _) rfl ?_
    exact ⟨⟨_, rfl⟩, rfl⟩
  have h1' : 1 ≤ id := by omega
  rw [tmodp h1'] at hc
  obtain ⟨o, ho⟩ : ∃ o, (id % 2 != 1) = o := ⟨_, rfl⟩
  cases o with
  | true =>
    clear hc
    go_enter Try.func14, Try.ntmps14
    go_wp2
    refine bodyPost_ret (results_none rfl _ _ _) rfl ?_
    exact ⟨⟨_, rfl⟩, rfl⟩
  | false =>
  have ho' : id % 2 = 1 := by simpa using ho
  have H : last < id ∨ (¬ (last < id) ∧ s < 1) ∨ (¬ (last < id) ∧ ¬ (s < 1) ∧ 4 < s) := by omega
  clear hc ho'
  rcases H with q1 | ⟨q1, q2⟩ | ⟨q1, q2, q3⟩
  all_goals
    go_enter Try.func14, Try.ntmps14
    go_wp2
    refine bodyPost_ret (results_none rfl _ _ _) rfl ?_
    exact ⟨⟨_, rfl⟩, rfl⟩
set_option maxHeartbeats 4000000 in
theorem rsput_yes {w : World} {rb : Nat} {vI vS : Value} {L : SL} {last : Int} (h : RsP w rb vI vS L last) (hL : L.length ≤ 1000) (id s : Int) (h1 : 1 ≤ id) (h2 : id % 2 = 1) (h3 : id ≤ last) (h4 : 1 ≤ s) (h5 : s ≤ 4) :
    Calls Try.prog 14 #[sptr rb, .int .i64 id, .int .i64 s] w fun e w' => (∃ v, e = .returned v) ∧ (∃ vI' vS', RsP w' rb vI' vS' (putL L id s) last) ∧ Tn (Hers rb vI vS) w w' := by
  have HP := vl h
  obtain ⟨a, c, rfl, hc1, hc2, hcell⟩ := own_shape rfl h.oI
  obtain ⟨b, d, rfl, hd1, hd2, hcelb⟩ := own_shape rfl h.oS
  have c0 := h.c0
  have c1 := h.c1
  have c2 := h.c2
  have HC := vl hcell
  have HD := vl hcelb
  clear h hcell hcelb
  unfold sptr
  have ho : (id % 2 != 1) = false := by simp [h2]
  have q1 : ¬ (id < 1) := by omega
  have q2 : ¬ (last < id) := by omega
  have q3 : ¬ (s < 1) := by omega
  have q4 : ¬ (4 < s) := by omega
  obtain ⟨i0, hi, hz0, hz1, hz2⟩ := info_parts info3
  have HZ := vl (show i0.zero = some (.int .i64 0) ∧ i0.size = 1 ∧ i0.bytes = 8 from ⟨hz0, hz1, hz2⟩)
  have HI := vl hi
  clear hz0 hz1 hz2 hi h2
  go_enter Try.func14, Try.ntmps14
  go_wp2
  go_loopw [6] (fun i wr => ∃ k : Nat, i = .int .i64 k ∧ k ≤ L.length ∧ Vl (putL L id s = L.take k ++ putL (L.drop k) id s) ∧ w = wr) (fun i _ => L.length - (intOf i).toNat)
  case atStart => exact ⟨0, rfl, by omega, by show _ = _; simp, rfl⟩
  case round =>
    obtain ⟨k, rfl, hk, HR, rfl⟩ := hrel
    by_cases hlt : k < L.length
    · have p1 : (k : Int) < (L.length : Int) := by omega
      obtain ⟨g, rfl, hcl, _⟩ := HC.out k hlt
      obtain ⟨g', rfl, hcl', hfl'⟩ := HD.out k hlt
      have HN := vl (drop_nth L k hlt)
      have HPA := vl (HP.out.putAt rfl k hlt s)
      have HNK : Vl (L[k]? = some (nth L k)) := by show _ = _; simp [nth, List.getD, List.getElem?_eq_getElem hlt]
      generalize hp : nth L k = p at *
      clear hp
      obtain ⟨pi, ps⟩ := p
      dsimp only at hcl hcl'
      by_cases e : pi = id
      · subst e
        go_wp2
        refine bodyPost_ret (results_none rfl _ _ _) rfl ?_
        refine ⟨⟨_, rfl⟩, ?_, HPA.out.2⟩
        rw [HR.out, HN.out, putL_cons, if_pos rfl]
        exact ⟨_, _, HPA.out.1⟩
      · go_wp2
        go_roundw
        case rel => exact ⟨k + 1, by go_num, by omega, by show _ = _; rw [HR.out, HN.out, putL_cons, if_neg e, List.take_add_one, HNK.out]; simp, trivial⟩
        case measure => simp [intOf]; omega
    · have p1 : ¬ ((k : Int) < (L.length : Int)) := by omega
      have hkl : k = L.length := by omega
      have hpl : putL L id s = L ++ [(id, s)] := by rw [HR.out, hkl, List.take_length, List.drop_length]; rfl
      have HPL := vl hpl
      have hrb : rb < w.heap.size := blk_of_cell c0
      clear hpl HR hkl
      go_upto_region 7 with (at_builtin; refine wpList_append_own_at _ rfl _ _ 38 rfl (rb + 1) 3 i0 (.int .i64 0) 1 8 Try.underlying38 HI.out HZ.out.1 HZ.out.2.1 HZ.out.2.2 rfl (by decide) _ _ _ rfl (HP.out.oI.alloc _) ⟨w.heap.size, 0, none⟩ 1 1 [.int .i64 id] rfl rfl (cell_one_new _ _ _) (ints_oneCell .i64 [id]) ?c3 ?c4 ?c5 ?_)
      case c3 => unfold maxLen; omega
      case c4 => omega
      case c5 => omega
      intro v0 w' hown hgrow _ hloc
      obtain ⟨gv, cv, hv0, _, _⟩ := hown.form (by omega)
      subst hv0
      obtain ⟨v', hvv⟩ : ∃ v', v' = Value.slice (some ⟨gv, 0, none⟩) (L.length + 1) cv := ⟨_, rfl⟩
      rw [← hvv] at hown hloc
      have hall : w.grownBy w' (Value.slice a L.length c).ownBlock := (World.grownBy_alloc w _ _).trans hgrow
      have eb : ∀ k, k < w.heap.size → k ≤ rb → w'.heap[k]? = w.heap[k]? := fun k hk hr => hall.block k hk (fun e => by have := (HP.out.oI.lt k e.symm).1; omega)
      have erb := eb rb hrb (Nat.le_refl _)
      have d0 : w'.cell? ⟨rb, 0, none⟩ = some (.slice a L.length c) := (World.cell?_of_block (a := ⟨rb, 0, none⟩) erb).trans c0
      have g0 : w'.frozen? ⟨rb, 0, none⟩ = false := (World.frozen?_of_block (a := ⟨rb, 0, none⟩) erb).trans HP.out.f0
      have hv' : ∀ k, v'.ownBlock = some k → rb + 1 ≤ k ∧ k < w'.heap.size := hown.lt
      obtain ⟨W2, hW2⟩ : ∃ W2, W2 = w'.setCell ⟨rb, 0, none⟩ v' := ⟨_, rfl⟩
      have HVV := vl hvv
      clear hvv
      have hT2 : Tn (fun k => k = rb) w' W2 := by rw [hW2]; exact tn_set rfl
      have hsz : w.heap.size + 1 ≤ w'.heap.size := by have := hgrow.size; simpa using this
      have hT : Tn (Hers rb (.slice a L.length c) (.slice b L.length d)) w W2 := (Tn.of_grown hall (fun k e => Or.inr (Or.inl e))).trans (hT2.mono (fun k e => Or.inl e))
      have m0 : W2.cell? ⟨rb, 0, none⟩ = some v' := by rw [hW2]; exact World.cell?_setCell_same _ _ _ d0
      have m1 : W2.cell? ⟨rb, 1, none⟩ = some (.slice b L.length d) := by rw [hW2, World.cell?_setCell_other _ _ _ _ (by simp), World.cell?_of_block (a := ⟨rb, 1, none⟩) erb]; exact c1
      have m2 : W2.cell? ⟨rb, 2, none⟩ = some (.int .i64 last) := by rw [hW2, World.cell?_setCell_other _ _ _ _ (by simp), World.cell?_of_block (a := ⟨rb, 2, none⟩) erb]; exact c2
      have n0 : W2.frozen? ⟨rb, 0, none⟩ = false := by rw [hW2, World.frozen?_setCell]; exact g0
      have n1 : W2.frozen? ⟨rb, 1, none⟩ = false := by rw [hW2, World.frozen?_setCell, World.frozen?_of_block (a := ⟨rb, 1, none⟩) erb]; exact HP.out.f1
      have n2 : W2.frozen? ⟨rb, 2, none⟩ = false := by rw [hW2, World.frozen?_setCell, World.frozen?_of_block (a := ⟨rb, 2, none⟩) erb]; exact HP.out.f2
      have oI2 : W2.ownsRow (rb + 1) 3 1 v' (L.length + 1) (L.map (fun p => Value.int .i64 p.1) ++ [.int .i64 id]) := row_kept hown (fun k hk => hT2.block k (hv' k hk).2 (by have := (hv' k hk).1; omega))
      have oS2 : W2.ownsRow (rb + 1) 3 1 (.slice b L.length d) L.length (L.map fun p => Value.int .i64 p.2) := row_kept HP.out.oS (fun k hk => by
        have h1 := HP.out.oS.lt k hk
        rw [hT2.block k (by omega) (by omega)]
        exact hall.block k h1.2 (fun e => HP.out.ne k e.symm hk))
      have ne2 : ∀ k, v'.ownBlock = some k → (Value.slice b L.length d).ownBlock ≠ some k := fun k hk hb => by
        rcases hloc with h | h
        · exact HP.out.ne k (h ▸ hk) hb
        · have h1 := (HP.out.oS.lt k hb).2
          rw [h] at hk
          simp at hk
          omega
      have hs2 : rb < W2.heap.size := blk_of_cell m0
      have HT := vl hT
      have HI2 := vl oI2
      have HS2 := vl oS2
      have HNE := vl ne2
      have HM := vl (And.intro m0 (And.intro m2 (And.intro n0 (And.intro n1 n2))))
      have HW2 := vl hW2
      clear hown hgrow hloc hall eb erb hv' hT2 hsz hT m0 m2 n0 n2 oI2 oS2 ne2 hW2 c0 c1 c2 HC HD
      go_upto_region 7 with fail
      rw [← HVV.out, ← HW2.out]
      clear d0 g0
      go_wp2_with (at_builtin; refine wpList_append_own_at _ rfl _ _ 38 rfl (rb + 1) 3 i0 (.int .i64 0) 1 8 Try.underlying38 HI.out HZ.out.1 HZ.out.2.1 HZ.out.2.2 rfl (by decide) _ _ _ rfl (HS2.out.alloc _) ⟨W2.heap.size, 0, none⟩ 1 1 [.int .i64 s] rfl rfl (cell_one_new _ _ _) (ints_oneCell .i64 [s]) ?c3 ?c4 ?c5 ?_)
      case c3 => unfold maxLen; omega
      case c4 => omega
      case c5 => first | omega | (rw [World.size_alloc]; omega)
      intro v4 w3 hown3 hgrow3 _ hloc3
      obtain ⟨gv3, cv3, hv4, _, _⟩ := hown3.form (by omega)
      subst hv4
      obtain ⟨v3, hv3⟩ : ∃ v3, v3 = Value.slice (some ⟨gv3, 0, none⟩) (L.length + 1) cv3 := ⟨_, rfl⟩
      rw [← hv3] at hown3 hloc3
      have hall3 : W2.grownBy w3 (Value.slice b L.length d).ownBlock := (World.grownBy_alloc W2 _ _).trans hgrow3
      have erb : w3.heap[rb]? = W2.heap[rb]? := hall3.block rb hs2 (fun e => by have := (HS2.out.lt rb e.symm).1; omega)
      have d1 : w3.cell? ⟨rb, 1, none⟩ = some (.slice b L.length d) := (World.cell?_of_block (a := ⟨rb, 1, none⟩) erb).trans m1
      have g1 : w3.frozen? ⟨rb, 1, none⟩ = false := (World.frozen?_of_block (a := ⟨rb, 1, none⟩) erb).trans n1
      have hfin : RsP (w3.setCell ⟨rb, 1, none⟩ v3) rb v' v3 (L ++ [(id, s)]) last ∧ Tn (Hers rb (.slice a L.length c) (.slice b L.length d)) w (w3.setCell ⟨rb, 1, none⟩ v3) := by
        obtain ⟨m0, m2, n0, n1, n2⟩ := HM.out
        have hT4 : Tn (fun k => k = rb) w3 (w3.setCell ⟨rb, 1, none⟩ v3) := tn_set rfl
        refine ⟨⟨?_, World.cell?_setCell_same _ _ _ d1, ?_, ?_, ?_, ?_, ?_, ?_, ?_⟩, ?_⟩
        · rw [World.cell?_setCell_other _ _ _ _ (by simp), World.cell?_of_block (a := ⟨rb, 0, none⟩) erb]; exact m0
        · rw [World.cell?_setCell_other _ _ _ _ (by simp), World.cell?_of_block (a := ⟨rb, 2, none⟩) erb]; exact m2
        · rw [World.frozen?_setCell, World.frozen?_of_block (a := ⟨rb, 0, none⟩) erb]; exact n0
        · rw [World.frozen?_setCell]; exact g1
        · rw [World.frozen?_setCell, World.frozen?_of_block (a := ⟨rb, 2, none⟩) erb]; exact n2
        · rw [List.length_append, List.map_append]
          refine row_kept HI2.out (fun k hk => ?_)
          have h1 := HI2.out.lt k hk
          rw [hT4.block k (by have := hall3.size; omega) (by omega)]
          exact hall3.block k h1.2 (fun e => HNE.out k hk e.symm)
        · rw [List.length_append, List.map_append]
          exact row_kept hown3 (fun k hk => hT4.block k (hown3.lt k hk).2 (by have := (hown3.lt k hk).1; omega))
        · intro k hk hb
          rcases hloc3 with h | h
          · exact HNE.out k hk (h ▸ hb)
          · have h1 := (HI2.out.lt k hk).2
            rw [h] at hb
            simp at hb
            omega
        · exact HT.out.trans ((Tn.of_grown hall3 (fun k e => Or.inr (Or.inr e))).trans (hT4.mono (fun k e => Or.inl e)))
      rw [hv3] at hfin
      have HF := vl hfin
      clear hfin hall3 hown3 hgrow3 hloc3 erb m1 n1 HT HI2 HS2 HNE HM hv3
      go_wp2
      go_end0
      exact ⟨⟨_, rfl⟩, by rw [HPL.out]; exact ⟨_, _, HF.out.1⟩, HF.out.2⟩
end Go.Proofs.Ythphblmoeomeoad
