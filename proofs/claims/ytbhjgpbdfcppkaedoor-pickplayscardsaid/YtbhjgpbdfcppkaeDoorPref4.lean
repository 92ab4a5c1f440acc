/-
  A PICKER as the document's answer keeps it: Add. No claim by itself.
-/
import Derived.Test.YtbhjgpbdfcppkaeDoorPref3
namespace Go.Proofs.YtbhjgpbdfcppkaeDoor
open Go.RowKit
set_option maxRecDepth 100000
theorem infoOne : (Tryd.prog.info? 44).map (fun i => (i.zero, i.size, i.bytes)) = some (some (.agg #[.int .i64 0, .int .i64 0, .int .i64 0, .bool false]), 4, 32) := by kernel_rfl
theorem pnews_four (w : World) (x0 x1 x2 x3 : Value) : ∀ j u, [x0, x1, x2, x3][j]? = some u → (w.alloc (.cells #[x0, x1, x2, x3] 44)).cell? ((⟨w.heap.size, 0, none⟩ : Addr).add j) = some u := by
  intro j u hj
  have hadd : (⟨w.heap.size, 0, none⟩ : Addr).add j = ⟨w.heap.size, j, none⟩ := by unfold Addr.add; split <;> simp_all
  have hx : (w.alloc (.cells #[x0, x1, x2, x3] 44)).heap[w.heap.size]? = some (.cells #[x0, x1, x2, x3] 44 (0, 0)) := heap_alloc_new w _
  rw [hadd]
  simp only [World.cell?, hx]
  rw [← hj]
  simp
theorem pone_four (L : PL) : ∀ u ∈ pkCells L, u.oneCell' = true := by
  intro u hu
  unfold pkCells at hu
  rw [List.mem_flatMap] at hu
  obtain ⟨o, _, hu⟩ := hu
  simp [pkC] at hu
  rcases hu with rfl | rfl | rfl | rfl <;> rfl
theorem LeastAt.all {L : PL} {i : Int} (h : LeastAt L L.length i) : (i = -1 ∧ leastF L = none) ∨ ∃ j : Nat, i = j ∧ j < L.length ∧ leastF L = some (pnth L j) := by
  unfold LeastAt at h
  rw [List.take_length] at h
  rcases h with h | ⟨j, h1, _, h3, h4⟩
  · exact Or.inl h
  · exact Or.inr ⟨j, h1, h3, h4⟩
/-- A row that was appended to is the picker's. -/
theorem RpP.grown {w w1 w2 : World} {rb : Nat} {v v' : Value} {L L' : PL} (h : RpP w rb v L) (hg : w.grownBy w1 v.ownBlock) (hown : w1.ownsRow (rb + 1) 44 4 v' L'.length (pkCells L')) (hloc : v'.ownBlock = v.ownBlock ∨ ∀ k, v'.ownBlock = some k → w.heap.size ≤ k) (h2 : w2 = w1.setCell ⟨rb, 0, none⟩ v') :
    RpOut rb v w w2 L' := by
  have hrb := blk_of_cell h.c0
  have e0 : w1.heap[rb]? = w.heap[rb]? := hg.block rb hrb (fun e => by have := (h.row.lt rb e.symm).1; omega)
  have hT : Tn (fun k => k = rb) w1 w2 := by rw [h2]; exact tn_set rfl
  have d0 : w1.cell? ⟨rb, 0, none⟩ = some v := (World.cell?_of_block (a := ⟨rb, 0, none⟩) e0).trans h.c0
  refine ⟨v', ⟨?_, ?_, rowp_kept hown (fun k hk => hT.block k (hown.lt k hk).2 (by have := (hown.lt k hk).1; omega))⟩, (Tn.of_grown hg (fun k e => Or.inr e)).trans (hT.mono (fun k e => Or.inl e)), fun k hk => ?_⟩
  · rw [h2]; exact World.cell?_setCell_same _ _ _ d0
  · rw [h2, World.frozen?_setCell, World.frozen?_of_block (a := ⟨rb, 0, none⟩) e0]; exact h.f0
  · rcases hk with hk | hk
    · exact Or.inl (Or.inl hk)
    · rcases hloc with e | e
      · exact Or.inl (Or.inr (e ▸ hk))
      · exact Or.inr (e k hk)
theorem RpOut.from {w w1 w2 : World} {rb : Nat} {v : Value} {L' : PL} (hb : Below w.heap.size w w1) (ho : RpOut rb v w1 w2 L') : RpOut rb v w w2 L' := by
  obtain ⟨v', h1, h2, h3⟩ := ho
  exact ⟨v', h1, (Tn.of_below hb).trans h2, fun k hk => (h3 k hk).imp_right (fun e => Nat.le_trans hb.size e)⟩
set_option maxHeartbeats 4000000 in
theorem rpadd_any {w : World} {rb : Nat} {v : Value} {L : PL} (h : RpP w rb v L) (hI : PkI L) (id wt : Int) :
    Calls Tryd.prog 7 #[kptr rb, .int .i64 id, .int .i64 wt] w fun e w' => e = .returned (.int .i64 (addF L id wt).1) ∧ RpOut rb v w w' (addF L id wt).2 := by
  have HI := vl hI
  have HP := vl h
  have HS := vl (RpOut.same h (Tn.refl _ w))
  have hl := hI.len
  have hLL : L.length ≤ 1000 := by omega
  have HA := vl (rpat_any h hLL id)
  have c0 := h.c0
  obtain ⟨a, c, rfl, hc1, hc2, hcell⟩ := pown_shape rfl h.row
  unfold addF
  by_cases r1 : id < 1 ∨ 2147483647 < id ∨ wt < 1 ∨ 256 < wt
  · rw [if_pos r1]
    unfold kptr
    clear hI h hcell
    have H : id < 1 ∨ (¬ id < 1 ∧ 2147483647 < id) ∨ (¬ id < 1 ∧ ¬ 2147483647 < id ∧ wt < 1) ∨ (¬ id < 1 ∧ ¬ 2147483647 < id ∧ ¬ wt < 1 ∧ 256 < wt) := by omega
    clear r1
    rcases H with q1 | ⟨q1, q2⟩ | ⟨q1, q2, q3⟩ | ⟨q1, q2, q3, q4⟩
    all_goals
      go_enter Tryd.func7, Tryd.ntmps7
      go_wp2
      go_ret
      exact ⟨rfl, HS.out⟩
  rw [if_neg r1]
  have q1 : ¬ id < 1 := by omega
  have q2 : ¬ 2147483647 < id := by omega
  have q3 : ¬ wt < 1 := by omega
  have q4 : ¬ 256 < wt := by omega
  clear r1
  match hf : pkFind L id with
  | some o =>
    obtain ⟨t, h1, h2, _⟩ := pk_found hI.nodup hf
    rw [h1] at HA
    simp only [Option.isSome_some, if_true]
    unfold kptr at HA ⊢
    have hge : (0 : Int) ≤ (t : Int) := by omega
    clear hI h hcell h1 hf
    go_enter Tryd.func7, Tryd.ntmps7
    go_wp2_with fail
    refine HA.out.mono ?_
    rintro e w' ⟨rfl, rfl⟩
    go_wp2
    go_ret
    exact ⟨rfl, HS.out⟩
  | none =>
  have h1 : atI L id = -1 := by unfold atI; rw [hf]; rfl
  rw [h1] at HA
  simp only [Option.isSome_none, Bool.false_eq_true, if_false]
  unfold kptr at HA ⊢
  by_cases q5 : 100 ≤ L.length
  · rw [if_pos q5]
    have q6 : (100 : Int) ≤ (L.length : Int) := by omega
    clear hI h hcell h1 hf
    go_enter Tryd.func7, Tryd.ntmps7
    go_wp2_with fail
    refine HA.out.mono ?_
    rintro e w' ⟨rfl, rfl⟩
    go_wp2
    go_ret
    exact ⟨rfl, HS.out⟩
  rw [if_neg q5]
  have q6 : ¬ (100 : Int) ≤ (L.length : Int) := by omega
  have HL := vl (rpleast_any h hLL)
  unfold kptr at HL
  clear hI h hcell h1 hf q5
  go_enter Tryd.func7, Tryd.ntmps7
  go_wp2_with fail
  refine HA.out.mono ?_
  rintro e w' ⟨rfl, rfl⟩
  go_wp2_with fail
  refine HL.out.mono ?_
  rintro e w1 ⟨⟨i, rfl, hi⟩, hb⟩
  have HP1 := vl (HP.out.below hb)
  have d0 := HP1.out.c0
  have f1 := HP1.out.f0
  have HB := vl hb
  clear hb HL HA c0
  have hrb := blk_of_cell d0
  obtain ⟨i0, hi0, hz0, hz1, hz2⟩ := info_parts infoOne
  have HZ := vl (And.intro hi0 (And.intro hz0 (And.intro hz1 hz2)))
  clear hi0 hz0 hz1 hz2
  rcases hi.all with ⟨rfl, hi2⟩ | ⟨j, rfl, hj, hi2⟩
  · have HSC : Vl (leastSc L = 0) := by show _ = _; unfold leastSc; rw [hi2]
    clear hi hi2
    have hls : L.length + 1 ≤ 101 := by omega
    go_wp2_with (at_builtin; refine wpList_append_own_at _ rfl _ _ 26 rfl (rb + 1) 44 i0 (.agg #[.int .i64 0, .int .i64 0, .int .i64 0, .bool false]) 4 32 Tryd.underlying26 HZ.out.1 HZ.out.2.1 HZ.out.2.2.1 HZ.out.2.2.2 rfl (by decide) _ _ _ rfl (HP1.out.row.alloc _) ⟨w1.heap.size, 0, none⟩ 1 1 [.int .i64 id, .int .i64 wt, .int .i64 0, .bool false] rfl rfl (pnews_four _ _ _ _ _) (by intro u hu; simp at hu; rcases hu with rfl | rfl | rfl | rfl <;> rfl) ?c3 ?c4 ?c5 ?_)
    case c3 => unfold maxLen; omega
    case c4 => omega
    case c5 => rw [World.size_alloc]; omega
    intro v0 w2 hown hgrow _ hloc
    have hall : w1.grownBy w2 (Value.slice a L.length c).ownBlock := (World.grownBy_alloc w1 _ _).trans hgrow
    have hloc' : v0.ownBlock = (Value.slice a L.length c).ownBlock ∨ ∀ k, v0.ownBlock = some k → w1.heap.size ≤ k := hloc.imp_right (fun e k hk => by rw [e] at hk; simp at hk; omega)
    have hown' : w2.ownsRow (rb + 1) 44 4 v0 (L ++ [(⟨id, wt, 0, false⟩ : PkO)]).length (pkCells (L ++ [⟨id, wt, 0, false⟩])) := by rw [pkCells_append, List.length_append]; exact hown
    have OUT := vl (HP1.out.grown hall hown' hloc' rfl)
    have erb : w2.heap[rb]? = w1.heap[rb]? := hall.block rb hrb (fun e => by have := (HP1.out.row.lt rb e.symm).1; omega)
    have d1 : w2.cell? ⟨rb, 0, none⟩ = some (.slice a L.length c) := (World.cell?_of_block (a := ⟨rb, 0, none⟩) erb).trans d0
    have f2 : w2.frozen? ⟨rb, 0, none⟩ = false := (World.frozen?_of_block (a := ⟨rb, 0, none⟩) erb).trans f1
    obtain ⟨gv, cv, hv0, _, _⟩ := hown.form (by omega)
    subst hv0
    clear hown hgrow hloc hall hloc' hown' erb d0 f1
    go_wp2
    go_ret
    refine ⟨rfl, ?_⟩
    rw [HSC.out]
    exact RpOut.from HB.out OUT.out
  · have HSC : Vl (leastSc L = (pnth L j).sc) := by show _ = _; unfold leastSc; rw [hi2]
    obtain ⟨a', c', he, _, _, hcell⟩ := pown_shape rfl HP1.out.row
    obtain ⟨rfl, rfl⟩ : a = a' ∧ c = c' := by simpa using he
    obtain ⟨g, rfl, _, _, _, y2, _⟩ := hcell j hj
    have hj0 : (0 : Int) ≤ (j : Int) := by omega
    have hj1 : (j : Int) < (L.length : Int) := by omega
    clear he hcell hi hi2
    generalize (pnth L j).sc = ps at *
    have hls : L.length + 1 ≤ 101 := by omega
    go_wp2_with (at_builtin; refine wpList_append_own_at _ rfl _ _ 26 rfl (rb + 1) 44 i0 (.agg #[.int .i64 0, .int .i64 0, .int .i64 0, .bool false]) 4 32 Tryd.underlying26 HZ.out.1 HZ.out.2.1 HZ.out.2.2.1 HZ.out.2.2.2 rfl (by decide) _ _ _ rfl (HP1.out.row.alloc _) ⟨w1.heap.size, 0, none⟩ 1 1 [.int .i64 id, .int .i64 wt, .int .i64 ps, .bool false] rfl rfl (pnews_four _ _ _ _ _) (by intro u hu; simp at hu; rcases hu with rfl | rfl | rfl | rfl <;> rfl) ?c3 ?c4 ?c5 ?_)
    case c3 => unfold maxLen; omega
    case c4 => omega
    case c5 => rw [World.size_alloc]; omega
    intro v0 w2 hown hgrow _ hloc
    have hall : w1.grownBy w2 (Value.slice (some ⟨g, 0, none⟩) L.length c).ownBlock := (World.grownBy_alloc w1 _ _).trans hgrow
    have hloc' : v0.ownBlock = (Value.slice (some ⟨g, 0, none⟩) L.length c).ownBlock ∨ ∀ k, v0.ownBlock = some k → w1.heap.size ≤ k := hloc.imp_right (fun e k hk => by rw [e] at hk; simp at hk; omega)
    have hown' : w2.ownsRow (rb + 1) 44 4 v0 (L ++ [(⟨id, wt, ps, false⟩ : PkO)]).length (pkCells (L ++ [⟨id, wt, ps, false⟩])) := by rw [pkCells_append, List.length_append]; exact hown
    have OUT := vl (HP1.out.grown hall hown' hloc' rfl)
    have erb : w2.heap[rb]? = w1.heap[rb]? := hall.block rb hrb (fun e => by have := (HP1.out.row.lt rb e.symm).1; omega)
    have d1 : w2.cell? ⟨rb, 0, none⟩ = some (.slice (some ⟨g, 0, none⟩) L.length c) := (World.cell?_of_block (a := ⟨rb, 0, none⟩) erb).trans d0
    have f2 : w2.frozen? ⟨rb, 0, none⟩ = false := (World.frozen?_of_block (a := ⟨rb, 0, none⟩) erb).trans f1
    obtain ⟨gv, cv, hv0, _, _⟩ := hown.form (by omega)
    subst hv0
    clear hown hgrow hloc hall hloc' hown' erb d0 f1
    go_wp2
    go_ret
    refine ⟨rfl, ?_⟩
    rw [HSC.out]
    exact RpOut.from HB.out OUT.out
end Go.Proofs.YtbhjgpbdfcppkaeDoor
