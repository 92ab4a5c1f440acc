/-
  CONNECTIONS TO PLACES, as the document's answer keeps them: what they are in memory; drop. No claim by itself.
-/
import Derived.Laws.OwnMore
import Derived.Deep.DeepCutAuto
import Derived.Deep.CutBlock
import Derived.BigRegion
import Derived.BigQuiet
import Derived.Deep.QuietTactic
import Derived.Deep.AppendLies
import Derived.Test.YtibjbdcmhjbndaaDoorLo1
import Derived.Test.YtibjbdcmhjbndaaDoorWspec0
namespace Go.Proofs.YtibjbdcmhjbndaaDoor
open Go Go.RowKit
set_option maxRecDepth 100000
def okC (o : Lk) : List Value := [.int .i64 o.id, .string o.to, .bool o.busy, .int .i64 o.at_, .int .i64 o.turn]
def okCells (L : LL) : List Value := L.flatMap okC
theorem okCells_len (L : LL) : (okCells L).length = L.length * 5 := by
  induction L with
  | nil => rfl
  | cons o r ih => unfold okCells at *; rw [List.flatMap_cons, List.length_append, ih, List.length_cons]; simp [okC]; omega
theorem okCells_at (L : LL) (t q : Nat) (ht : t < L.length) (hq : q < 5) : (okCells L)[t * 5 + q]? = (okC (L[t]'ht))[q]? := by
  induction L generalizing t with
  | nil => simp at ht
  | cons o r ih =>
    have e : okCells (o :: r) = okC o ++ okCells r := rfl
    have hl : (okC o).length = 5 := rfl
    rw [e]
    cases t with
    | zero => rw [Nat.zero_mul, Nat.zero_add, List.getElem?_append_left (by omega)]; rfl
    | succ t =>
      rw [List.getElem?_append_right (by omega), hl, show (t + 1) * 5 + q - 5 = t * 5 + q by omega, ih t (by simpa using ht)]
      rfl
theorem okCells_append (A B : LL) : okCells (A ++ B) = okCells A ++ okCells B := by unfold okCells; rw [List.flatMap_append]
theorem okCells_take (L : LL) (t : Nat) : okCells (L.take t) = (okCells L).take (t * 5) := by
  induction L generalizing t with
  | nil => simp [okCells]
  | cons o r ih =>
    cases t with
    | zero => simp [okCells]
    | succ t =>
      have e : okCells (o :: r) = okC o ++ okCells r := rfl
      have hl : (okC o).length = 5 := rfl
      rw [e, List.take_append, hl, show (t + 1) * 5 - 5 = t * 5 by omega, ← ih t, show (okC o).take ((t + 1) * 5) = okC o from List.take_of_length_le (by omega)]
      rfl
theorem okCells_drop (L : LL) (t : Nat) : okCells (L.drop t) = (okCells L).drop (t * 5) := by
  induction L generalizing t with
  | nil => simp [okCells]
  | cons o r ih =>
    cases t with
    | zero => simp
    | succ t =>
      have e : okCells (o :: r) = okC o ++ okCells r := rfl
      have hl : (okC o).length = 5 := rfl
      rw [e, List.drop_append, hl, show (t + 1) * 5 - 5 = t * 5 by omega, ← ih t, show (okC o).drop ((t + 1) * 5) = [] from List.drop_of_length_le (by omega)]
      rfl
/-- One cell of one of them, written. -/
theorem okCells_set (L : LL) (t q : Nat) (ht : t < L.length) (hq : q < 5) (x : Value) (y : Lk) (hy : okC y = (okC (L[t]'ht)).set q x) : (okCells L).set (t * 5 + q) x = okCells (L.set t y) := by
  induction L generalizing t with
  | nil => simp at ht
  | cons o r ih =>
    have e : okCells (o :: r) = okC o ++ okCells r := rfl
    have hl : (okC o).length = 5 := rfl
    cases t with
    | zero =>
      rw [e, Nat.zero_mul, Nat.zero_add, List.set_append_left _ _ (by omega)]
      show _ = okC y ++ okCells r
      rw [hy]
      rfl
    | succ t =>
      rw [e, List.set_append_right _ _ (by omega), hl, show (t + 1) * 5 + q - 5 = t * 5 + q by omega, ih t (by simpa using ht) hy]
      rfl
/-- The document's pool, in memory. -/
structure OmP (w : World) (rb : Nat) (v : Value) (S : Po) : Prop where
  blk : w.heap[rb]? = some (.cells #[.int .i64 S.many, .int .i64 S.last, .int .i64 S.now, .int .i64 S.turn, v] 32 (0, 0))
  row : w.ownsRow (rb + 1) 48 5 v S.L.length (okCells S.L)
def lO : Lk := ⟨0, ⟨#[]⟩, false, 0, 0⟩
def lnth (L : LL) (k : Nat) : Lk := L.getD k lO
theorem lnth_at {L : LL} {k : Nat} (h : k < L.length) : L[k]'h = lnth L k := by simp [lnth, List.getD, List.getElem?_eq_getElem h]
theorem ldrop_nth (L : LL) (k : Nat) (h : k < L.length) : L.drop k = lnth L k :: L.drop (k + 1) := by
  rw [List.drop_eq_getElem_cons h, lnth_at h]
theorem ltake_nth (L : LL) (k : Nat) (h : k < L.length) : L.take (k + 1) = L.take k ++ [lnth L k] := by
  rw [← lnth_at h, List.take_succ_eq_append_getElem h]
theorem rowo_kept {w w' : World} {base n : Nat} {v : Value} {xs : List Value} (h : w.ownsRow base 48 5 v n xs) (hk : ∀ k, v.ownBlock = some k → w'.heap[k]? = w.heap[k]?) : w'.ownsRow base 48 5 v n xs := by
  obtain ⟨h1, h2 | ⟨g, cap, cur, hv, hg, hc, r⟩⟩ := h
  · exact ⟨h1, Or.inl h2⟩
  · exact ⟨h1, Or.inr ⟨g, cap, cur, hv, hg, (hk g (by rw [hv]; rfl)).trans hc, r⟩⟩
/-- The blocks of the document's pool. -/
def HersO (rb : Nat) (v : Value) (k : Nat) : Prop := k = rb ∨ v.ownBlock = some k
section
variable {w w' : World} {rb : Nat} {v : Value} {S : Po} (h : OmP w rb v S)
include h
theorem OmP.lt0 : rb < w.heap.size := (Array.getElem?_eq_some_iff.1 h.blk).1
theorem OmP.lt : ∀ k, HersO rb v k → rb ≤ k ∧ k < w.heap.size := by
  rintro k (rfl | hk)
  · exact ⟨Nat.le_refl _, h.lt0⟩
  · have := h.row.lt k hk
    omega
theorem OmP.kept (e : ∀ k, HersO rb v k → w'.heap[k]? = w.heap[k]?) : OmP w' rb v S :=
  ⟨(e rb (Or.inl rfl)).trans h.blk, rowo_kept h.row (fun k hk => e k (Or.inr hk))⟩
theorem OmP.below (hb : Below w.heap.size w w') : OmP w' rb v S := h.kept (fun k hk => hb.block k (h.lt k hk).2)
theorem OmP.cells : w.cell? ⟨rb, 0, none⟩ = some (.int .i64 S.many) ∧ w.cell? ⟨rb, 1, none⟩ = some (.int .i64 S.last) ∧ w.cell? ⟨rb, 2, none⟩ = some (.int .i64 S.now) ∧ w.cell? ⟨rb, 3, none⟩ = some (.int .i64 S.turn) ∧ w.cell? ⟨rb, 4, none⟩ = some v := by
  have k := h.blk
  simp only [World.cell?, k]
  exact ⟨rfl, rfl, rfl, rfl, rfl⟩
theorem OmP.fr (i : Nat) : w.frozen? ⟨rb, i, none⟩ = false := by
  have k := h.blk
  unfold World.frozen?
  rw [k]
  simp
end
/-- What a row that is owned looks like. -/
theorem oown_shape {w : World} {base n : Nat} {v : Value} {L : LL} (hn : L.length = n) (h : w.ownsRow base 48 5 v n (okCells L)) :
    ∃ a c, v = .slice a n c ∧ n ≤ c ∧ c ≤ maxLen ∧ ∀ t, t < n → ∃ g, a = some ⟨g, 0, none⟩ ∧ base ≤ g ∧ g < w.heap.size ∧ (w.cell? ⟨g, t * 5, none⟩ = some (.int .i64 (lnth L t).id) ∧ w.cell? ⟨g, t * 5 + 1, none⟩ = some (.string (lnth L t).to) ∧ w.cell? ⟨g, t * 5 + 2, none⟩ = some (.bool (lnth L t).busy) ∧ w.cell? ⟨g, t * 5 + 3, none⟩ = some (.int .i64 (lnth L t).at_) ∧ w.cell? ⟨g, t * 5 + 4, none⟩ = some (.int .i64 (lnth L t).turn)) ∧ ∀ i, w.frozen? ⟨g, i, none⟩ = false := by
  have h0 := h
  obtain ⟨h1, ⟨hv, h2⟩ | ⟨g, cap, cur, hv, hg, hc, h3, h4, r⟩⟩ := h
  · exact ⟨none, 0, by rw [hv, h2], by omega, by decide, fun t ht => by omega⟩
  · have hlt : g < w.heap.size := by
      rcases Nat.lt_or_ge g w.heap.size with h5 | h5
      · exact h5
      · rw [Array.getElem?_eq_none h5] at hc; cases hc
    refine ⟨_, cap, hv, h3, h4, fun t ht => ⟨g, rfl, hg, hlt, ?_, fun i => ?_⟩⟩
    · rw [hv] at h0
      have hx : ∀ q, q < 5 → w.cell? ⟨g, t * 5 + q, none⟩ = (okC (lnth L t))[q]? := fun q hq => by
        rw [h0.cellAt (t * 5 + q) (by omega), okCells_at L t q (by omega) hq, lnth_at]
      exact ⟨hx 0 (by omega), hx 1 (by omega), hx 2 (by omega), hx 3 (by omega), hx 4 (by omega)⟩
    · rw [hv] at h0
      exact h0.frozenAt _
theorem lTn_mono {S S' : Nat → Prop} {w w' : World} (h : Tn S w w') (hs : ∀ k, S k → S' k) : Tn S' w w' := ⟨h.os, h.tape, h.output, h.size, fun k hk hn => h.block k hk (fun e => hn (hs k e))⟩
theorem lTn_trans {S : Nat → Prop} {a b c : World} (h : Tn S a b) (k : Tn S b c) : Tn S a c := ⟨k.os.trans h.os, k.tape.trans h.tape, k.output.trans h.output, Nat.le_trans h.size k.size, fun i hi hn => (k.block i (Nat.lt_of_lt_of_le hi h.size) hn).trans (h.block i hi hn)⟩
/-- What a call of the document's pool leaves. -/
def OmOut (rb : Nat) (v : Value) (w w' : World) (S : Po) : Prop := ∃ v', OmP w' rb v' S ∧ Tn (HersO rb v) w w' ∧ ∀ k, HersO rb v' k → HersO rb v k ∨ w.heap.size ≤ k
theorem OmOut.same {rb : Nat} {v : Value} {w w' : World} {S : Po} (h : OmP w' rb v S) (ht : Tn (HersO rb v) w w') : OmOut rb v w w' S := ⟨v, h, ht, fun _ hk => Or.inl hk⟩
def withL (S : Po) (L : LL) : Po := ⟨S.many, S.last, S.now, S.turn, L⟩
/-- A row that was made anew is the pool's. -/
theorem OmP.anew {w w1 : World} {rb : Nat} {v v' : Value} {S : Po} {L' : LL} (h : OmP w rb v S) (hb : Below w.heap.size w w1) (hown : w1.ownsRow (rb + 1) 48 5 v' L'.length (okCells L')) (hloc : ∀ k, v'.ownBlock = some k → w.heap.size ≤ k) :
    OmOut rb v w (w1.setCell ⟨rb, 4, none⟩ v') (withL S L') := by
  have e0 : w1.heap[rb]? = w.heap[rb]? := hb.block rb h.lt0
  have hT : Tn (fun k => k = rb) w1 (w1.setCell ⟨rb, 4, none⟩ v') := tn_set rfl
  refine ⟨v', ⟨?_, rowo_kept hown (fun k hk => hT.block k (hown.lt k hk).2 (by have := (hown.lt k hk).1; omega))⟩, lTn_trans (Tn.of_below hb) (lTn_mono hT (fun k e => Or.inl e)), fun k hk => ?_⟩
  · exact heap_setCell_same w1 rb 4 _ _ v' (e0.trans h.blk)
  · rcases hk with hk | hk
    · exact Or.inl (Or.inl hk)
    · exact Or.inr (hloc k hk)
theorem ladd_at (g off q : Nat) : (⟨g, off, none⟩ : Addr).add q = ⟨g, off + q, none⟩ := by unfold Addr.add; split <;> simp_all
theorem lone_five (L : LL) : ∀ u ∈ okCells L, u.oneCell' = true := by
  intro u hu
  unfold okCells at hu
  obtain ⟨o, _, hu⟩ := List.mem_flatMap.1 hu
  simp [okC] at hu
  rcases hu with rfl | rfl | rfl | rfl | rfl <;> rfl
theorem infoLk : (Tryd.prog.info? 48).map (fun i => (i.zero, i.size, i.bytes)) = some (some (.agg #[.int .i64 0, .string ⟨#[]⟩, .bool false, .int .i64 0, .int .i64 0]), 5, 48) := by kernel_rfl
end Go.Proofs.YtibjbdcmhjbndaaDoor
/-
  CONNECTIONS TO PLACES, as the document's answer keeps them: one is left out. No claim by itself.
-/
namespace Go.Proofs.YtibjbdcmhjbndaaDoor
open Go Go.RowKit
set_option maxRecDepth 100000
theorem lbelow_grown {B : Nat} {w0 w w' : World} {r : Option Nat} (h : Below B w0 w) (hg : w.grownBy w' r) (hB : B ≤ w.heap.size) (hr : ∀ k, r = some k → B ≤ k) : Below B w0 w' :=
  ⟨hg.os.trans h.os, hg.tape.trans h.tape, hg.output.trans h.output, Nat.le_trans h.size hg.size, fun k hk => (hg.block k (by omega) (fun e => by have := hr k e.symm; omega)).trans (h.block k hk)⟩
set_option maxHeartbeats 4000000 in
theorem rodrop_any {w : World} {rb : Nat} {v : Value} {S : Po} (h : OmP w rb v S) (hL : S.L.length ≤ 1000) (t : Nat) (ht : t < S.L.length) :
    Calls Tryd.prog 18 #[.pointer (some ⟨rb, 0, none⟩), .int .i64 t] w fun e w' => e = .returned (.tuple #[]) ∧ OmOut rb v w w' (withL S (S.L.take t ++ S.L.drop (t + 1))) := by
  have HP := vl h
  obtain ⟨_, _, _, _, c4⟩ := h.cells
  have f4 := h.fr 4
  obtain ⟨a, c, rfl, hc1, hc2, hcell⟩ := oown_shape rfl h.row
  have hge : ¬ ((t : Int) < 0) := by omega
  have hge' : (0 : Int) ≤ (t : Int) := by omega
  have hlt : (t : Int) < (S.L.length : Int) := by omega
  obtain ⟨g, rfl, _, hgl, _, _⟩ := hcell t ht
  have HROW : Vl (∀ wx : World, wx.heap[g]? = w.heap[g]? → ∀ j, j < S.L.length * 5 → wx.cell? ⟨g, j, none⟩ = (okCells S.L)[j]?) := fun wx he j hj => by
    have := h.row.cellAt j hj
    rw [← this]
    exact World.cell?_of_block (a := ⟨g, j, none⟩) he
  obtain ⟨i0, hi0, hz0, hz1, hz2⟩ := info_parts infoLk
  have HZ := vl (And.intro hi0 (And.intro hz0 (And.intro hz1 hz2)))
  have hrb := h.lt0
  have hc3 : S.L.length ≤ c := hc1
  have t1 : t ≤ c := by omega
  have t2 : t + 1 ≤ c := by omega
  clear h hcell hi0 hz0 hz1 hz2
  go_enter Tryd.func18, Tryd.ntmps18
  go_wp2_with (at_builtin; refine wpList_append_own_at _ rfl _ _ 30 rfl (rb + 1) 48 i0 (.agg #[.int .i64 0, .string ⟨#[]⟩, .bool false, .int .i64 0, .int .i64 0]) 5 48 Tryd.underlying30 HZ.out.1 HZ.out.2.1 HZ.out.2.2.1 HZ.out.2.2.2 rfl (by decide) _ _ _ rfl (World.ownsRow_nil _ _ _ _) ⟨g, 0, none⟩ t c (okCells (S.L.take t)) rfl ?c1 ?c2 (lone_five _) ?c3 ?c4 ?c5 ?_)
  case c1 => rw [okCells_len, List.length_take]; omega
  case c2 =>
    intro j u hj
    try rw [ladd_at, Nat.zero_add]
    rw [okCells_take, List.getElem?_take] at hj
    split at hj
    · rw [HROW.out w rfl j (by omega)]; exact hj
    · cases hj
  case c3 => unfold maxLen; omega
  case c4 => omega
  case c5 => omega
  intro v1 w1 hown1 hgrow1 _ hloc1
  have hb1 : Below w.heap.size w w1 := lbelow_grown (Below.refl _ w) hgrow1 (Nat.le_refl _) (fun k e => by cases e)
  have hl1 : ∀ k, v1.ownBlock = some k → w.heap.size ≤ k := fun k hk => by
    rcases hloc1 with e | e
    · rw [e] at hk; cases hk
    · rw [e] at hk; simp at hk; omega
  have hown1' : w1.ownsRow (rb + 1) 48 5 v1 t (okCells (S.L.take t)) := hown1
  have HO1 := vl hown1'
  have HB1 := vl hb1
  have HL1 := vl hl1
  have egl : w1.heap[g]? = w.heap[g]? := hb1.block g hgl
  have erb : w1.heap[rb]? = w.heap[rb]? := hb1.block rb hrb
  have HROW1 := vl (HROW.out w1 egl)
  have d4 : w1.cell? ⟨rb, 4, none⟩ = some (.slice (some ⟨g, 0, none⟩) S.L.length c) := (World.cell?_of_block (a := ⟨rb, 4, none⟩) erb).trans c4
  have f1 : w1.frozen? ⟨rb, 4, none⟩ = false := (World.frozen?_of_block (a := ⟨rb, 4, none⟩) erb).trans f4
  have hs1 : w.heap.size ≤ w1.heap.size := hb1.size
  obtain ⟨o2, ho2⟩ : ∃ o2, (if c = t + 1 then some (⟨g, 0, none⟩ : Addr) else some ⟨g, (t + 1) * 5, none⟩) = some ⟨g, o2, none⟩ := by
    by_cases e : c = t + 1
    · exact ⟨0, by rw [if_pos e]⟩
    · exact ⟨_, by rw [if_neg e]⟩
  have HO2 : Vl (t + 1 = S.L.length ∨ o2 = (t + 1) * 5) := by
    by_cases e : c = t + 1
    · exact Or.inl (by omega)
    · rw [if_neg e] at ho2
      simp at ho2
      exact Or.inr ho2.symm
  clear hgrow1 hloc1 hb1 hl1 hown1 hown1' egl erb HROW c4 f4
  go_wp2_with (at_builtin; refine wpList_append_own_at _ rfl _ _ 30 rfl (rb + 1) 48 i0 (.agg #[.int .i64 0, .string ⟨#[]⟩, .bool false, .int .i64 0, .int .i64 0]) 5 48 Tryd.underlying30 HZ.out.1 HZ.out.2.1 HZ.out.2.2.1 HZ.out.2.2.2 rfl (by decide) _ _ _ rfl HO1.out ⟨g, o2, none⟩ (S.L.length - (t + 1)) (c - (t + 1)) (okCells (S.L.drop (t + 1))) rfl ?c1 ?c2 (lone_five _) ?c3 ?c4 ?c5 ?_)
  case c1 => rw [okCells_len, List.length_drop]
  case c2 =>
    intro j u hj
    rw [ladd_at]
    have hjl : j < (S.L.length - (t + 1)) * 5 := by
      have h1 := (List.getElem?_eq_some_iff.1 hj).1
      rw [okCells_len, List.length_drop] at h1
      exact h1
    rcases HO2.out with e | e
    · omega
    · rw [okCells_drop, List.getElem?_drop] at hj
      rw [e, HROW1.out ((t + 1) * 5 + j) (by omega)]
      exact hj
  case c3 => unfold maxLen; omega
  case c4 => omega
  case c5 => omega
  intro v2 w2 hown2 hgrow2 _ hloc2
  have hb2 : Below w.heap.size w w2 := lbelow_grown HB1.out hgrow2 hs1 HL1.out
  have hl2 : ∀ k, v2.ownBlock = some k → w.heap.size ≤ k := fun k hk => by
    rcases hloc2 with e | e
    · exact HL1.out k (e ▸ hk)
    · rw [e] at hk; simp at hk; omega
  have hown2' : w2.ownsRow (rb + 1) 48 5 v2 (S.L.take t ++ S.L.drop (t + 1)).length (okCells (S.L.take t ++ S.L.drop (t + 1))) := by
    rw [okCells_append, List.length_append, List.length_take, List.length_drop, Nat.min_eq_left (by omega)]
    exact hown2
  have OUT := vl (HP.out.anew hb2 hown2' hl2)
  have erb2 : w2.heap[rb]? = w1.heap[rb]? := (hb2.block rb hrb).trans (HB1.out.block rb hrb).symm
  have d2 : w2.cell? ⟨rb, 4, none⟩ = some (.slice (some ⟨g, 0, none⟩) S.L.length c) := (World.cell?_of_block (a := ⟨rb, 4, none⟩) erb2).trans d4
  have f2 : w2.frozen? ⟨rb, 4, none⟩ = false := (World.frozen?_of_block (a := ⟨rb, 4, none⟩) erb2).trans f1
  have hform : ∃ a2 n2 c2, v2 = .slice a2 n2 c2 := by
    obtain ⟨_, ⟨e, _⟩ | ⟨g2, c2, _, e, _⟩⟩ := hown2
    · exact ⟨_, _, _, e⟩
    · exact ⟨_, _, _, e⟩
  obtain ⟨a2, n2, c2, rfl⟩ := hform
  clear hgrow2 hloc2 hb2 hl2 hown2 hown2' erb2 d4 f1 HO1 HROW1
  go_wp2
  exact ⟨rfl, _, results_none rfl _ _ _, rfl, OUT.out⟩
end Go.Proofs.YtibjbdcmhjbndaaDoor
/-
  CONNECTIONS TO PLACES, as the document's answer keeps them: one comes back. No claim by itself.
-/
namespace Go.Proofs.YtibjbdcmhjbndaaDoor
open Go Go.RowKit
set_option maxRecDepth 100000
theorem l_found {L : LL} (hn : (L.map Lk.id).Nodup) {k : Nat} (hk : k < L.length) : lkFind L (lnth L k).id = some (lnth L k) := lk_mem hn (by rw [← lnth_at hk]; exact List.getElem_mem hk)
theorem l_map {L : LL} (hn : (L.map Lk.id).Nodup) {k : Nat} (hk : k < L.length) (f : Lk → Lk) : mapK L (lnth L k).id f = L.set k (f (lnth L k)) := by
  refine List.ext_getElem (by simp [mapK]) fun i h1 h2 => ?_
  simp only [mapK, List.getElem_map, List.getElem_set]
  rw [List.length_set] at h2
  by_cases e : k = i
  · subst e
    rw [if_pos rfl, if_pos (by rw [lnth_at hk]), lnth_at hk]
  · rw [if_neg e, if_neg]
    intro he
    have h3 := lk_eq hn (List.getElem_mem h2) (by rw [← lnth_at hk]; exact List.getElem_mem hk) he
    rw [← lnth_at hk] at h3
    have hL : L.Nodup := List.Pairwise.of_map Lk.id (fun a b (h : a.id ≠ b.id) e => h (by rw [e])) hn
    exact e ((List.getElem_inj hL).1 h3).symm
theorem l_drop {L : LL} (hn : (L.map Lk.id).Nodup) {k : Nat} (hk : k < L.length) : dropK L (lnth L k).id = L.take k ++ L.drop (k + 1) := by
  induction L generalizing k with
  | nil => simp at hk
  | cons o r ih =>
    rw [List.map_cons, List.nodup_cons] at hn
    cases k with
    | zero =>
      have e : lnth (o :: r) 0 = o := rfl
      rw [e]
      unfold dropK
      rw [List.filter_cons_of_neg (by simp)]
      simp only [List.take_zero, List.nil_append, List.drop_succ_cons, List.drop_zero]
      refine List.filter_eq_self.2 fun x hx => ?_
      have : x.id ≠ o.id := fun e => hn.1 (List.mem_map.2 ⟨x, hx, e⟩)
      simp [this]
    | succ k =>
      have hk' : k < r.length := by simpa using hk
      have e : lnth (o :: r) (k + 1) = lnth r k := rfl
      rw [e]
      have hne : o.id ≠ (lnth r k).id := fun e => hn.1 (List.mem_map.2 ⟨lnth r k, by rw [← lnth_at hk']; exact List.getElem_mem hk', e.symm⟩)
      have := ih hn.2 hk'
      unfold dropK at this ⊢
      rw [List.filter_cons_of_pos (by simp [hne]), this]
      rfl
theorem l_none {L : LL} {id : Int} (h : ∀ j, j < L.length → ¬ ((lnth L j).id = id ∧ (lnth L j).busy = true)) : busyF L id = false := by
  cases hq : busyF L id with
  | false => rfl
  | true =>
    unfold busyF at hq
    cases ho : lkFind L id with
    | none => rw [ho] at hq; cases hq
    | some o =>
      rw [ho] at hq
      obtain ⟨h1, h2⟩ := lk_some ho
      obtain ⟨j, hj, e⟩ := List.getElem_of_mem h1
      rw [lnth_at hj] at e
      exact absurd ⟨by rw [e]; exact h2, by rw [e]; exact hq⟩ (h j hj)
/-- Cells written. -/
theorem OmP.turned {w : World} {rb : Nat} {v : Value} {S : Po} (h : OmP w rb v S) (t : Int) : OmP (w.setCell ⟨rb, 3, none⟩ (.int .i64 t)) rb v ⟨S.many, S.last, S.now, t, S.L⟩ ∧ Tn (HersO rb v) w (w.setCell ⟨rb, 3, none⟩ (.int .i64 t)) := by
  have hT : Tn (fun k => k = rb) w (w.setCell ⟨rb, 3, none⟩ (.int .i64 t)) := tn_set rfl
  exact ⟨⟨heap_setCell_same w rb 3 _ _ _ h.blk, rowo_kept h.row (fun k hk => hT.block k (h.row.lt k hk).2 (by have := (h.row.lt k hk).1; omega))⟩, tn_set (Or.inl rfl)⟩
theorem OmP.put {w : World} {rb g cap n : Nat} {a : Option Addr} {S : Po} (h : OmP w rb (.slice a n cap) S) (hn : n = S.L.length) (ha : a = some ⟨g, 0, none⟩) (t q : Nat) (ht : t < S.L.length) (hq : q < 5) (x : Value) (y : Lk) (hy : okC y = (okC (lnth S.L t)).set q x) :
    OmP (w.setCell ⟨g, t * 5 + q, none⟩ x) rb (.slice a n cap) (withL S (S.L.set t y)) ∧ Tn (HersO rb (.slice a n cap)) w (w.setCell ⟨g, t * 5 + q, none⟩ x) := by
  subst ha
  subst hn
  have hg := h.row.lt g rfl
  have hT : Tn (fun k => k = g) w (w.setCell ⟨g, t * 5 + q, none⟩ x) := tn_set rfl
  have e0 := hT.block rb h.lt0 (by omega)
  have hst := (h.row.stored (t * 5 + q) x).1
  rw [okCells_set S.L t q ht hq x y (by rw [lnth_at ht]; exact hy)] at hst
  refine ⟨⟨e0.trans h.blk, ?_⟩, tn_set (Or.inr rfl)⟩
  show World.ownsRow _ _ _ _ _ (S.L.set t y).length _
  rw [List.length_set]; exact hst
theorem OmOut.drewN {rb : Nat} {v : Value} {w w' : World} {S : Po} (h : OmOut rb v w w' S) (n : Nat) : OmOut rb v w (w'.drewN n) S := by
  obtain ⟨v', h1, h2, h3⟩ := h
  exact ⟨v', h1.kept (fun _ _ => rfl), ⟨h2.os, h2.tape, h2.output, h2.size, h2.block⟩, h3⟩
theorem OmOut.drew {rb : Nat} {v : Value} {w w' : World} {S : Po} (h : OmOut rb v w w' S) : OmOut rb v w w'.drew S := by
  obtain ⟨v', h1, h2, h3⟩ := h
  exact ⟨v', h1.kept (fun _ _ => rfl), ⟨h2.os, h2.tape, h2.output, h2.size, h2.block⟩, h3⟩
set_option maxHeartbeats 4000000 in
theorem roback_any {w : World} {rb : Nat} {v : Value} {S : Po} (h : OmP w rb v S) (hI : PoI S) (id : Int) (good : Bool) (ht1 : S.turn ≤ 1000000000000) :
    Calls Tryd.prog 10 #[.pointer (some ⟨rb, 0, none⟩), .int .i64 id, .bool good] w fun e w' => e = .returned (.int .i64 (backF S id good).1) ∧ OmOut rb v w w' (backF S id good).2 := by
  have HP := vl h
  have hLL : S.L.length ≤ 8 := by have := hI.len; have := hI.many; omega
  have ht0 := hI.turn
  obtain ⟨c0, c1, c2, c3, c4⟩ := h.cells
  have hfr := h.fr
  have f3 := hfr 3
  have HD := vl (fun t ht => rodrop_any h (by omega) t ht)
  obtain ⟨a, c, rfl, hc1, hc2, hcell⟩ := oown_shape rfl h.row
  have HC := vl hcell
  have HN := vl hI.nodup
  unfold maxLen at hc2
  clear hcell h hI hfr
  go_enter Tryd.func10, Tryd.ntmps10
  go_wp2
  go_loopw [7] (fun i wr => ∃ k : Nat, i = .int .i64 k ∧ k ≤ S.L.length ∧ Vl (∀ j, j < k → ¬ ((lnth S.L j).id = id ∧ (lnth S.L j).busy = true)) ∧ w = wr) (fun i _ => S.L.length - (intOf i).toNat)
  case atStart => exact ⟨0, rfl, Nat.zero_le _, vl (fun j hj => by omega), rfl⟩
  case round =>
    obtain ⟨k, rfl, hk, HNO, rfl⟩ := hrel
    by_cases hlt : k < S.L.length
    case neg =>
      have p1 : ¬ ((k : Int) < (S.L.length : Int)) := by omega
      have hno : busyF S.L id = false := l_none (fun j hj => HNO.out j (by omega))
      have HB : Vl (backF S id good = (5, S)) := by show _ = _; unfold backF; rw [hno]; rfl
      clear hno
      go_wp2
      go_ret
      rw [HB.out]
      exact ⟨rfl, OmOut.same HP.out (Tn.refl _ _)⟩
    have p1 : (k : Int) < (S.L.length : Int) := by omega
    obtain ⟨g, rfl, hgb, hgl, ⟨y0, y1, y2, y3, y4⟩, yf⟩ := HC.out k hlt
    have HK := vl (l_found HN.out hlt)
    have HM := vl (fun f => l_map HN.out hlt f)
    have HDR := vl (l_drop HN.out hlt)
    by_cases e1 : (lnth S.L k).id = id
    case neg =>
      go_wp2
      go_roundw
      case rel => exact ⟨k + 1, by go_num, by omega, vl (fun j hj e => by
        rcases Nat.lt_or_ge j k with h1 | h1
        · exact HNO.out j h1 e
        · obtain rfl : j = k := by omega
          exact e1 e.1), trivial⟩
      case measure => simp [intOf]; omega
    obtain ⟨bz, hbz⟩ : ∃ b, (lnth S.L k).busy = b := ⟨_, rfl⟩
    rw [hbz] at y2
    cases bz with
    | false =>
      go_wp2
      go_roundw
      case rel => exact ⟨k + 1, by go_num, by omega, vl (fun j hj e => by
        rcases Nat.lt_or_ge j k with h1 | h1
        · exact HNO.out j h1 e
        · obtain rfl : j = k := by omega
          rw [hbz] at e
          cases e.2), trivial⟩
      case measure => simp [intOf]; omega
    | true =>
      have hbu : busyF S.L id = true := by unfold busyF; rw [← e1, HK.out]; exact hbz
      cases good with
      | false =>
        have HB : Vl (backF S id false = (0, withL S (S.L.take k ++ S.L.drop (k + 1)))) := by
          show _ = _
          unfold backF withL
          rw [hbu, ← HDR.out, e1]
          rfl
        have HDD := vl (HD.out k hlt)
        clear HD hbu hbz
        go_wp2_with fail
        refine HDD.out.mono ?_
        rintro _ w1 ⟨rfl, ho⟩
        have HO := vl ho
        clear ho HDD
        go_wp2
        go_ret
        rw [HB.out]
        exact ⟨rfl, HO.out⟩
      | true =>
        have HB : Vl (backF S id true = (0, ⟨S.many, S.last, S.now, S.turn + 1, S.L.set k (setI S.now (S.turn + 1) (lnth S.L k))⟩)) := by
          show _ = _
          unfold backF
          rw [hbu, ← HM.out, e1]
          rfl
        have A1 := HP.out.turned (S.turn + 1)
        have A2 := A1.1.put rfl rfl k 2 hlt (by omega) (.bool false) ⟨(lnth S.L k).id, (lnth S.L k).to, false, (lnth S.L k).at_, (lnth S.L k).turn⟩ rfl
        have hnk : ∀ y, lnth (S.L.set k y) k = y := fun y => by rw [← lnth_at (by rw [List.length_set]; exact hlt)]; simp
        have A3 := A2.1.put (by show _ = (S.L.set k _).length; rw [List.length_set]) rfl k 3 (by show _ < (S.L.set k _).length; rw [List.length_set]; exact hlt) (by omega) (.int .i64 S.now) ⟨(lnth S.L k).id, (lnth S.L k).to, false, S.now, (lnth S.L k).turn⟩ (by show _ = (okC (lnth (S.L.set k _) k)).set _ _; rw [hnk]; rfl)
        have A4 := A3.1.put (by show _ = ((S.L.set k _).set k _).length; rw [List.length_set, List.length_set]) rfl k 4 (by show _ < ((S.L.set k _).set k _).length; rw [List.length_set, List.length_set]; exact hlt) (by omega) (.int .i64 (S.turn + 1)) (setI S.now (S.turn + 1) (lnth S.L k)) (by show _ = (okC (lnth ((S.L.set k _).set k _) k)).set _ _; rw [List.set_set, hnk]; rfl)
        have OUT := vl (OmOut.same (S := ⟨S.many, S.last, S.now, S.turn + 1, S.L.set k (setI S.now (S.turn + 1) (lnth S.L k))⟩) (by
          have e := A4.1
          have e2 : ((S.L.set k ⟨(lnth S.L k).id, (lnth S.L k).to, false, (lnth S.L k).at_, (lnth S.L k).turn⟩).set k ⟨(lnth S.L k).id, (lnth S.L k).to, false, S.now, (lnth S.L k).turn⟩).set k (setI S.now (S.turn + 1) (lnth S.L k)) = S.L.set k (setI S.now (S.turn + 1) (lnth S.L k)) := by rw [List.set_set, List.set_set]
          unfold withL at e
          dsimp only at e
          rw [e2] at e
          exact e) (lTn_trans (lTn_trans (lTn_trans A1.2 A2.2) A3.2) A4.2))
        have hne : ¬ (rb = g) := by omega
        have hne' : ¬ (g = rb) := by omega
        clear HD hbu A1 A2 A3 A4 hnk hbz HM HDR HK HN HNO
        go_wp2_with fail
        go_region
        go_wp2_with fail
        go_region
        go_wp2
        go_ret
        rw [HB.out]
        refine ⟨rfl, ?_⟩
        exact OUT.out.drew.drew
end Go.Proofs.YtibjbdcmhjbndaaDoor
/-
  CONNECTIONS TO PLACES, as the document's answer keeps them: the time goes on. No claim by itself.
-/
namespace Go.Proofs.YtibjbdcmhjbndaaDoor
open Go Go.RowKit
set_option maxRecDepth 100000
/-- Where the new one stands among the sorted. -/
structure Ins (zs : List Int) (x : Int) (k : Nat) (M : List Int) : Prop where
  eq : M = zs.take k ++ x :: zs.drop k
  up : ∀ y ∈ zs.drop k, x < y
  le : k ≤ zs.length
theorem ins_new (zs : List Int) (x : Int) : Ins zs x zs.length (zs ++ [x]) := ⟨by simp, by simp, Nat.le_refl _⟩
section
variable {zs M : List Int} {x : Int} {k : Nat} (h : Ins zs x k M)
include h
theorem Ins.len : M.length = zs.length + 1 := by rw [h.eq]; have := h.le; simp; omega
theorem Ins.here : M.getD k 0 = x := by
  rw [h.eq, List.getD, List.getElem?_append_right (by rw [List.length_take]; omega), List.length_take, Nat.min_eq_left h.le]
  simp
theorem Ins.below (hk : 0 < k) : M.getD (k - 1) 0 = zs.getD (k - 1) 0 := by
  have := h.le
  rw [h.eq, List.getD, List.getElem?_append_left (by rw [List.length_take]; omega), List.getElem?_take_of_lt (by omega), List.getD]
theorem Ins.perm : M.Perm (x :: zs) := by
  rw [h.eq]
  have e : zs.take k ++ zs.drop k = zs := List.take_append_drop k zs
  exact List.perm_middle.trans (by rw [e])
theorem Ins.swap (hk : 0 < k) (hlt : x < zs.getD (k - 1) 0) : Ins zs x (k - 1) ((M.set (k - 1) x).set k (zs.getD (k - 1) 0)) := by
  have hle := h.le
  obtain ⟨j, rfl⟩ : ∃ j, k = j + 1 := ⟨k - 1, by omega⟩
  rw [Nat.add_sub_cancel] at hlt ⊢
  have hj : j < zs.length := by omega
  have e1 : zs.take (j + 1) = zs.take j ++ [zs.getD j 0] := by rw [List.take_succ_eq_append_getElem hj, List.getD, List.getElem?_eq_getElem hj]; rfl
  have e2 : zs.drop j = zs.getD j 0 :: zs.drop (j + 1) := by rw [List.drop_eq_getElem_cons hj, List.getD, List.getElem?_eq_getElem hj]; rfl
  refine ⟨?_, ?_, by omega⟩
  · rw [h.eq, e1, e2, List.append_assoc]
    have hl : (zs.take j).length = j := by rw [List.length_take]; omega
    generalize zs.take j = A at hl ⊢
    subst hl
    simp
  · intro y hy
    rw [e2] at hy
    rcases List.mem_cons.1 hy with rfl | hy
    · exact hlt
    · exact h.up y hy
theorem Ins.done (hz : zs.Pairwise (· ≤ ·)) (hs : k = 0 ∨ ¬ x < zs.getD (k - 1) 0) : M.Pairwise (· ≤ ·) := by
  rw [h.eq]
  have hz' : (zs.take k ++ zs.drop k).Pairwise (· ≤ ·) := by rw [List.take_append_drop]; exact hz
  obtain ⟨h1, h2, h3⟩ := List.pairwise_append.1 hz'
  refine List.pairwise_append.2 ⟨h1, List.pairwise_cons.2 ⟨fun y hy => Int.le_of_lt (h.up y hy), h2⟩, fun a ha b hb => ?_⟩
  have hax : a ≤ x := by
    rcases hs with rfl | hs
    · simp at ha
    · have hle := h.le
      have hk : 0 < k := by
        rcases Nat.eq_zero_or_pos k with e | e
        · subst e; simp at ha
        · exact e
      obtain ⟨i, hi, e⟩ := List.getElem_of_mem ha
      rw [List.length_take] at hi
      rw [List.getElem_take] at e
      have hlast : zs.getD (k - 1) 0 = zs[k - 1]'(by omega) := by rw [List.getD, List.getElem?_eq_getElem (by omega)]; rfl
      rw [hlast] at hs
      have : zs[i]'(by omega) ≤ zs[k - 1]'(by omega) := by
        rcases Nat.lt_or_ge i (k - 1) with h5 | h5
        · exact List.pairwise_iff_getElem.1 hz i (k - 1) (by omega) (by omega) h5
        · have : i = k - 1 := by omega
          subst this
          exact Int.le_refl _
      omega
  rcases List.mem_cons.1 hb with rfl | hb
  · exact hax
  · exact h3 a ha b hb
end
/-- Two rows of the call's own. -/
structure TkO (w1 W : World) (v8 v9 : Value) (zs : List Int) (M : LL) : Prop where
  bel : Below w1.heap.size w1 W
  r8 : W.ownsRow w1.heap.size 3 1 v8 zs.length (zs.map (Value.int .i64))
  r9 : W.ownsRow w1.heap.size 48 5 v9 M.length (okCells M)
  apart : ∀ k, v8.ownBlock = some k → v9.ownBlock = some k → False
theorem rowi_kept {w w' : World} {base n : Nat} {v : Value} {xs : List Value} (h : w.ownsRow base 3 1 v n xs) (hk : ∀ k, v.ownBlock = some k → w'.heap[k]? = w.heap[k]?) : w'.ownsRow base 3 1 v n xs := by
  obtain ⟨h1, h2 | ⟨g, cap, cur, hv, hg, hc, r⟩⟩ := h
  · exact ⟨h1, Or.inl h2⟩
  · exact ⟨h1, Or.inr ⟨g, cap, cur, hv, hg, (hk g (by rw [hv]; rfl)).trans hc, r⟩⟩
section
variable {w1 W W' w' : World} {v8 v9 : Value} {zs : List Int} {M : LL} (h : TkO w1 W v8 v9 zs M)
include h
theorem TkO.below (hb : Below W.heap.size W W') : TkO w1 W' v8 v9 zs M :=
  ⟨h.bel.trans (hb.mono h.bel.size), rowi_kept h.r8 (fun k hk => hb.block k (h.r8.lt k hk).2), rowo_kept h.r9 (fun k hk => hb.block k (h.r9.lt k hk).2), h.apart⟩
theorem TkO.app8 {g cap n : Nat} {x : Int} (hn : n = (zs ++ [x]).length) (hr : w'.ownsRow w1.heap.size 3 1 (.slice (some ⟨g, 0, none⟩) n cap) n (zs.map (Value.int .i64) ++ [.int .i64 x])) (hg : W.grownBy w' v8.ownBlock) (hw : v8.ownBlock = some g ∨ g = W.heap.size) :
    TkO w1 w' (.slice (some ⟨g, 0, none⟩) n cap) v9 (zs ++ [x]) M := by
  subst hn
  refine ⟨lbelow_grown h.bel hg h.bel.size (fun k e => (h.r8.lt k e).1), by rw [List.map_append]; exact hr, rowo_kept h.r9 (fun k hk => hg.block k (h.r9.lt k hk).2 (fun e => h.apart k e.symm hk)), fun k e1 e2 => ?_⟩
  have e1 : g = k := by simpa [Value.ownBlock] using e1
  subst e1
  rcases hw with e | e
  · exact h.apart g e e2
  · have := (h.r9.lt g e2).2
    omega
theorem TkO.app9 {g cap n : Nat} {o : Lk} (hn : n = (M ++ [o]).length) (hr : w'.ownsRow w1.heap.size 48 5 (.slice (some ⟨g, 0, none⟩) n cap) n (okCells M ++ okC o)) (hg : W.grownBy w' v9.ownBlock) (hw : v9.ownBlock = some g ∨ g = W.heap.size) :
    TkO w1 w' v8 (.slice (some ⟨g, 0, none⟩) n cap) zs (M ++ [o]) := by
  subst hn
  refine ⟨lbelow_grown h.bel hg h.bel.size (fun k e => (h.r9.lt k e).1), rowi_kept h.r8 (fun k hk => hg.block k (h.r8.lt k hk).2 (fun e => h.apart k hk e.symm)), by rw [okCells_append]; simpa [okCells] using hr, fun k e1 e2 => ?_⟩
  have e2 : g = k := by simpa [Value.ownBlock] using e2
  subst e2
  rcases hw with e | e
  · exact h.apart g e1 e
  · have := (h.r8.lt g e1).2
    omega
end
theorem TkO.set8 {w1 W : World} {g cap n : Nat} {v9 : Value} {zs : List Int} {M : LL} (h : TkO w1 W (.slice (some ⟨g, 0, none⟩) n cap) v9 zs M) (j : Nat) (x : Int) :
    TkO w1 (W.setCell ⟨g, j, none⟩ (.int .i64 x)) (.slice (some ⟨g, 0, none⟩) n cap) v9 (zs.set j x) M := by
  have hT : Tn (fun k => k = g) W (W.setCell ⟨g, j, none⟩ (.int .i64 x)) := tn_set rfl
  have hg := h.r8.lt g rfl
  have hn : n = zs.length := by
    rcases h.r8.2 with ⟨e, _⟩ | ⟨_, _, _, e, _⟩
    · cases e
    · simp only [Value.slice.injEq] at e
      exact e.2.1
  subst hn
  refine ⟨Tn.below h.bel hT h.bel.size (fun i hi => by omega), ?_, rowo_kept h.r9 (fun k hk => hT.block k (h.r9.lt k hk).2 (fun e => h.apart k (by rw [e]; rfl) hk)), h.apart⟩
  have := (h.r8.stored j (.int .i64 x)).1
  rw [List.length_set, List.map_set]
  exact this
/-- What a row of numbers looks like. -/
theorem TkO.reads {w1 W : World} {v8 v9 : Value} {zs : List Int} {M : LL} (h : TkO w1 W v8 v9 zs M) :
    ∃ a c, v8 = .slice a zs.length c ∧ zs.length ≤ c ∧ c ≤ maxLen ∧ ∀ j, j < zs.length → ∃ g, a = some ⟨g, 0, none⟩ ∧ g < W.heap.size ∧ w1.heap.size ≤ g ∧ W.cell? ⟨g, j, none⟩ = some (.int .i64 (zs.getD j 0)) ∧ W.frozen? ⟨g, j, none⟩ = false := by
  have h0 := h.r8
  obtain ⟨h1, ⟨hv, h2⟩ | ⟨g, cap, cur, hv, hg, hc, h3, h4, r⟩⟩ := h.r8
  · exact ⟨none, 0, by rw [hv, h2], by omega, by decide, fun t ht => by omega⟩
  · have hlt : g < W.heap.size := by
      rcases Nat.lt_or_ge g W.heap.size with h5 | h5
      · exact h5
      · rw [Array.getElem?_eq_none h5] at hc; cases hc
    rw [hv] at h0
    refine ⟨_, cap, hv, h3, h4, fun j hj => ⟨g, rfl, hlt, hg, ?_, h0.frozenAt _⟩⟩
    rw [h0.cellAt j (by omega), List.getElem?_map, List.getElem?_eq_getElem hj, List.getD, List.getElem?_eq_getElem hj]
    rfl
theorem lnews_five (w : World) (x0 x1 x2 x3 x4 : Value) : ∀ j u, [x0, x1, x2, x3, x4][j]? = some u → (w.alloc (.cells #[x0, x1, x2, x3, x4] 48)).cell? ((⟨w.heap.size, 0, none⟩ : Addr).add j) = some u :=
  World.news_of_block (heap_alloc_new w (.cells #[x0, x1, x2, x3, x4] 48))
end Go.Proofs.YtibjbdcmhjbndaaDoor
