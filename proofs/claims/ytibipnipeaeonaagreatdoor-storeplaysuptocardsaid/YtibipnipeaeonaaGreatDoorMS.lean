/-
  WHAT WAS ANSWERED, as the document's answer has it: a store in memory. No claim by itself.
-/
import Derived.Deep.AppendLies
import Derived.Deep.RegionHeld3
import Derived.Test.YtibipnipeaeonaaGreatDoorSr4X
import Derived.Test.YtibipnipeaeonaaGreatDoorMF
namespace Go.Proofs.YtibipnipeaeonaaGreatDoor
open Go Go.RowKit
set_option maxRecDepth 100000
def dcells (D : List DK) : List Value := D.flatMap DK.cells
theorem dcells_len (L : List DK) : (dcells L).length = L.length * 9 := by
  induction L with
  | nil => rfl
  | cons o r ih => unfold dcells at *; rw [List.flatMap_cons, List.length_append, ih, List.length_cons]; simp [DK.cells]; omega
def dk0 : DK := ⟨⟨⟨#[]⟩, ⟨#[]⟩, ⟨#[]⟩, none, 0, 0, none, 0, 0, [], []⟩, ⟨0, none, 0, 0, none, 0, 0, [], []⟩, 0⟩
def dnth (D : List DK) (k : Nat) : DK := D.getD k dk0
theorem dnth_at {D : List DK} {k : Nat} (h : k < D.length) : D[k]'h = dnth D k := by simp [dnth, List.getD, List.getElem?_eq_getElem h]
theorem dcells_at (L : List DK) (t q : Nat) (ht : t < L.length) (hq : q < 9) : (dcells L)[t * 9 + q]? = (dnth L t).cells[q]? := by
  induction L generalizing t with
  | nil => simp at ht
  | cons o r ih =>
    have e : dcells (o :: r) = o.cells ++ dcells r := rfl
    have hl : o.cells.length = 9 := rfl
    rw [e]
    cases t with
    | zero => rw [Nat.zero_mul, Nat.zero_add, List.getElem?_append_left (by omega)]; rfl
    | succ t =>
      rw [List.getElem?_append_right (by omega), hl, show (t + 1) * 9 + q - 9 = t * 9 + q by omega, ih t (by simpa using ht)]
      rfl
theorem dcells_append (A B : List DK) : dcells (A ++ B) = dcells A ++ dcells B := by unfold dcells; rw [List.flatMap_append]
theorem dtake_nth (D : List DK) (k : Nat) (h : k < D.length) : D.take (k + 1) = D.take k ++ [dnth D k] := by
  rw [← dnth_at h, List.take_succ_eq_append_getElem h]
/-- The cells of one of them, in memory. -/
def DAt (w : World) (g o : Nat) (d : DK) : Prop :=
  w.cell? ⟨g, o, none⟩ = some (.string d.q.m) ∧ w.cell? ⟨g, o + 1, none⟩ = some (.string d.q.p) ∧ w.cell? ⟨g, o + 2, none⟩ = some (.string d.q.h) ∧ w.cell? ⟨g, o + 3, none⟩ = some (.slice d.q.fa d.q.fn d.q.fc) ∧ w.cell? ⟨g, o + 4, none⟩ = some (.slice d.q.ba d.q.bn d.q.bc) ∧
  w.cell? ⟨g, o + 5, none⟩ = some (.int .i64 d.r.code) ∧ w.cell? ⟨g, o + 6, none⟩ = some (.slice d.r.fa d.r.fn d.r.fc) ∧ w.cell? ⟨g, o + 7, none⟩ = some (.slice d.r.ba d.r.bn d.r.bc) ∧ w.cell? ⟨g, o + 8, none⟩ = some (.int .i64 d.at_)
theorem DAt.kept {w w' : World} {g o : Nat} {d : DK} (h : DAt w g o d) (e : w'.heap[g]? = w.heap[g]?) : DAt w' g o d := by
  have ec : ∀ j, w'.cell? ⟨g, j, none⟩ = w.cell? ⟨g, j, none⟩ := fun j => World.cell?_of_block (a := ⟨g, j, none⟩) e
  unfold DAt at *
  simp only [ec]
  exact h
/-- A row of them that is read, wherever it begins. -/
def DRow (w : World) (lo : Nat) (v : Value) (D : List DK) : Prop :=
  (v = .slice none 0 0 ∧ D = []) ∨ ∃ g off cap, v = .slice (some ⟨g, off, none⟩) D.length cap ∧ lo ≤ g ∧ g < w.heap.size ∧ D.length ≤ cap ∧ cap ≤ maxLen ∧ ∀ t, t < D.length → DAt w g (off + t * 9) (dnth D t)
theorem DRow.kept {w w' : World} {lo : Nat} {v : Value} {D : List DK} (h : DRow w lo v D) (hs : w.heap.size ≤ w'.heap.size) (e : ∀ k, lo ≤ k → k < w.heap.size → w'.heap[k]? = w.heap[k]?) : DRow w' lo v D := by
  rcases h with h | ⟨g, off, cap, h1, h2, h3, h4, h5, h6⟩
  · exact Or.inl h
  · exact Or.inr ⟨g, off, cap, h1, h2, by omega, h4, h5, fun t ht => (h6 t ht).kept (e g h2 h3)⟩
theorem DRow.shape {w : World} {lo : Nat} {v : Value} {D : List DK} (h : DRow w lo v D) : ∃ a c, v = .slice a D.length c ∧ D.length ≤ c ∧ c ≤ maxLen ∧ ∀ t, t < D.length → ∃ g off, a = some ⟨g, off, none⟩ ∧ lo ≤ g ∧ g < w.heap.size ∧ DAt w g (off + t * 9) (dnth D t) := by
  rcases h with ⟨rfl, rfl⟩ | ⟨g, off, cap, h1, h2, h3, h4, h5, h6⟩
  · exact ⟨none, 0, rfl, Nat.le_refl _, by decide, fun t ht => by cases ht⟩
  · exact ⟨_, cap, h1, h4, h5, fun t ht => ⟨g, off, rfl, h2, h3, h6 t ht⟩⟩
/-- A row that a call builds. -/
abbrev DOwn (w : World) (base : Nat) (v : Value) (D : List DK) : Prop := w.ownsRow base 46 9 v D.length (dcells D)
theorem down_nil (w : World) (base : Nat) : DOwn w base (.slice none 0 0) [] := World.ownsRow_nil _ _ _ _
theorem down_below {base : Nat} {w w' : World} {v : Value} {D : List DK} (h : DOwn w base v D) (hb : Below w.heap.size w w') : DOwn w' base v D := by
  obtain ⟨h1, ⟨rfl, h0⟩ | ⟨g, cap, cur, rfl, hg, hc, hr⟩⟩ := id h
  · exact ⟨h1, Or.inl ⟨rfl, h0⟩⟩
  · exact ⟨h1, Or.inr ⟨g, cap, cur, rfl, hg, (hb.block g (Array.getElem?_eq_some_iff.1 hc).1).trans hc, hr⟩⟩
theorem down_row {w : World} {base : Nat} {v : Value} {D : List DK} (h : DOwn w base v D) : DRow w base v D := by
  have h0 := h
  obtain ⟨h1, ⟨hv, h2⟩ | ⟨g, cap, cur, hv, hg, hc, h3, h4, r⟩⟩ := h
  · exact Or.inl ⟨hv, List.length_eq_zero_iff.1 h2⟩
  · refine Or.inr ⟨g, 0, cap, hv, hg, (Array.getElem?_eq_some_iff.1 hc).1, h3, h4, fun t ht => ?_⟩
    rw [hv] at h0
    have hx : ∀ q, q < 9 → w.cell? ⟨g, t * 9 + q, none⟩ = (dnth D t).cells[q]? := fun q hq => by
      rw [h0.cellAt (t * 9 + q) (by omega), dcells_at D t q ht hq]
    rw [Nat.zero_add]
    exact ⟨hx 0 (by omega), hx 1 (by omega), hx 2 (by omega), hx 3 (by omega), hx 4 (by omega), hx 5 (by omega), hx 6 (by omega), hx 7 (by omega), hx 8 (by omega)⟩
/-- The first is left out. -/
theorem DRow.rest {w : World} {lo : Nat} {g off cap : Nat} {d : DK} {D : List DK} (h : DRow w lo (.slice (some ⟨g, off, none⟩) (D.length + 1) cap) (d :: D)) (hc : 1 < cap) : DRow w lo (.slice (some ⟨g, off + 9, none⟩) D.length (cap - 1)) D := by
  rcases h with ⟨h, _⟩ | ⟨g2, off2, cap2, h1, h2, h3, h4, h5, h6⟩
  · cases h
  · simp only [Value.slice.injEq, Option.some.injEq, Addr.mk.injEq] at h1
    obtain ⟨⟨rfl, rfl, _⟩, _, rfl⟩ := h1
    rw [List.length_cons] at h4
    refine Or.inr ⟨g, off + 9, cap - 1, rfl, h2, h3, by omega, by omega, fun t ht => ?_⟩
    have := h6 (t + 1) (by rw [List.length_cons]; omega)
    rw [show off + (t + 1) * 9 = off + 9 + t * 9 by omega] at this
    exact this
theorem infoDK : (Tryz.prog.info? 46).map (fun i => (i.zero, i.size, i.bytes)) = some (some (.agg #[.string ⟨#[]⟩, .string ⟨#[]⟩, .string ⟨#[]⟩, .slice none 0 0, .slice none 0 0, .int .i64 0, .slice none 0 0, .slice none 0 0, .int .i64 0]), 9, 160) := by kernel_rfl
theorem dk_one (d : DK) : ∀ u ∈ d.cells, u.oneCell' = true := by
  intro u hu
  simp [DK.cells] at hu
  rcases hu with rfl | rfl | rfl | rfl | rfl | rfl | rfl | rfl | rfl <;> rfl
theorem wpList_dapp {ops : Array Oper} {rest : List Oper} {o : Oper} {a : Act} {Q : Exit → Act → World → Prop} (w : World) (hgd : o.guard = none) (s x : Operand)
    (ho : o.op = .call { callee := .builtin .append, args := #[s, x], argTypes := #[28, 28] }) (base : Nat) (v : Value) (D : List DK) (d : DK) (hs : a.eval s = v) (hown : DOwn w base v D)
    (hx : a.eval x = .slice (some ⟨w.heap.size, 0, none⟩) 1 1) (hlen : D.length < 4194304) (hbase : base ≤ w.heap.size)
    (h : ∀ v' w', DOwn w' base v' (D ++ [d]) → (w.alloc (.cells d.cells.toArray 46)).grownBy w' v.ownBlock → wpList Tryz.prog ops Q rest (a.put o.dst v') w') : wpList Tryz.prog ops Q (o :: rest) a (w.alloc (.cells d.cells.toArray 46)) := by
  obtain ⟨i0, hi, hz0, hz1, hz2⟩ := info_parts infoDK
  refine wpList_append_own _ hgd s x 28 ho base 46 i0 (.agg #[.string ⟨#[]⟩, .string ⟨#[]⟩, .string ⟨#[]⟩, .slice none 0 0, .slice none 0 0, .int .i64 0, .slice none 0 0, .slice none 0 0, .int .i64 0]) 9 160 Tryz.underlying28 hi hz0 hz1 hz2 rfl (by decide) v D.length _ hs (hown.alloc _) ⟨w.heap.size, 0, none⟩ 1 1 d.cells hx rfl (World.news_of_block (heap_alloc_new w _)) (dk_one d) (by unfold maxLen; omega) (by omega) (by rw [World.size_alloc]; omega) ?_
  intro v' w' h1 h2 _
  refine h v' w' ?_ h2
  show World.ownsRow _ _ _ _ _ _ _
  rw [show (D ++ [d]).length = D.length + 1 by simp, dcells_append]
  have e : dcells [d] = d.cells := by simp [dcells]
  rw [e]
  exact h1
/-- The document's store, in memory. -/
structure DSt (w : World) (ab : Nat) (v : Value) (lo : Nat) (D : List DK) : Prop where
  box : w.heap[ab]? = some (.cells #[v] 30 (0, 0))
  row : DRow w lo v D
  abs : lo ≤ ab
  far : ∀ k, v.ownBlock = some k → k ≠ ab
theorem DSt.lt {w : World} {ab lo : Nat} {v : Value} {D : List DK} (h : DSt w ab v lo D) : ab < w.heap.size := (Array.getElem?_eq_some_iff.1 h.box).1
theorem DSt.cell {w : World} {ab lo : Nat} {v : Value} {D : List DK} (h : DSt w ab v lo D) : w.cell? ⟨ab, 0, none⟩ = some v := by rw [cell_of_row _ _ _ _ _ _ h.box]; rfl
theorem DSt.fro {w : World} {ab lo : Nat} {v : Value} {D : List DK} (h : DSt w ab v lo D) (j : Nat) : w.frozen? ⟨ab, j, none⟩ = false := frozen_of_row w ab j _ _ h.box
theorem DRow.own {w : World} {lo : Nat} {v : Value} {D : List DK} (h : DRow w lo v D) : ∀ k, v.ownBlock = some k → lo ≤ k ∧ k < w.heap.size := by
  rcases h with ⟨rfl, _⟩ | ⟨g, off, cap, rfl, h2, h3, _⟩
  · intro k hk; cases hk
  · intro k hk
    have hk' : some g = some k ∨ (Value.slice (some ⟨g, off, none⟩) D.length cap).ownBlock = none := by
      unfold Value.ownBlock at hk ⊢
      first
        | (left; exact hk)
        | (simp at hk ⊢; omega)
    rcases hk' with hk' | hk'
    · cases hk'; exact ⟨h2, h3⟩
    · rw [hk'] at hk; cases hk
theorem DRow.low {w : World} {lo lo' : Nat} {v : Value} {D : List DK} (h : DRow w lo v D) (hl : lo' ≤ lo) : DRow w lo' v D := by
  rcases h with h | ⟨g, off, cap, h1, h2, h3⟩
  · exact Or.inl h
  · exact Or.inr ⟨g, off, cap, h1, by omega, h3⟩
/-- A row is laid into the store. -/
theorem DSt.put {w : World} {ab lo base : Nat} {v0 v' : Value} {X : List DK} (hb : w.heap[ab]? = some (.cells #[v0] 30 (0, 0))) (hr : DRow w base v' X) (hab : ab < base) (hlo : lo ≤ ab) :
    DSt (w.setCell ⟨ab, 0, none⟩ v') ab v' lo X ∧ Tn (fun k => k = ab) w (w.setCell ⟨ab, 0, none⟩ v') := by
  have hT : Tn (fun k => k = ab) w (w.setCell ⟨ab, 0, none⟩ v') := tn_set rfl
  exact ⟨⟨heap_setCell_same w ab 0 _ _ v' hb, (hr.kept hT.size (fun k h1 h2 => hT.block k h2 (by omega))).low (by omega), hlo, fun k hk => by have := (hr.own k hk).1; omega⟩, hT⟩
end Go.Proofs.YtibipnipeaeonaaGreatDoor
/-
  WHAT WAS ANSWERED, as the document's answer has it: Get. No claim by itself.
-/
namespace Go.Proofs.YtibipnipeaeonaaGreatDoor
open Go Go.RowKit
set_option maxRecDepth 100000
def getM : List Int := [71, 69, 84]
/-- A kept one may be told. -/
def hitD (q : RqM) (now : Int) (d : DK) : Prop := unums q.m = getM ∧ fitD d q ∧ d.at_ ≤ now ∧ now - d.at_ < (lifeR (fdsOf d.r.FL) : Nat)
def GetI (D : List DK) (q : RqM) (now i : Int) : Prop := (i = -1 ∧ ∀ s, s < D.length → ¬ hitD q now (dnth D s)) ∨ ∃ t : Nat, i = t ∧ t < D.length ∧ hitD q now (dnth D t) ∧ ∀ s, t < s → s < D.length → ¬ hitD q now (dnth D s)
/-- What lies in memory of a kept one; of a request. -/
structure DIn (w : World) (d : DK) : Prop where
  ka : FArg w d.q.fa d.q.fn d.q.fc d.q.FL
  kr : FArg w d.r.fa d.r.fn d.r.fc d.r.FL
  kn : d.q.fn ≤ 4398046511104
  rn : d.r.fn ≤ 4398046511104
  rs : ∀ t, (d.r.FL.getD t fnone).2.size ≤ 140737488351232
  time : 0 ≤ d.at_ ∧ d.at_ ≤ 1000000
  rp : RpIn w d.r
theorem DIn.below {w w' : World} {d : DK} (h : DIn w d) (hb : Below w.heap.size w w') : DIn w' d := ⟨h.ka.below hb, h.kr.below hb, h.kn, h.rn, h.rs, h.time, h.rp.below hb⟩
structure QIn (w : World) (q : RqM) : Prop where
  qa : FArg w q.fa q.fn q.fc q.FL
  qn : q.fn ≤ 4398046511104
theorem QIn.below {w w' : World} {q : RqM} (h : QIn w q) (hb : Below w.heap.size w w') : QIn w' q := ⟨h.qa.below hb, h.qn⟩
theorem DIn.fit {w : World} {d : DK} {q : RqM} (h : DIn w d) (k : QIn w q) : FitIn w d q := ⟨h.ka, h.kr, k.qa, h.kn, h.rn, k.qn, h.rs⟩
theorem dat_new (w : World) (d : DK) : DAt (w.alloc (.cells d.cells.toArray 46)) w.heap.size 0 d := by
  have hx : (w.alloc (.cells d.cells.toArray 46)).heap[w.heap.size]? = some (.cells d.cells.toArray 46 (0, 0)) := heap_alloc_new w _
  unfold DAt
  simp only [cell_of_row _ _ _ _ _ _ hx]
  exact ⟨rfl, rfl, rfl, rfl, rfl, rfl, rfl, rfl, rfl⟩
set_option maxHeartbeats 8000000 in
theorem rget_any {w : World} {ab lo : Nat} {v : Value} {D : List DK} (h : DSt w ab v lo D) (hl : D.length ≤ 21) (q : RqM) (now : Int) (hD : ∀ d ∈ D, DIn w d) (hQ : QIn w q) (hn : 0 ≤ now ∧ now ≤ 1000000) :
    Calls Tryz.prog 9 #[.pointer (some ⟨ab, 0, none⟩), q.val, .int .i64 now] w fun e w' => ∃ i, e = .returned (.int .i64 i) ∧ GetI D q now i ∧ Below w.heap.size w w' := by
  obtain ⟨W1, hW1⟩ : ∃ x, w.alloc (.cells #[.string q.m, .string q.p, .string q.h, .slice q.fa q.fn q.fc, .slice q.ba q.bn q.bc] 36) = x := ⟨_, rfl⟩
  have hB1 : Below w.heap.size w W1 := by rw [← hW1]; exact (Below.refl _ w).alloc (Nat.le_refl _) _
  have hs1 : W1.heap.size = w.heap.size + 1 := by rw [← hW1]; simp
  have k1 : W1.heap[w.heap.size]? = some (.cells #[.string q.m, .string q.p, .string q.h, .slice q.fa q.fn q.fc, .slice q.ba q.bn q.bc] 36 (0, 0)) := by rw [← hW1]; exact heap_alloc_new w _
  have HQB : Vl (W1.cell? ⟨w.heap.size, 0, none⟩ = some (.string q.m) ∧ W1.cell? ⟨w.heap.size, 1, none⟩ = some (.string q.p) ∧ W1.cell? ⟨w.heap.size, 2, none⟩ = some (.string q.h) ∧ W1.cell? ⟨w.heap.size, 3, none⟩ = some (.slice q.fa q.fn q.fc) ∧ W1.cell? ⟨w.heap.size, 4, none⟩ = some (.slice q.ba q.bn q.bc)) := vl (by
    simp only [cell_of_row _ _ _ _ _ _ k1]
    exact ⟨rfl, rfl, rfl, rfl, rfl⟩)
  have HSZ : Vl (w.heap.size < W1.heap.size) := vl (by omega)
  have HB1 := vl hB1
  have hlt := h.lt
  have e0 : W1.heap[ab]? = w.heap[ab]? := hB1.block ab hlt
  have c0 : W1.cell? ⟨ab, 0, none⟩ = some v := (World.cell?_of_block (a := ⟨ab, 0, none⟩) e0).trans h.cell
  have hrow : DRow W1 lo v D := h.row.kept hB1.size (fun k _ hk => hB1.block k hk)
  obtain ⟨va, vc, rfl, hvc, hvm, hrd⟩ := hrow.shape
  have HRD := vl hrd
  have HC0 := vl c0
  have hab : Vl (ab < W1.heap.size) := vl (by omega)
  have HD := vl (fun d hd => (hD d hd).below hB1)
  have HQ := vl (hQ.below hB1)
  have HLE := vl hvc
  unfold maxLen at hvm
  unfold RqM.val
  clear h hD hQ hB1 hs1 k1 e0 hrow hrd hlt
  go_enter Tryz.func9, Tryz.ntmps9
  go_wp2_with fail
  clear hW1 c0
  go_loopw [7, 8, 9, 10] (fun iv _ _ _ wr => ∃ i : Nat, iv = .int .i64 ((i : Int) - 1) ∧ i ≤ D.length ∧ Vl (∀ s, i ≤ s → s < D.length → ¬ hitD q now (dnth D s)) ∧ Vl (Below W1.heap.size W1 wr)) (fun iv _ _ _ _ => (intOf iv + 1).toNat)
  case atStart => exact ⟨D.length, rfl, Nat.le_refl _, vl (fun s h1 h2 => by omega), vl (Below.refl _ _)⟩
  case round =>
    obtain ⟨i, rfl, hi, HNO, HB⟩ := hrel
    by_cases hi0 : i = 0
    · have p1 : ¬ (0 ≤ (i : Int) - 1) := by omega
      have HG : Vl (GetI D q now (-1)) := vl (Or.inl ⟨rfl, fun s hs => HNO.out s (by omega) hs⟩)
      have HB9 := vl (HB1.out.trans (HB.out.mono HB1.out.size))
      clear hi0
      go_wp2
      go_ret
      exact ⟨_, rfl, HG.out, HB9.out⟩
    obtain ⟨t, rfl⟩ : ∃ t, i = t + 1 := ⟨i - 1, by omega⟩
    have et : ((t + 1 : Nat) : Int) - 1 = (t : Int) := by omega
    rw [et]
    have p1 : (0 : Int) ≤ (t : Int) := by omega
    have p2 : (t : Int) < (D.length : Int) := by omega
    have c0 : wr.cell? ⟨ab, 0, none⟩ = some (.slice va D.length vc) := (HB.out.cell (p := ⟨ab, 0, none⟩) hab.out).trans HC0.out
    obtain ⟨g, off, rfl, _, hg, hat⟩ := HRD.out t (by omega)
    have hin := (HD.out (dnth D t) (by rw [← dnth_at (show t < D.length by omega)]; exact List.getElem_mem _)).below HB.out
    have HAT := vl (hat.kept (HB.out.block g hg))
    have HTM := vl hin.time
    obtain ⟨d, hd⟩ : ∃ d, dnth D t = d := ⟨_, rfl⟩
    rw [hd] at HAT hin HTM
    have HDD := vl hd
    obtain ⟨WA, hWA⟩ : ∃ x, wr.alloc (.cells d.cells.toArray 46) = x := ⟨_, rfl⟩
    have hbA : Below wr.heap.size wr WA := by rw [← hWA]; exact (Below.refl _ wr).alloc (Nat.le_refl _) _
    have HNW : Vl (DAt WA wr.heap.size 0 d) := vl (by rw [← hWA]; exact dat_new wr d)
    have hsA : Vl (wr.heap.size < WA.heap.size ∧ w.heap.size < wr.heap.size) := vl ⟨by rw [← hWA]; simp, Nat.lt_of_lt_of_le HSZ.out HB.out.size⟩
    have HBA : Vl (Below W1.heap.size W1 WA) := vl (HB.out.trans (hbA.mono HB.out.size))
    have HFI := vl (rfits_any d q WA ((hin.below hbA).fit (HQ.out.below HBA.out)))
    have HLI := vl (fun (wx : World) (hb : Below WA.heap.size WA wx) => rlife_any d.r.code d.r.fa d.r.fn d.r.fc d.r.ba d.r.bn d.r.bc d.r.FL wx ((hin.below hbA).below hb).kr hin.rn hin.rs)
    have HQA : Vl (∀ wx, Below WA.heap.size WA wx → wx.cell? ⟨w.heap.size, 0, none⟩ = some (.string q.m) ∧ wx.cell? ⟨w.heap.size, 1, none⟩ = some (.string q.p) ∧ wx.cell? ⟨w.heap.size, 2, none⟩ = some (.string q.h) ∧ wx.cell? ⟨w.heap.size, 3, none⟩ = some (.slice q.fa q.fn q.fc) ∧ wx.cell? ⟨w.heap.size, 4, none⟩ = some (.slice q.ba q.bn q.bc)) := vl (fun wx hb => by
      have hz := HBA.out.trans (hb.mono HBA.out.size)
      have ec : ∀ j, wx.cell? ⟨w.heap.size, j, none⟩ = W1.cell? ⟨w.heap.size, j, none⟩ := fun j => hz.cell (p := ⟨w.heap.size, j, none⟩) HSZ.out
      simp only [ec]
      exact HQB.out)
    have HKA : Vl (∀ wx, Below WA.heap.size WA wx → DAt wx wr.heap.size 0 d) := vl (fun wx hb => HNW.out.kept (hb.block _ hsA.out.1))
    have ec : ∀ j, wr.cell? ⟨w.heap.size, j, none⟩ = W1.cell? ⟨w.heap.size, j, none⟩ := fun j => HB.out.cell (p := ⟨w.heap.size, j, none⟩) HSZ.out
    obtain ⟨u0, u1, u2, u3, u4⟩ := HQB.out
    rw [← ec] at u0 u1 u2 u3 u4
    have hql := hsA.out.2
    obtain ⟨y0, y1, y2, y3, y4, y5, y6, y7, y8⟩ := HAT.out
    obtain ⟨z0, z1, z2, z3, z4, z5, z6, z7, z8⟩ := HNW.out
    have HWA := vl hWA
    unfold DK.val RqM.val at HFI
    unfold DK.cells at HWA
    clear hat hin hd hbA hWA HAT hi0 et hg ec z0 z1 z2 z3 z4 z5 z6 z7 z8
    go_wp2_with fail
    rw [HWA.out]
    refine HFI.out.mono ?_
    rintro _ w3 ⟨⟨f, rfl, hf⟩, hb3⟩
    have HF := vl hf
    have HB3 := vl hb3
    obtain ⟨z0, z1, z2, z3, z4, z5, z6, z7, z8⟩ := HKA.out w3 hb3
    rw [Nat.zero_add] at z1 z2 z3 z4 z5 z6 z7 z8
    have HL3 := vl (HLI.out w3 hb3)
    clear hf hb3 HFI u0 u1 u2 u3 u4 y0 y1 y2 y3 y4 y5 y6 y7 y8 c0 HLI
    go_wp2_with fail
    refine HL3.out.mono ?_
    rintro _ w4 ⟨rfl, hb4⟩
    have HB4 : Vl (Below WA.heap.size WA w4) := vl (HB3.out.trans (hb4.mono HB3.out.size))
    have HB5 := vl (HBA.out.trans (HB4.out.mono HBA.out.size))
    have x0 := (HQA.out w4 HB4.out).1
    have x8 := (HKA.out w4 HB4.out).2.2.2.2.2.2.2.2
    rw [Nat.zero_add] at x8
    clear hb4 HL3 z0 z1 z2 z3 z4 z5 z6 z7 z8
    have HB9 := vl (HB1.out.trans (HB5.out.mono HB1.out.size))
    obtain ⟨L, hL⟩ : ∃ L : Nat, lifeR (fdsOf d.r.FL) = L := ⟨_, rfl⟩
    rw [hL]
    have HLL := vl hL
    clear hL
    have HIT : Vl (hitD q now d ↔ unums q.m = getM ∧ fitD d q ∧ d.at_ ≤ now ∧ now - d.at_ < (L : Int)) := vl (by unfold hitD; rw [HLL.out])
    obtain ⟨at_, hat⟩ : ∃ x, d.at_ = x := ⟨_, rfl⟩
    rw [hat] at x8 HIT HTM
    obtain ⟨tm1, tm2⟩ := HTM.out
    obtain ⟨n1, n2⟩ := hn
    have HNX : Vl (¬ hitD q now d → ∀ s, t ≤ s → s < D.length → ¬ hitD q now (dnth D s)) := vl (fun hh s h1 h2 => by
      by_cases e : s = t
      · subst e; rw [HDD.out]; exact hh
      · exact HNO.out s (by omega) h2)
    have HYX : Vl (hitD q now d → GetI D q now t) := vl (fun hh => Or.inr ⟨t, rfl, by omega, by rw [HDD.out]; exact hh, fun s h1 h2 => HNO.out s (by omega) h2⟩)
    clear hat HLL HDD
    by_cases g1 : unums q.m = getM
    case neg =>
      have g2 : (q.m.toList == [71, 69, 84]) = false := by rw [un_beqlit]; exact decide_eq_false g1
      have HN := vl (HNX.out (fun hh => g1 (HIT.out.1 hh).1))
      clear g1
      go_wp2
      go_roundw
      case rel => exact ⟨t, by go_num, by omega, HN, HB5⟩
      case measure => simp [intOf]
    have g2 : (q.m.toList == [71, 69, 84]) = true := by rw [un_beqlit]; exact decide_eq_true g1
    cases f with
    | false =>
      have HN := vl (HNX.out (fun hh => by have := HF.out.2 (HIT.out.1 hh).2.1; cases this))
      clear g1
      go_wp2
      go_roundw
      case rel => exact ⟨t, by go_num, by omega, HN, HB5⟩
      case measure => simp [intOf]
    | true =>
      by_cases a1 : at_ ≤ now
      case neg =>
        have HN := vl (HNX.out (fun hh => a1 (HIT.out.1 hh).2.2.1))
        clear g1
        go_wp2
        go_roundw
        case rel => exact ⟨t, by go_num, by omega, HN, HB5⟩
        case measure => simp [intOf]
      by_cases a2 : now - at_ < (L : Int)
      case neg =>
        have HN := vl (HNX.out (fun hh => a2 (HIT.out.1 hh).2.2.2))
        clear g1
        go_wp2
        go_roundw
        case rel => exact ⟨t, by go_num, by omega, HN, HB5⟩
        case measure => simp [intOf]
      have HG := vl (HYX.out (HIT.out.2 ⟨g1, HF.out.1 rfl, a1, a2⟩))
      clear g1
      go_wp2
      go_ret
      exact ⟨_, rfl, HG.out, HB9.out⟩
end Go.Proofs.YtibipnipeaeonaaGreatDoor
/-
  WHAT WAS ANSWERED, as the document's answer has it: Put. No claim by itself.
-/
namespace Go.Proofs.YtibipnipeaeonaaGreatDoor
open Go Go.RowKit
set_option maxRecDepth 100000
/-- A reply that is kept. -/
def okD (q : RqM) (a : RpM) : Prop := unums q.m = getM ∧ a.code = 200 ∧ 0 < lifeR (fdsOf a.FL)
open Classical in
noncomputable def keepD (q : RqM) (D : List DK) : List DK := D.filter fun d => decide (¬ fitD d q)
noncomputable def afterP (D : List DK) (q : RqM) (a : RpM) (now : Int) : List DK := if 20 < (keepD q D ++ [(⟨q, a, now⟩ : DK)]).length then (keepD q D ++ [(⟨q, a, now⟩ : DK)]).drop 1 else keepD q D ++ [(⟨q, a, now⟩ : DK)]
theorem keep_len (q : RqM) (D : List DK) : (keepD q D).length ≤ D.length := List.length_filter_le _ _
theorem keep_no {q : RqM} {D : List DK} {k : Nat} (h : k < D.length) (hf : fitD (dnth D k) q) : keepD q (D.take (k + 1)) = keepD q (D.take k) := by
  rw [dtake_nth D k h]
  unfold keepD
  rw [List.filter_append, List.filter_cons_of_neg (by simpa using hf)]
  simp
theorem keep_yes {q : RqM} {D : List DK} {k : Nat} (h : k < D.length) (hf : ¬ fitD (dnth D k) q) : keepD q (D.take (k + 1)) = keepD q (D.take k) ++ [dnth D k] := by
  rw [dtake_nth D k h]
  unfold keepD
  rw [List.filter_append, List.filter_cons_of_pos (by simpa using hf)]
  simp
/-- What Put leaves. -/
def PutE (w : World) (ab lo : Nat) (D : List DK) (q : RqM) (a : RpM) (now : Int) (e : Ending) (w' : World) : Prop :=
  (¬ okD q a ∧ e = .returned (.bool false) ∧ Below w.heap.size w w') ∨ (okD q a ∧ e = .returned (.bool true) ∧ ∃ v', DSt w' ab v' lo (afterP D q a now) ∧ Tn (fun k => k = ab) w w' ∧ ∀ k, v'.ownBlock = some k → w.heap.size ≤ k)
set_option maxHeartbeats 16000000 in
theorem rput_any {w : World} {ab lo : Nat} {v : Value} {D : List DK} (h : DSt w ab v lo D) (hl : D.length ≤ 21) (q : RqM) (a : RpM) (now : Int) (hD : ∀ d ∈ D, DIn w d) (hQ : QIn w q) (hA : FArg w a.fa a.fn a.fc a.FL) (hAn : a.fn ≤ 4398046511104) (hAs : ∀ t, (a.FL.getD t fnone).2.size ≤ 140737488351232) :
    Calls Tryz.prog 5 #[.pointer (some ⟨ab, 0, none⟩), q.val, a.val, .int .i64 now] w (PutE w ab lo D q a now) := by
  obtain ⟨cd, afa, afn, afc, aba, abn, abc, AL, AB⟩ := a
  dsimp only at hA hAn hAs
  obtain ⟨W1, hW1⟩ : ∃ x, w.alloc (.cells #[.string q.m, .string q.p, .string q.h, .slice q.fa q.fn q.fc, .slice q.ba q.bn q.bc] 36) = x := ⟨_, rfl⟩
  obtain ⟨W2, hW2⟩ : ∃ x, W1.alloc (.cells #[.int .i64 cd, .slice afa afn afc, .slice aba abn abc] 38) = x := ⟨_, rfl⟩
  have hB1 : Below w.heap.size w W1 := by rw [← hW1]; exact (Below.refl _ w).alloc (Nat.le_refl _) _
  have hB2 : Below W1.heap.size W1 W2 := by rw [← hW2]; exact (Below.refl _ W1).alloc (Nat.le_refl _) _
  have hs1 : W1.heap.size = w.heap.size + 1 := by rw [← hW1]; simp
  have hs2 : W2.heap.size = W1.heap.size + 1 := by rw [← hW2]; simp
  have k1 : W1.heap[w.heap.size]? = some (.cells #[.string q.m, .string q.p, .string q.h, .slice q.fa q.fn q.fc, .slice q.ba q.bn q.bc] 36 (0, 0)) := by rw [← hW1]; exact heap_alloc_new w _
  have k2 : W2.heap[W1.heap.size]? = some (.cells #[.int .i64 cd, .slice afa afn afc, .slice aba abn abc] 38 (0, 0)) := by rw [← hW2]; exact heap_alloc_new W1 _
  have k12 : W2.heap[w.heap.size]? = W1.heap[w.heap.size]? := hB2.block _ (by omega)
  have hb02 : Below w.heap.size w W2 := hB1.trans (hB2.mono hB1.size)
  have HQB : Vl (W2.cell? ⟨w.heap.size, 0, none⟩ = some (.string q.m) ∧ W2.cell? ⟨w.heap.size, 1, none⟩ = some (.string q.p) ∧ W2.cell? ⟨w.heap.size, 2, none⟩ = some (.string q.h) ∧ W2.cell? ⟨w.heap.size, 3, none⟩ = some (.slice q.fa q.fn q.fc) ∧ W2.cell? ⟨w.heap.size, 4, none⟩ = some (.slice q.ba q.bn q.bc)) := vl (by
    simp only [cell_of_row _ _ _ _ _ _ (k12.trans k1)]
    exact ⟨rfl, rfl, rfl, rfl, rfl⟩)
  have HAB : Vl (W2.cell? ⟨W1.heap.size, 0, none⟩ = some (.int .i64 cd) ∧ W2.cell? ⟨W1.heap.size, 1, none⟩ = some (.slice afa afn afc) ∧ W2.cell? ⟨W1.heap.size, 2, none⟩ = some (.slice aba abn abc)) := vl (by
    simp only [cell_of_row _ _ _ _ _ _ k2]
    exact ⟨rfl, rfl, rfl⟩)
  have HSZ : Vl (w.heap.size < W2.heap.size ∧ W1.heap.size < W2.heap.size) := vl (by omega)
  have HB2 := vl hb02
  have HLI := vl (fun (wx : World) (hb : Below W2.heap.size W2 wx) => rlife_any cd afa afn afc aba abn abc AL wx ((hA.below hb02).below hb) hAn hAs)
  have H := vl h
  have hlt := h.lt
  have e0 : W2.heap[ab]? = w.heap[ab]? := hb02.block ab hlt
  have c0 : W2.cell? ⟨ab, 0, none⟩ = some v := (World.cell?_of_block (a := ⟨ab, 0, none⟩) e0).trans h.cell
  have HBX : Vl (W2.heap[ab]? = some (.cells #[v] 30 (0, 0))) := vl (e0.trans h.box)
  have hrow : DRow W2 lo v D := h.row.kept hb02.size (fun k _ hk => hb02.block k hk)
  obtain ⟨va, vc, rfl, hvc, hvm, hrd⟩ := hrow.shape
  have HRD := vl hrd
  have HC0 := vl c0
  have hab : Vl (ab < W2.heap.size ∧ ab < w.heap.size) := vl ⟨Nat.lt_of_lt_of_le hlt hb02.size, hlt⟩
  have HD := vl (fun d hd => (hD d hd).below hb02)
  have HQ := vl (hQ.below hb02)
  have HLE := vl hvc
  unfold maxLen at hvm
  unfold RqM.val RpM.val
  dsimp only
  obtain ⟨u0, u1, u2, u3, u4⟩ := HQB.out
  obtain ⟨x0, x1, x2⟩ := HAB.out
  have HL0 := vl (HLI.out W2 (Below.refl _ _))
  obtain ⟨L, hL⟩ : ∃ L : Nat, lifeR (fdsOf AL) = L := ⟨_, rfl⟩
  rw [hL] at HL0
  have HOK : Vl (okD q ⟨cd, afa, afn, afc, aba, abn, abc, AL, AB⟩ ↔ unums q.m = getM ∧ cd = 200 ∧ 0 < L) := vl (by unfold okD; dsimp only; rw [hL])
  have HNE : Vl (∀ w', ¬ okD q ⟨cd, afa, afn, afc, aba, abn, abc, AL, AB⟩ → Below w.heap.size w w' → PutE w ab lo D q ⟨cd, afa, afn, afc, aba, abn, abc, AL, AB⟩ now (.returned (.bool false)) w') := vl (fun w' h1 h2 => Or.inl ⟨h1, rfl, h2⟩)
  have HYE : Vl (∀ w' v', okD q ⟨cd, afa, afn, afc, aba, abn, abc, AL, AB⟩ → DSt w' ab v' lo (afterP D q ⟨cd, afa, afn, afc, aba, abn, abc, AL, AB⟩ now) → Tn (fun k => k = ab) w w' → (∀ k, v'.ownBlock = some k → w.heap.size ≤ k) → PutE w ab lo D q ⟨cd, afa, afn, afc, aba, abn, abc, AL, AB⟩ now (.returned (.bool true)) w') := vl (fun w' v' h1 h2 h3 h4 => Or.inr ⟨h1, rfl, v', h2, h3, h4⟩)
  clear h hD hQ hA hAn hAs hB1 hB2 hs1 hs2 k1 k2 k12 hb02 e0 hrow hrd hlt hL HLI
  go_enter Tryz.func5, Tryz.ntmps5
  go_wp2_with fail
  clear hW1 hW2
  refine HL0.out.mono ?_
  rintro _ w3 ⟨rfl, hb3⟩
  have HB3 := vl hb3
  have HB9 := vl (HB2.out.trans (hb3.mono HB2.out.size))
  have ec : ∀ j, w3.cell? ⟨w.heap.size, j, none⟩ = W2.cell? ⟨w.heap.size, j, none⟩ := fun j => hb3.cell (p := ⟨w.heap.size, j, none⟩) HSZ.out.1
  have ea : ∀ j, w3.cell? ⟨W1.heap.size, j, none⟩ = W2.cell? ⟨W1.heap.size, j, none⟩ := fun j => hb3.cell (p := ⟨W1.heap.size, j, none⟩) HSZ.out.2
  rw [← ec] at u0
  rw [← ea] at x0
  clear hb3 HL0 ec ea u1 u2 u3 u4 x1 x2
  by_cases g1 : unums q.m = getM
  case neg =>
    have g2 : (q.m.toList == [71, 69, 84]) = false := by rw [un_beqlit]; exact decide_eq_false g1
    have HN := vl (HNE.out w3 (fun hh => g1 (HOK.out.1 hh).1) HB9.out)
    clear g1
    go_wp2
    go_ret
    exact HN.out
  have g2 : (q.m.toList == [71, 69, 84]) = true := by rw [un_beqlit]; exact decide_eq_true g1
  by_cases g3 : cd = 200
  case neg =>
    have g4 : (cd == 200) = false := by rw [beq_eq_false_iff_ne]; exact g3
    have g5 : (cd != 200) = true := by simpa using g3
    have HN := vl (HNE.out w3 (fun hh => g3 (HOK.out.1 hh).2.1) HB9.out)
    clear g1 g3
    go_wp2
    go_ret
    exact HN.out
  have g4 : (cd == 200) = true := by rw [beq_iff_eq]; exact g3
  have g7 : (cd != 200) = false := by simpa using g3
  by_cases g5 : L = 0
  · have g6 : ((L : Int) == 0) = true := by rw [beq_iff_eq]; omega
    have HN := vl (HNE.out w3 (fun hh => by have := (HOK.out.1 hh).2.2; omega) HB9.out)
    clear g1 g3 g5
    go_wp2
    go_ret
    exact HN.out
  have g6 : ((L : Int) == 0) = false := by rw [beq_eq_false_iff_ne]; omega
  have HYK : Vl (okD q ⟨cd, afa, afn, afc, aba, abn, abc, AL, AB⟩) := vl (HOK.out.2 ⟨g1, g3, by omega⟩)
  clear g1 g3 g5 c0
  obtain ⟨A, hA⟩ : ∃ x : RpM, (⟨cd, afa, afn, afc, aba, abn, abc, AL, AB⟩ : RpM) = x := ⟨_, rfl⟩
  rw [hA] at HYK HYE
  have HAE := vl hA
  clear hA HOK HNE
  go_wp2_with fail
  go_loopw [10, 11, 12] (fun lv iv _ wr => ∃ i : Nat, iv = .int .i64 i ∧ i ≤ D.length ∧ Vl (DOwn wr W2.heap.size lv (keepD q (D.take i))) ∧ Vl (Below W2.heap.size W2 wr)) (fun _ iv _ _ => D.length - (intOf iv).toNat)
  case atStart => exact ⟨0, rfl, Nat.zero_le _, down_nil _ _, HB3.out⟩
  case round =>
    obtain ⟨i, rfl, hi, HO, HB⟩ := hrel
    have c0 : wr.cell? ⟨ab, 0, none⟩ = some (.slice va D.length vc) := (HB.out.cell (p := ⟨ab, 0, none⟩) hab.out.1).trans HC0.out
    have hkl : (keepD q (D.take i)).length ≤ 21 := by have := keep_len q (D.take i); rw [List.length_take] at this; omega
    have ec : ∀ j, wr.cell? ⟨w.heap.size, j, none⟩ = W2.cell? ⟨w.heap.size, j, none⟩ := fun j => HB.out.cell (p := ⟨w.heap.size, j, none⟩) HSZ.out.1
    have ea : ∀ j, wr.cell? ⟨W1.heap.size, j, none⟩ = W2.cell? ⟨W1.heap.size, j, none⟩ := fun j => HB.out.cell (p := ⟨W1.heap.size, j, none⟩) HSZ.out.2
    obtain ⟨u0, u1, u2, u3, u4⟩ := HQB.out
    obtain ⟨x0, x1, x2⟩ := HAB.out
    rw [← ec] at u0 u1 u2 u3 u4
    rw [← ea] at x0 x1 x2
    clear ec ea
    by_cases hlt : i < D.length
    case neg =>
      have p1 : ¬ ((i : Int) < (D.length : Int)) := by omega
      have HO2 : Vl (DOwn wr W2.heap.size u10 (keepD q D)) := vl (by
        have h1 := HO.out
        have h2 : D.take i = D := List.take_of_length_le (by omega)
        rw [h2] at h1
        exact h1)
      clear hlt HO
      have LL : Vl ((keepD q D).length < 4194304) := vl (by have := keep_len q D; omega)
      have hkl2 : (keepD q D).length ≤ 21 := by have := keep_len q D; omega
      have HAP : Vl (∀ X, keepD q D ++ [(⟨q, ⟨cd, afa, afn, afc, aba, abn, abc, AL, AB⟩, now⟩ : DK)] = X → afterP D q A now = if 20 < X.length then X.drop 1 else X) := vl (fun X hX => by rw [← hX, HAE.out]; rfl)
      have HNB : Vl (Below W2.heap.size W2 wr) := HB
      clear hkl
      go_wp2_with (at_builtin; refine wpList_dapp _ rfl _ _ rfl W2.heap.size u10 (keepD q D) ⟨q, ⟨cd, afa, afn, afc, aba, abn, abc, AL, AB⟩, now⟩ rfl HO2.out rfl LL.out HB.out.size ?_)
      intro nv w5 ho5 hg5
      have HO5 := vl ho5
      have hb5 := u_below_grown (HB.out.alloc HB.out.size (.cells (DK.cells ⟨q, ⟨cd, afa, afn, afc, aba, abn, abc, AL, AB⟩, now⟩).toArray 46)) hg5 (by have := HB.out.size; simp; omega) (fun k hk => (HO2.out.lt k hk).1)
      have HB5 := vl hb5
      have hbx : w5.heap[ab]? = some (.cells #[.slice va D.length vc] 30 (0, 0)) := (hb5.block ab hab.out.1).trans HBX.out
      have HBX5 := vl hbx
      have c5 : w5.cell? ⟨ab, 0, none⟩ = some (.slice va D.length vc) := by rw [cell_of_row _ _ _ _ _ _ hbx]; rfl
      have f5 : ∀ j, w5.frozen? ⟨ab, j, none⟩ = false := fun j => frozen_of_row w5 ab j _ _ hbx
      have f50 := f5 0
      obtain ⟨X, hX⟩ : ∃ X, keepD q D ++ [(⟨q, ⟨cd, afa, afn, afc, aba, abn, abc, AL, AB⟩, now⟩ : DK)] = X := ⟨_, rfl⟩
      have hxl : X.length = (keepD q D).length + 1 := by rw [← hX]; simp
      have HAX := vl (HAP.out X hX)
      rw [hX] at HO5
      have HROW := vl (down_row HO5.out)
      have HT0 : Vl (Below w.heap.size w w5) := vl (HB2.out.trans (hb5.mono HB2.out.size))
      have HXL := vl hxl
      clear ho5 hg5 hb5 hbx hX HAP HO2 hxl f5 c0 u0 u1 u2 u3 u4 x0 x1 x2
      obtain ⟨na, nc, hnv, hn1, hn2, hn3⟩ := HROW.out.shape
      subst hnv
      unfold maxLen at hn2
      by_cases hx : 20 < X.length
      case neg =>
        have hx2 : ¬ (20 < (X.length : Int)) := by omega
        have HAE2 : Vl (afterP D q A now = X) := vl (by rw [HAX.out, if_neg hx])
        have HP := vl (DSt.put (lo := lo) HBX5.out HROW.out hab.out.1 H.out.abs)
        have HRT : Vl (∀ w', DSt w' ab (.slice na X.length nc) lo X → Tn (fun k => k = ab) w5 w' → PutE w ab lo D q A now (.returned (.bool true)) w') := vl (fun w' h1 h2 => HYE.out w' _ HYK.out (by rw [HAE2.out]; exact h1) (Tn.trans' (Tn.of_below HT0.out) h2) (fun k hk => by have := (HROW.out.own k hk).1; have := HB2.out.size; omega))
        clear hx hn3
        go_wp2_with fail
        go_ret
        rw [HAE.out]
        exact HRT.out _ HP.out.1 HP.out.2
      have hx2 : (20 < (X.length : Int)) := by omega
      obtain ⟨x, X', rfl⟩ : ∃ x X', X = x :: X' := by
        cases X with
        | nil => simp at hx
        | cons x X' => exact ⟨x, X', rfl⟩
      obtain ⟨g5, o5, rfl, _, _, _⟩ := hn3 0 (by simp)
      rw [List.length_cons] at hx hx2 hn1 HXL ⊢
      have hR0 := HROW.out
      rw [List.length_cons] at hR0
      have hnc : ¬ nc = 1 := by omega
      have HR1 := vl (hR0.rest (by omega))
      have HAE2 : Vl (afterP D q A now = X') := vl (by rw [HAX.out, if_pos (by rw [List.length_cons]; omega)]; rfl)
      have HP := vl (DSt.put (lo := lo) HBX5.out HR1.out hab.out.1 H.out.abs)
      have HRT : Vl (∀ w', DSt w' ab (.slice (some ⟨g5, o5 + 9, none⟩) X'.length (nc - 1)) lo X' → Tn (fun k => k = ab) w5 w' → PutE w ab lo D q A now (.returned (.bool true)) w') := vl (fun w' h1 h2 => HYE.out w' _ HYK.out (by rw [HAE2.out]; exact h1) (Tn.trans' (Tn.of_below HT0.out) h2) (fun k hk => by have := (HR1.out.own k hk).1; have := HB2.out.size; omega))
      clear hx hn3 hR0
      go_wp2_with fail
      go_ret
      rw [HAE.out]
      exact HRT.out _ HP.out.1 HP.out.2
    have p1 : (i : Int) < (D.length : Int) := by omega
    have i0 : (0 : Int) ≤ (i : Int) := by omega
    obtain ⟨g, off, rfl, _, hg, hat⟩ := HRD.out i hlt
    have hin := (HD.out (dnth D i) (by rw [← dnth_at hlt]; exact List.getElem_mem _)).below HB.out
    have HAT := vl (hat.kept (HB.out.block g hg))
    have HKN := vl (keep_no (q := q) hlt)
    have HKY := vl (keep_yes (q := q) hlt)
    obtain ⟨d, hd⟩ : ∃ d, dnth D i = d := ⟨_, rfl⟩
    rw [hd] at HAT hin HKN HKY
    have HBD : Vl (Below wr.heap.size wr wr.drew) := vl (Below.refl _ _).drew
    have HFI := vl (rfits_any d q wr.drew ((hin.below HBD.out).fit ((HQ.out.below HB.out).below HBD.out)))
    have HATS := vl (fun (wx : World) (hb : Below wr.heap.size wr wx) => HAT.out.kept (hb.block g (Nat.lt_of_lt_of_le hg HB.out.size)))
    unfold DK.val RqM.val at HFI
    have HGL : Vl (g < wr.heap.size ∧ w.heap.size < wr.heap.size ∧ ab < wr.heap.size) := vl ⟨Nat.lt_of_lt_of_le hg HB.out.size, Nat.lt_of_lt_of_le HSZ.out.1 HB.out.size, Nat.lt_of_lt_of_le hab.out.1 HB.out.size⟩
    obtain ⟨y0, y1, y2, y3, y4, y5, y6, y7, y8⟩ := HAT.out
    have HSX : Vl (∀ wx, Below wr.heap.size wr wx → wx.cell? ⟨ab, 0, none⟩ = some (.slice (some ⟨g, off, none⟩) D.length vc) ∧ (wx.cell? ⟨g, off + i * 9, none⟩ = some (.string d.q.m) ∧ wx.cell? ⟨g, off + i * 9 + 1, none⟩ = some (.string d.q.p) ∧ wx.cell? ⟨g, off + i * 9 + 2, none⟩ = some (.string d.q.h) ∧ wx.cell? ⟨g, off + i * 9 + 3, none⟩ = some (.slice d.q.fa d.q.fn d.q.fc) ∧ wx.cell? ⟨g, off + i * 9 + 4, none⟩ = some (.slice d.q.ba d.q.bn d.q.bc) ∧ wx.cell? ⟨g, off + i * 9 + 5, none⟩ = some (.int .i64 d.r.code) ∧ wx.cell? ⟨g, off + i * 9 + 6, none⟩ = some (.slice d.r.fa d.r.fn d.r.fc) ∧ wx.cell? ⟨g, off + i * 9 + 7, none⟩ = some (.slice d.r.ba d.r.bn d.r.bc) ∧ wx.cell? ⟨g, off + i * 9 + 8, none⟩ = some (.int .i64 d.at_)) ∧ wx.cell? ⟨w.heap.size, 0, none⟩ = some (.string q.m) ∧ wx.cell? ⟨w.heap.size, 1, none⟩ = some (.string q.p) ∧ wx.cell? ⟨w.heap.size, 2, none⟩ = some (.string q.h) ∧ wx.cell? ⟨w.heap.size, 3, none⟩ = some (.slice q.fa q.fn q.fc) ∧ wx.cell? ⟨w.heap.size, 4, none⟩ = some (.slice q.ba q.bn q.bc)) := vl (fun wx hb =>
      ⟨(hb.cell (p := ⟨ab, 0, none⟩) HGL.out.2.2).trans c0, HATS.out wx hb, (hb.cell (p := ⟨w.heap.size, 0, none⟩) HGL.out.2.1).trans u0, (hb.cell (p := ⟨w.heap.size, 1, none⟩) HGL.out.2.1).trans u1, (hb.cell (p := ⟨w.heap.size, 2, none⟩) HGL.out.2.1).trans u2, (hb.cell (p := ⟨w.heap.size, 3, none⟩) HGL.out.2.1).trans u3, (hb.cell (p := ⟨w.heap.size, 4, none⟩) HGL.out.2.1).trans u4⟩)
    clear hat hin hd hg
    go_wp2_with fail
    go_region_held3 (fun w' => w'.cell? ⟨ab, 0, none⟩ = some (.slice (some ⟨g, off, none⟩) D.length vc) ∧ (w'.cell? ⟨g, off + i * 9, none⟩ = some (.string d.q.m) ∧ w'.cell? ⟨g, off + i * 9 + 1, none⟩ = some (.string d.q.p) ∧ w'.cell? ⟨g, off + i * 9 + 2, none⟩ = some (.string d.q.h) ∧ w'.cell? ⟨g, off + i * 9 + 3, none⟩ = some (.slice d.q.fa d.q.fn d.q.fc) ∧ w'.cell? ⟨g, off + i * 9 + 4, none⟩ = some (.slice d.q.ba d.q.bn d.q.bc) ∧ w'.cell? ⟨g, off + i * 9 + 5, none⟩ = some (.int .i64 d.r.code) ∧ w'.cell? ⟨g, off + i * 9 + 6, none⟩ = some (.slice d.r.fa d.r.fn d.r.fc) ∧ w'.cell? ⟨g, off + i * 9 + 7, none⟩ = some (.slice d.r.ba d.r.bn d.r.bc) ∧ w'.cell? ⟨g, off + i * 9 + 8, none⟩ = some (.int .i64 d.at_)) ∧ w'.cell? ⟨w.heap.size, 0, none⟩ = some (.string q.m) ∧ w'.cell? ⟨w.heap.size, 1, none⟩ = some (.string q.p) ∧ w'.cell? ⟨w.heap.size, 2, none⟩ = some (.string q.h) ∧ w'.cell? ⟨w.heap.size, 3, none⟩ = some (.slice q.fa q.fn q.fc) ∧ w'.cell? ⟨w.heap.size, 4, none⟩ = some (.slice q.ba q.bn q.bc))
      (first | (with_reducible exact HSX.out _ hbz) | (with_reducible exact HSX.out _ HBD.out) | go_keep)
      ((go_at_call 15; refine HFI.out.mono ?_; rintro _ w5 ⟨⟨f, rfl, hf⟩, hb5⟩; have hbz := HBD.out.trans hb5))
    have HBZ := vl hbz
    have HF := vl hf
    have HO5 := vl (down_below HO.out hbz)
    have HB5 := vl (HB.out.trans (hbz.mono HB.out.size))
    obtain ⟨c5, ⟨z0, z1, z2, z3, z4, z5, z6, z7, z8⟩, _⟩ := HSX.out w5 hbz
    clear hbz hb5 hf HFI HSX HATS y0 y1 y2 y3 y4 y5 y6 y7 y8 u0 u1 u2 u3 u4 x0 x1 x2 c0
    cases f with
    | true =>
      have HO6 : Vl (DOwn w5 W2.heap.size u10 (keepD q (D.take (i + 1)))) := vl (by rw [HKN.out (HF.out.1 rfl)]; exact HO5.out)
      clear hlt
      go_wp2
      go_roundw
      case rel => exact ⟨i + 1, by go_num, by omega, HO6, HB5⟩
      case measure => first | (simp [intOf]; done) | (simp [intOf]; omega)
    | false =>
      have HKE := vl (HKY.out (fun hh => by have := HF.out.2 hh; cases this))
      have LL : Vl ((keepD q (D.take i)).length < 4194304) := vl (by omega)
      clear hlt
      go_wp2_with (at_builtin; refine wpList_dapp _ rfl _ _ rfl W2.heap.size u10 (keepD q (D.take i)) d rfl HO5.out rfl LL.out HB5.out.size ?_)
      intro nv w6 ho6 hg6
      have HO6 : Vl (DOwn w6 W2.heap.size nv (keepD q (D.take (i + 1)))) := vl (by rw [HKE.out]; exact ho6)
      have HB6 := vl (u_below_grown (HB5.out.alloc HB5.out.size (.cells d.cells.toArray 46)) hg6 (by have := HB5.out.size; simp; omega) (fun k hk => (HO5.out.lt k hk).1))
      clear ho6 hg6
      go_wp2
      go_roundw
      case rel => exact ⟨i + 1, by go_num, by omega, HO6, HB6⟩
      case measure => first | (simp [intOf]; done) | (simp [intOf]; omega)
end Go.Proofs.YtibipnipeaeonaaGreatDoor
