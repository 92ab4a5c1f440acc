/-
  WHAT WAS DONE: an entry's six cells; the closure of Parse. No claim by itself.
-/
import Derived.Test.YteohgkgahkkjlaaGreatDoorG5
import Derived.Deep.RegionHeld3
namespace Go.Proofs.YteohgkgahkkjlaaGreatDoor
open Go Go.RowKit
set_option maxRecDepth 100000
theorem zset6 {W : World} {n : Nat} {t : TypeId} {a b c d e f x0 x1 x2 x3 x4 x5 : Value} (h : W.heap[n]? = some (.cells #[a, b, c, d, e, f] t (0, 0))) :
    ((((((W.setCell ⟨n, 0, none⟩ x0).setCell ⟨n, 1, none⟩ x1).setCell ⟨n, 2, none⟩ x2).setCell ⟨n, 3, none⟩ x3).setCell ⟨n, 4, none⟩ x4).setCell ⟨n, 5, none⟩ x5).heap[n]? = some (.cells #[x0, x1, x2, x3, x4, x5] t (0, 0)) := by
  have h0 : (W.setCell ⟨n, 0, none⟩ x0).heap[n]? = some (.cells #[x0, b, c, d, e, f] t (0, 0)) := heap_setCell_same W n 0 _ t x0 h
  generalize W.setCell ⟨n, 0, none⟩ x0 = W0 at *
  have h1 : (W0.setCell ⟨n, 1, none⟩ x1).heap[n]? = some (.cells #[x0, x1, c, d, e, f] t (0, 0)) := heap_setCell_same W0 n 1 _ t x1 h0
  generalize W0.setCell ⟨n, 1, none⟩ x1 = W1 at *
  have h2 : (W1.setCell ⟨n, 2, none⟩ x2).heap[n]? = some (.cells #[x0, x1, x2, d, e, f] t (0, 0)) := heap_setCell_same W1 n 2 _ t x2 h1
  generalize W1.setCell ⟨n, 2, none⟩ x2 = W2 at *
  have h3 : (W2.setCell ⟨n, 3, none⟩ x3).heap[n]? = some (.cells #[x0, x1, x2, x3, e, f] t (0, 0)) := heap_setCell_same W2 n 3 _ t x3 h2
  generalize W2.setCell ⟨n, 3, none⟩ x3 = W3 at *
  have h4 : (W3.setCell ⟨n, 4, none⟩ x4).heap[n]? = some (.cells #[x0, x1, x2, x3, x4, f] t (0, 0)) := heap_setCell_same W3 n 4 _ t x4 h3
  generalize W3.setCell ⟨n, 4, none⟩ x4 = W4 at *
  exact heap_setCell_same W4 n 5 _ t x5 h4
theorem set6_other {W : World} {n k : Nat} {x0 x1 x2 x3 x4 x5 : Value} (h : k ≠ n) :
    ((((((W.setCell ⟨n, 0, none⟩ x0).setCell ⟨n, 1, none⟩ x1).setCell ⟨n, 2, none⟩ x2).setCell ⟨n, 3, none⟩ x3).setCell ⟨n, 4, none⟩ x4).setCell ⟨n, 5, none⟩ x5).heap[k]? = W.heap[k]? := by
  have o : ∀ (V : World) (i : Nat) (x : Value), (V.setCell ⟨n, i, none⟩ x).heap[k]? = V.heap[k]? := fun V i x => heap_setCell_other V ⟨n, i, none⟩ k x (by simpa using fun e => h e)
  rw [o, o, o, o, o, o]
theorem set6_below {W w0 : World} {B n : Nat} {x0 x1 x2 x3 x4 x5 : Value} (h : Below B w0 W) (hn : B ≤ n) :
    Below B w0 ((((((W.setCell ⟨n, 0, none⟩ x0).setCell ⟨n, 1, none⟩ x1).setCell ⟨n, 2, none⟩ x2).setCell ⟨n, 3, none⟩ x3).setCell ⟨n, 4, none⟩ x4).setCell ⟨n, 5, none⟩ x5) :=
  (((((h.setCell (p := ⟨n, 0, none⟩) hn x0).setCell (p := ⟨n, 1, none⟩) hn x1).setCell (p := ⟨n, 2, none⟩) hn x2).setCell (p := ⟨n, 3, none⟩) hn x3).setCell (p := ⟨n, 4, none⟩) hn x4).setCell (p := ⟨n, 5, none⟩) hn x5
/-- An entry's block. -/
def EnB (w : World) (x : Nat) (t c b k : Int) (m p : ByteArray) : Prop := w.heap[x]? = some (.cells #[.int .i64 t, .int .i64 c, .int .i64 b, .int .i64 k, .string m, .string p] 23 (0, 0))
section
variable {w w' : World} {x : Nat} {t c b k : Int} {m p : ByteArray}
theorem EnB.lt (h : EnB w x t c b k m p) : x < w.heap.size := (Array.getElem?_eq_some_iff.1 h).1
theorem EnB.cells (h : EnB w x t c b k m p) : EnC w x t c b k m p := by
  unfold EnB at h
  unfold EnC
  simp only [World.cell?, h]
  exact ⟨rfl, rfl, rfl, rfl, rfl, rfl⟩
theorem EnB.frozen (h : EnB w x t c b k m p) : ∀ j, w.frozen? ⟨x, j, none⟩ = false := fun j => frozen_of_row w _ j _ _ h
theorem EnB.on (h : EnB w x t c b k m p) (hb : Below w.heap.size w w') : EnB w' x t c b k m p := (hb.block x h.lt).trans h
end
theorem run_enstore {w : World} {x : Nat} {t c b k t' c' b' k' : Int} {m p m' p' : ByteArray} (h : EnB w x t c b k m p) :
    (Instr.storeAt 23 (.pointer (some ⟨x, 0, none⟩)) (.agg #[.int .i64 t', .int .i64 c', .int .i64 b', .int .i64 k', .string m', .string p'])).run Tryz.prog w = .ok () (w.setRow x #[.int .i64 t', .int .i64 c', .int .i64 b', .int .i64 k', .string m', .string p']) := by
  have hk : w.heap[x]? = some (.cells #[.int .i64 t, .int .i64 c, .int .i64 b, .int .i64 k, .string m, .string p] 23 (0, 0)) := h
  have hst := run_storeCells_from (P := Tryz.prog) x 23 [.int .i64 t', .int .i64 c', .int .i64 b', .int .i64 k', .string m', .string p'] 0 _ w hk rfl (by intro v hv; simp at hv; rcases hv with rfl | rfl | rfl | rfl | rfl | rfl <;> rfl)
  have hsz : (sizeOf 23).run Tryz.prog w = .ok 6 w := by kernel_rfl
  have hcs : (Value.agg #[.int .i64 t', .int .i64 c', .int .i64 b', .int .i64 k', .string m', .string p']).cells = #[.int .i64 t', .int .i64 c', .int .i64 b', .int .i64 k', .string m', .string p'] := rfl
  simp only [Instr.storeAt, Instr.sureAddr, Sem.run_bind, Sem.run_pure, Result.andThen, storeVar, hsz, hcs]
  simpa using hst
theorem en_row {w : World} {x : Nat} {t c b k t' c' b' k' : Int} {m p m' p' : ByteArray} (h : EnB w x t c b k m p) : EnB (w.setRow x #[.int .i64 t', .int .i64 c', .int .i64 b', .int .i64 k', .string m', .string p']) x t' c' b' k' m' p' := setRow_heap w x _ _ _ _ h
theorem grow_row (w : World) (x : Nat) (cs : Array Value) : w.grownBy (w.setRow x cs) (some x) := ⟨rfl, rfl, rfl, by simp [World.setRow], fun k _ hk => setRow_other w x k _ (fun e => hk (by rw [e]))⟩
theorem gbelow_grown {B : Nat} {w0 w w' : World} {r : Option Nat} (h : Below B w0 w) (hg : w.grownBy w' r) (hB : B ≤ w.heap.size) (hr : ∀ k, r = some k → B ≤ k) : Below B w0 w' :=
  ⟨hg.os.trans h.os, hg.tape.trans h.tape, hg.output.trans h.output, Nat.le_trans h.size hg.size, fun k hk => (hg.block k (by omega) (fun e => by have := hr k e.symm; omega)).trans (h.block k hk)⟩
section
variable (w : World) {ops : Array Oper} {rest : List Oper} {o : Oper} {a : Act} {Q : Exit → Act → World → Prop}
theorem wpList_enstore (hgd : o.guard = none) (s x : Operand) (ho : o.op = .store 23 s x) (n : Nat) (t c b k t' c' b' k' : Int) (m p m' p' : ByteArray) (hs : a.eval s = .pointer (some ⟨n, 0, none⟩)) (hx : a.eval x = .agg #[.int .i64 t', .int .i64 c', .int .i64 b', .int .i64 k', .string m', .string p']) (hB : EnB w n t c b k m p)
    (h0 : ∀ w', EnB w' n t' c' b' k' m' p' → w.grownBy w' (some n) → wpList Tryz.prog ops Q rest (a.put o.dst undef) w') : wpList Tryz.prog ops Q (o :: rest) a w := by
  refine wpList_plain hgd fun K hK => ?_
  have hr := run_enstore (t' := t') (c' := c') (b' := b') (k' := k') (m' := m') (p' := p') hB
  unfold Oper.wp execOp
  simp only [ho, Sem.run_bind, Sem.run_pure, Result.andThen_ok, hs, hx, hr]
  exact hK _ _ (h0 _ (en_row hB) (grow_row w n _))
end
/-- What a word says as a number, if it is one. -/
def NumIs (v : Int) (x : ByteArray) : Prop := ∀ n : Nat, n < 10000000 → unums x = decL n → v = (n : Int)
theorem gnum_any (i : Nat) (hi : i < 6) (x : ByteArray) (bx g : Nat) (w : World) (hc : w.cell? ⟨bx, 0, none⟩ = some (.slice (some ⟨g, 0, none⟩) 6 6)) (hx : w.cell? ⟨g, i, none⟩ = some (.string x)) (he : erP w) (hs : x.size ≤ 140737488351232) :
    Calls Tryz.prog 25 #[.int .i64 (i : Int), .pointer (some ⟨bx, 0, none⟩)] w fun e w' => ∃ v, e = .returned (.int .i64 v) ∧ NumIs v x ∧ Below w.heap.size w w' := by
  have H := vl (xatoi_any x hs w he)
  have h1 : (0 : Int) ≤ (i : Int) := by omega
  have h2 : (i : Int) < 6 := by omega
  have hx' : w.cell? ⟨g, 0 + i, none⟩ = some (.string x) := by rw [Nat.zero_add]; exact hx
  clear he
  go_enter Tryz.func25, Tryz.ntmps25
  go_wp2_with fail
  refine H.out.mono ?_
  rintro _ w2 ⟨v, err, rfl, hb, hv⟩
  have HB := vl hb
  have HV : Vl (NumIs v x) := vl (fun n hn hd => by
    have ha := atoi_dec (l := x.data.toList) hn hd
    rcases hv with ⟨_, h⟩ | ⟨_, h⟩
    · rw [ha] at h; injection h with h; exact h.symm
    · exact absurd ha (h _))
  clear hb hv
  go_wp2_with fail
  go_ret
  exact ⟨v, rfl, HV.out, HB.out⟩
end Go.Proofs.YteohgkgahkkjlaaGreatDoor
