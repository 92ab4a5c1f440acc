/-
  FROM THE ONE TO THE OTHER: requests and replies in memory, stored and loaded as one. No claim by itself.
-/
import Derived.Laws.Tables
import Derived.BigRegion
import Derived.Handy
import Derived.Test.YtglmppadhlkkgagGreatDoorYli2X
namespace Go.Proofs.YtglmppadhlkkgagGreatDoor
open Go Go.RowKit Go.Shelf
set_option maxRecDepth 100000
/-- A request's five cells. -/
def RB (w : World) (x : Nat) (m p h : ByteArray) (fv bv : Value) : Prop := w.heap[x]? = some (.cells #[.string m, .string p, .string h, fv, bv] 25 (0, 0))
section
variable {w w' : World} {x lb : Nat} {m p h : ByteArray} {fv bv : Value}
theorem RB.lt (k : RB w x m p h fv bv) : x < w.heap.size := (Array.getElem?_eq_some_iff.1 k).1
theorem RB.cells (k : RB w x m p h fv bv) : w.cell? ⟨x, 0, none⟩ = some (.string m) ∧ w.cell? ⟨x, 1, none⟩ = some (.string p) ∧ w.cell? ⟨x, 2, none⟩ = some (.string h) ∧ w.cell? ⟨x, 3, none⟩ = some fv ∧ w.cell? ⟨x, 4, none⟩ = some bv := by
  unfold RB at k
  simp only [World.cell?, k]
  exact ⟨rfl, rfl, rfl, rfl, rfl⟩
theorem RB.frozen (k : RB w x m p h fv bv) (i : Nat) : w.frozen? ⟨x, i, none⟩ = false := by
  unfold RB at k
  unfold World.frozen?
  rw [k]
  simp
theorem RB.on (k : RB w x m p h fv bv) (hb : Below w.heap.size w w') : RB w' x m p h fv bv := (hb.block x k.lt).trans k
end
/-- A request, stored into its five cells as one. -/
theorem run_rqstore' {w : World} {x : Nat} {m p h m' p' h' : ByteArray} {fv bv fv' bv' : Value} (k : RB w x m p h fv bv) (h1 : fv'.oneCell' = true) (h2 : bv'.oneCell' = true) :
    (Instr.storeAt 25 (.pointer (some ⟨x, 0, none⟩)) (.agg #[.string m', .string p', .string h', fv', bv'])).run Tryz.prog w = .ok () (w.setRow x #[.string m', .string p', .string h', fv', bv']) := by
  have hk : w.heap[x]? = some (.cells #[.string m, .string p, .string h, fv, bv] 25 (0, 0)) := k
  have hst := run_storeCells_from (P := Tryz.prog) x 25 [.string m', .string p', .string h', fv', bv'] 0 _ w hk rfl (by intro v hv; simp at hv; rcases hv with rfl | rfl | rfl | rfl | rfl <;> first | rfl | assumption)
  have hsz : (sizeOf 25).run Tryz.prog w = .ok 5 w := by kernel_rfl
  have hcs : (Value.agg #[.string m', .string p', .string h', fv', bv']).cells = #[.string m', .string p', .string h', fv', bv'] := rfl
  simp only [Instr.storeAt, Instr.sureAddr, Sem.run_bind, Sem.run_pure, Result.andThen, storeVar, hsz, hcs]
  simpa using hst
theorem rq_row {w : World} {x : Nat} {m p h m' p' h' : ByteArray} {fv bv fv' bv' : Value} (k : RB w x m p h fv bv) : RB (w.setRow x #[.string m', .string p', .string h', fv', bv']) x m' p' h' fv' bv' := setRow_heap w x _ _ _ _ k
theorem row_grown (w : World) (x : Nat) (cs : Array Value) : w.grownBy (w.setRow x cs) (some x) := ⟨rfl, rfl, rfl, by simp [World.setRow], fun k _ hk => setRow_other w x k _ (fun e => hk (by rw [e]))⟩
theorem run_rqstore {w : World} {x : Nat} {m p h m' p' h' : ByteArray} {fv bv fv' bv' : Value} (k : RB w x m p h fv bv) (h1 : fv'.oneCell' = true) (h2 : bv'.oneCell' = true) :
    ∃ w', (Instr.storeAt 25 (.pointer (some ⟨x, 0, none⟩)) (.agg #[.string m', .string p', .string h', fv', bv'])).run Tryz.prog w = .ok () w' ∧ RB w' x m' p' h' fv' bv' ∧ w.grownBy w' (some x) :=
  ⟨_, run_rqstore' k h1 h2, rq_row k, row_grown w x _⟩
section
variable (w : World) {ops : Array Oper} {rest : List Oper} {o : Oper} {a : Act} {Q : Exit → Act → World → Prop}
theorem wpList_rqstore (hgd : o.guard = none) (s x : Operand) (ho : o.op = .store 25 s x) (n : Nat) (m p h m' p' h' : ByteArray) (fv bv fv' bv' : Value) (hs : a.eval s = .pointer (some ⟨n, 0, none⟩)) (hx : a.eval x = .agg #[.string m', .string p', .string h', fv', bv']) (hB : RB w n m p h fv bv) (h1 : fv'.oneCell' = true) (h2 : bv'.oneCell' = true)
    (h0 : ∀ w', RB w' n m' p' h' fv' bv' → w.grownBy w' (some n) → wpList Tryz.prog ops Q rest (a.put o.dst undef) w') : wpList Tryz.prog ops Q (o :: rest) a w := by
  refine wpList_plain hgd fun K hK => ?_
  obtain ⟨w', hr, h3, h4⟩ := run_rqstore (m' := m') (p' := p') (h' := h') hB h1 h2
  unfold Oper.wp execOp
  simp only [ho, Sem.run_bind, Sem.run_pure, Result.andThen_ok, hs, hx, hr]
  exact hK _ _ (h0 w' h3 h4)
end
theorem wpAny_cast {P : Program} {md : Region.Mode} {ops : Array Oper} {Q : Exit → Act → World → Prop} {fuel : Nat} {l l' : Array Bool} {a : Act} {w : World} (e : l = l') (h : wpAny P md ops Q fuel l' a w) : wpAny P md ops Q fuel l a w := by rw [e]; exact h
section
variable {ops : Array Oper} {o : Oper} {a : Act} {w : World} {K : Act → World → Prop} {Q : Exit → Act → World → Prop} {E : Prop}
theorem step_rqload (hg : o.guard = none) (s : Operand) (ho : o.op = .load 25 s) (n : Nat) (m p h : ByteArray) (fv bv : Value) (hs : a.eval s = .pointer (some ⟨n, 0, none⟩)) (hB : RB w n m p h fv bv)
    (hK : K (a.put o.dst (.agg #[.string m, .string p, .string h, fv, bv])) w) : if Region.wanted o (yielded ops a.tmps) = true then Oper.wp Tryz.prog o a w K Q else E := by
  have hw : Region.wanted o (yielded ops a.tmps) = true := by simp [Region.wanted, hg]
  rw [if_pos hw]
  obtain ⟨c0, c1, c2, c3, c4⟩ := hB.cells
  have hr : (Instr.loadAt 25 (.pointer (some ⟨n, 0, none⟩))).run Tryz.prog w = .ok (.agg #[.string m, .string p, .string h, fv, bv]) w := by
    simp [go_sem, c0, c1, c2, c3, c4]
  unfold Oper.wp execOp
  simp only [ho, Sem.run_bind, Sem.run_pure, Result.andThen_ok, hs, hr]
  exact hK
theorem step_rqstore (hg : o.guard = none) (s x : Operand) (ho : o.op = .store 25 s x) (n : Nat) (m p h m' p' h' : ByteArray) (fv bv fv' bv' : Value) (hs : a.eval s = .pointer (some ⟨n, 0, none⟩)) (hx : a.eval x = .agg #[.string m', .string p', .string h', fv', bv']) (hB : RB w n m p h fv bv) (h1 : fv'.oneCell' = true) (h2 : bv'.oneCell' = true)
    (hK : K (a.put o.dst undef) (w.setRow n #[.string m', .string p', .string h', fv', bv'])) : if Region.wanted o (yielded ops a.tmps) = true then Oper.wp Tryz.prog o a w K Q else E := by
  have hw : Region.wanted o (yielded ops a.tmps) = true := by simp [Region.wanted, hg]
  rw [if_pos hw]
  have hr := run_rqstore' (m' := m') (p' := p') (h' := h') hB h1 h2
  unfold Oper.wp execOp
  simp only [ho, Sem.run_bind, Sem.run_pure, Result.andThen_ok, hs, hx, hr]
  exact hK
end
/-- A reply's three cells. -/
def RPB (w : World) (x : Nat) (c : Int) (fv bv : Value) : Prop := w.heap[x]? = some (.cells #[.int .i64 c, fv, bv] 27 (0, 0))
section
variable {w w' : World} {x lb : Nat} {c : Int} {fv bv : Value}
theorem RPB.lt (k : RPB w x c fv bv) : x < w.heap.size := (Array.getElem?_eq_some_iff.1 k).1
theorem RPB.cells (k : RPB w x c fv bv) : w.cell? ⟨x, 0, none⟩ = some (.int .i64 c) ∧ w.cell? ⟨x, 1, none⟩ = some fv ∧ w.cell? ⟨x, 2, none⟩ = some bv := by
  unfold RPB at k
  simp only [World.cell?, k]
  exact ⟨rfl, rfl, rfl⟩
theorem RPB.frozen (k : RPB w x c fv bv) (i : Nat) : w.frozen? ⟨x, i, none⟩ = false := by
  unfold RPB at k
  unfold World.frozen?
  rw [k]
  simp
theorem RPB.on (k : RPB w x c fv bv) (hb : Below w.heap.size w w') : RPB w' x c fv bv := (hb.block x k.lt).trans k
end
/-- A reply, stored into its three cells as one. -/
theorem run_rpstore' {w : World} {x : Nat} {c c' : Int} {fv bv fv' bv' : Value} (k : RPB w x c fv bv) (h1 : fv'.oneCell' = true) (h2 : bv'.oneCell' = true) :
    (Instr.storeAt 27 (.pointer (some ⟨x, 0, none⟩)) (.agg #[.int .i64 c', fv', bv'])).run Tryz.prog w = .ok () (w.setRow x #[.int .i64 c', fv', bv']) := by
  have hk : w.heap[x]? = some (.cells #[.int .i64 c, fv, bv] 27 (0, 0)) := k
  have hst := run_storeCells_from (P := Tryz.prog) x 27 [.int .i64 c', fv', bv'] 0 _ w hk rfl (by intro v hv; simp at hv; rcases hv with rfl | rfl | rfl <;> first | rfl | assumption)
  have hsz : (sizeOf 27).run Tryz.prog w = .ok 3 w := by kernel_rfl
  have hcs : (Value.agg #[.int .i64 c', fv', bv']).cells = #[.int .i64 c', fv', bv'] := rfl
  simp only [Instr.storeAt, Instr.sureAddr, Sem.run_bind, Sem.run_pure, Result.andThen, storeVar, hsz, hcs]
  simpa using hst
theorem rp_row {w : World} {x : Nat} {c c' : Int} {fv bv fv' bv' : Value} (k : RPB w x c fv bv) : RPB (w.setRow x #[.int .i64 c', fv', bv']) x c' fv' bv' := setRow_heap w x _ _ _ _ k
section
variable (w : World) {ops : Array Oper} {rest : List Oper} {o : Oper} {a : Act} {Q : Exit → Act → World → Prop}
theorem wpList_rpstore (hgd : o.guard = none) (s x : Operand) (ho : o.op = .store 27 s x) (n : Nat) (c c' : Int) (fv bv fv' bv' : Value) (hs : a.eval s = .pointer (some ⟨n, 0, none⟩)) (hx : a.eval x = .agg #[.int .i64 c', fv', bv']) (hB : RPB w n c fv bv) (h1 : fv'.oneCell' = true) (h2 : bv'.oneCell' = true)
    (h0 : ∀ w', RPB w' n c' fv' bv' → w.grownBy w' (some n) → wpList Tryz.prog ops Q rest (a.put o.dst undef) w') : wpList Tryz.prog ops Q (o :: rest) a w := by
  refine wpList_plain hgd fun K hK => ?_
  have hr := run_rpstore' (c' := c') hB h1 h2
  unfold Oper.wp execOp
  simp only [ho, Sem.run_bind, Sem.run_pure, Result.andThen_ok, hs, hx, hr]
  exact hK _ _ (h0 _ (rp_row hB) (row_grown w n _))
end
section
variable {ops : Array Oper} {o : Oper} {a : Act} {w : World} {K : Act → World → Prop} {Q : Exit → Act → World → Prop} {E : Prop}
theorem step_rpload (hg : o.guard = none) (s : Operand) (ho : o.op = .load 27 s) (n : Nat) (c : Int) (fv bv : Value) (hs : a.eval s = .pointer (some ⟨n, 0, none⟩)) (hB : RPB w n c fv bv)
    (hK : K (a.put o.dst (.agg #[.int .i64 c, fv, bv])) w) : if Region.wanted o (yielded ops a.tmps) = true then Oper.wp Tryz.prog o a w K Q else E := by
  have hw : Region.wanted o (yielded ops a.tmps) = true := by simp [Region.wanted, hg]
  rw [if_pos hw]
  obtain ⟨c0, c1, c2⟩ := hB.cells
  have hr : (Instr.loadAt 27 (.pointer (some ⟨n, 0, none⟩))).run Tryz.prog w = .ok (.agg #[.int .i64 c, fv, bv]) w := by
    simp [go_sem, c0, c1, c2]
  unfold Oper.wp execOp
  simp only [ho, Sem.run_bind, Sem.run_pure, Result.andThen_ok, hs, hr]
  exact hK
theorem step_rpstore (hg : o.guard = none) (s x : Operand) (ho : o.op = .store 27 s x) (n : Nat) (c c' : Int) (fv bv fv' bv' : Value) (hs : a.eval s = .pointer (some ⟨n, 0, none⟩)) (hx : a.eval x = .agg #[.int .i64 c', fv', bv']) (hB : RPB w n c fv bv) (h1 : fv'.oneCell' = true) (h2 : bv'.oneCell' = true)
    (hK : K (a.put o.dst undef) (w.setRow n #[.int .i64 c', fv', bv'])) : if Region.wanted o (yielded ops a.tmps) = true then Oper.wp Tryz.prog o a w K Q else E := by
  have hw : Region.wanted o (yielded ops a.tmps) = true := by simp [Region.wanted, hg]
  rw [if_pos hw]
  have hr := run_rpstore' (c' := c') hB h1 h2
  unfold Oper.wp execOp
  simp only [ho, Sem.run_bind, Sem.run_pure, Result.andThen_ok, hs, hx, hr]
  exact hK
end
end Go.Proofs.YtglmppadhlkkgagGreatDoor
