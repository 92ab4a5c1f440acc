/-
  WHAT IS TOLD WAS ANSWERED: a store and the law's own two boxes, from call to call. No claim by itself.
-/
import Derived.Laws.Tables
import Derived.BigRegion
import Derived.BigQuiet
import Derived.Deep.QuietTactic
import Derived.Handy
import Derived.Test.YtibipnipeaeonaaDoorMI
import Derived.Test.YtibipnipeaeonaaDoorZvlX
import Derived.Test.YtibipnipeaeonaaDoorNsameX
namespace Go.Proofs.YtibipnipeaeonaaDoor
open Go Go.RowKit Go.Shelf
set_option maxRecDepth 100000
/-- A request's five cells. -/
def RB (w : World) (x : Nat) (m p h : ByteArray) (fv bv : Value) : Prop := w.heap[x]? = some (.cells #[.string m, .string p, .string h, fv, bv] 25 (0, 0))
section
variable {w w' : World} {x lb : Nat} {m p h : ByteArray} {fv bv : Value}
theorem RB.lt (k : RB w x m p h fv bv) : x < w.heap.size := (Array.getElem?_eq_some_iff.1 k).1
theorem RB.cells (k : RB w x m p h fv bv) : w.cell? ⟨x, 0, none⟩ = some (.string m) ∧ w.cell? ⟨x, 1, none⟩ = some (.string p) ∧ w.cell? ⟨x, 2, none⟩ = some (.string h) ∧ w.cell? ⟨x, 3, none⟩ = some fv ∧ w.cell? ⟨x, 4, none⟩ = some bv := by
  unfold RB at k
  simp only [World.cell?, k]
  exact ⟨rfl, rfl, rfl, rfl, rfl⟩
theorem RB.frozen (k : RB w x m p h fv bv) (i : Nat) : w.frozen? ⟨x, i, none⟩ = false := by
  unfold RB at k
  unfold World.frozen?
  rw [k]
  simp
theorem RB.on (k : RB w x m p h fv bv) (hb : Below w.heap.size w w') : RB w' x m p h fv bv := (hb.block x k.lt).trans k
end
/-- A request, stored into its five cells as one. -/
theorem run_rqstore' {w : World} {x : Nat} {m p h m' p' h' : ByteArray} {fv bv fv' bv' : Value} (k : RB w x m p h fv bv) (h1 : fv'.oneCell' = true) (h2 : bv'.oneCell' = true) :
    (Instr.storeAt 25 (.pointer (some ⟨x, 0, none⟩)) (.agg #[.string m', .string p', .string h', fv', bv'])).run Tryd.prog w = .ok () (w.setRow x #[.string m', .string p', .string h', fv', bv']) := by
  have hk : w.heap[x]? = some (.cells #[.string m, .string p, .string h, fv, bv] 25 (0, 0)) := k
  have hst := run_storeCells_from (P := Tryd.prog) x 25 [.string m', .string p', .string h', fv', bv'] 0 _ w hk rfl (by intro v hv; simp at hv; rcases hv with rfl | rfl | rfl | rfl | rfl <;> first | rfl | assumption)
  have hsz : (sizeOf 25).run Tryd.prog w = .ok 5 w := by kernel_rfl
  have hcs : (Value.agg #[.string m', .string p', .string h', fv', bv']).cells = #[.string m', .string p', .string h', fv', bv'] := rfl
  simp only [Instr.storeAt, Instr.sureAddr, Sem.run_bind, Sem.run_pure, Result.andThen, storeVar, hsz, hcs]
  simpa using hst
theorem rq_row {w : World} {x : Nat} {m p h m' p' h' : ByteArray} {fv bv fv' bv' : Value} (k : RB w x m p h fv bv) : RB (w.setRow x #[.string m', .string p', .string h', fv', bv']) x m' p' h' fv' bv' := setRow_heap w x _ _ _ _ k
theorem row_grown (w : World) (x : Nat) (cs : Array Value) : w.grownBy (w.setRow x cs) (some x) := ⟨rfl, rfl, rfl, by simp [World.setRow], fun k _ hk => setRow_other w x k _ (fun e => hk (by rw [e]))⟩
theorem run_rqstore {w : World} {x : Nat} {m p h m' p' h' : ByteArray} {fv bv fv' bv' : Value} (k : RB w x m p h fv bv) (h1 : fv'.oneCell' = true) (h2 : bv'.oneCell' = true) :
    ∃ w', (Instr.storeAt 25 (.pointer (some ⟨x, 0, none⟩)) (.agg #[.string m', .string p', .string h', fv', bv'])).run Tryd.prog w = .ok () w' ∧ RB w' x m' p' h' fv' bv' ∧ w.grownBy w' (some x) :=
  ⟨_, run_rqstore' k h1 h2, rq_row k, row_grown w x _⟩
section
variable (w : World) {ops : Array Oper} {rest : List Oper} {o : Oper} {a : Act} {Q : Exit → Act → World → Prop}
theorem wpList_rqstore (hgd : o.guard = none) (s x : Operand) (ho : o.op = .store 25 s x) (n : Nat) (m p h m' p' h' : ByteArray) (fv bv fv' bv' : Value) (hs : a.eval s = .pointer (some ⟨n, 0, none⟩)) (hx : a.eval x = .agg #[.string m', .string p', .string h', fv', bv']) (hB : RB w n m p h fv bv) (h1 : fv'.oneCell' = true) (h2 : bv'.oneCell' = true)
    (h0 : ∀ w', RB w' n m' p' h' fv' bv' → w.grownBy w' (some n) → wpList Tryd.prog ops Q rest (a.put o.dst undef) w') : wpList Tryd.prog ops Q (o :: rest) a w := by
  refine wpList_plain hgd fun K hK => ?_
  obtain ⟨w', hr, h3, h4⟩ := run_rqstore (m' := m') (p' := p') (h' := h') hB h1 h2
  unfold Oper.wp execOp
  simp only [ho, Sem.run_bind, Sem.run_pure, Result.andThen_ok, hs, hx, hr]
  exact hK _ _ (h0 w' h3 h4)
end
/-- A row of texts that is handed in. -/
def TsArg (w : World) (a : Option Addr) (n c : Nat) (T : List ByteArray) : Prop :=
  n = 0 ∨ ∃ g off, a = some ⟨g, off, none⟩ ∧ n ≤ c ∧ c ≤ maxLen ∧ ∀ t, t < n → w.cell? ⟨g, off + t, none⟩ = some (.string (T.getD t .empty))
theorem TsArg.below {w w' : World} {a : Option Addr} {n c : Nat} {T : List ByteArray} (h : TsArg w a n c T) (hb : Below w.heap.size w w') : TsArg w' a n c T := by
  rcases h with h | ⟨g, off, ha, h1, h2, h3⟩
  · exact Or.inl h
  · exact Or.inr ⟨g, off, ha, h1, h2, fun t ht => (hb.cell (p := ⟨g, off + t, none⟩) (blk_of_cell (h3 t ht))).trans (h3 t ht)⟩
/-- Get, where none fits and lives. -/
theorem zget_none (sb : Nat) (v : Value) (ks : List KpM) (q : RqM) (now : Int) (w : World) (h : StM w sb v ks) (hq : RqIn w q) (hqs : RqS q) (hm : QOk w) (hn : 0 ≤ now ∧ now ≤ 1000000) (hgl : 8 ≤ w.heap.size) (hno : ∀ s, s < ks.length → ¬ hitP q now (ks.getD s kz)) :
    Calls Tryd.prog 8 #[.pointer (some ⟨sb, 0, none⟩), q.val, .int .i64 now] w fun e w' => e = .returned (.tuple #[.agg #[.int .i64 0, .slice none 0 0, .slice none 0 0], .int .i64 0, .iface 53 (.int .i64 5)]) ∧ Below w.heap.size w w' := by
  by_cases hget : unums q.m = getN
  · refine (zget_any sb v ks q now w h hq hqs hm hn hget hgl).mono ?_
    rintro e w' ⟨hG, hb⟩
    rcases hG with ⟨t, p, ht, hh, _⟩ | ⟨_, he⟩
    · exact absurd hh (hno t ht)
    · exact ⟨he, hb⟩
  · exact zget_not sb q now w hn hget
/-- The request with another path. -/
def qOf (q : RqM) (p : ByteArray) : RqM := ⟨q.m, p, q.h, q.fa, q.fn, q.fc, q.ba, q.bn, q.bc, q.FL, q.B⟩
theorem qOf_in {w : World} {q : RqM} (h : RqIn w q) {p : ByteArray} (hp : p.size ≤ 140737488351232) : RqIn w (qOf q p) := ⟨h.fields, h.body, h.nil, h.most, ⟨h.texts.1, hp, h.texts.2.2⟩, h.each⟩
theorem qOf_s {q : RqM} (h : RqS q) (p : ByteArray) : RqS (qOf q p) := ⟨h.fn⟩
/-- What holds between two calls: the store, and the law's own two boxes. -/
structure TsI (w W : World) (sb : Nat) (v : Value) (ks : List KpM) (q : RqM) (a : RpM) : Prop where
  bel : Below w.heap.size w W
  st : StM W sb v ks
  len : ks.length ≤ 20
  off : ∀ b, StS sb v b → w.heap.size + 2 ≤ b
  qb : QBx W w.heap.size q
  pb : PBx W (w.heap.size + 1) a
section
variable {w W W' : World} {sb : Nat} {v : Value} {ks : List KpM} {q : RqM} {a : RpM} (h : TsI w W sb v ks q a)
include h
theorem TsI.below (hb : Below W.heap.size W W') : TsI w W' sb v ks q a := ⟨h.bel.trans (hb.mono h.bel.size), h.st.below hb, h.len, h.off, h.qb.below hb, h.pb.below hb⟩
theorem TsI.put (hq : RqIn w q) (ha : RpIn w a) (hqs : RqS q) (has : RpS a) (hm : QOk w) (hgl : 8 ≤ w.heap.size) {now : Int} (hn : 0 ≤ now ∧ now ≤ 1000000) {p : ByteArray} (hp : p.size ≤ 140737488351232) :
    Calls Tryd.prog 6 #[.pointer (some ⟨sb, 0, none⟩), .agg #[.string q.m, .string p, .string q.h, .slice q.fa q.fn q.fc, .slice q.ba q.bn q.bc], .agg #[.int .i64 a.code, .slice a.fa a.fn a.fc, .slice a.ba a.bn a.bc], .int .i64 now] W fun e w' =>
      ∃ (ok : Bool) (v' : Value) (ks' : List KpM), e = .returned (.tuple #[.bool ok, .nilIface]) ∧ TsI w w' sb v' ks' q a := by
  have hqW := (qOf_in hq hp).below h.bel
  have haW := ha.below h.bel
  refine (zput_any sb v ks (qOf q p) a now W h.st h.len hqW haW (qOf_s hqs p) has (hm.below h.bel) hn (fun k hk => by have := h.off k hk; omega) (fun b hb e => by have := h.off b e; have : b < w.heap.size := (qOf_in hq hp).lt hb; omega) (fun b hb e => by have := h.off b e; have := ha.lt hb; omega)).mono ?_
  rintro e w' ⟨ok, v', ks', he, hS, hl, hT, hN, _⟩
  refine ⟨ok, v', ks', he, ⟨Tn.below h.bel hT h.bel.size (fun i hi => by have := h.off i hi; omega), hS, hl, fun b hb => ?_, h.qb.tn hT (fun e => by have := h.off _ e; omega), h.pb.tn hT (fun e => by have := h.off _ e; omega)⟩⟩
  rcases hN b hb with e | e
  · exact h.off b e
  · have := blk_of_cell h.pb.c0
    omega
theorem TsI.get_no (hq : RqIn w q) (hqs : RqS q) (hm : QOk w) (hgl : 8 ≤ w.heap.size) {now : Int} (hn : 0 ≤ now ∧ now ≤ 1000000) {p : ByteArray} (hp : p.size ≤ 140737488351232) (hno : ∀ s, s < ks.length → ¬ hitP (qOf q p) now (ks.getD s kz)) :
    Calls Tryd.prog 8 #[.pointer (some ⟨sb, 0, none⟩), .agg #[.string q.m, .string p, .string q.h, .slice q.fa q.fn q.fc, .slice q.ba q.bn q.bc], .int .i64 now] W fun e w' =>
      e = .returned (.tuple #[.agg #[.int .i64 0, .slice none 0 0, .slice none 0 0], .int .i64 0, .iface 53 (.int .i64 5)]) ∧ TsI w w' sb v ks q a ∧ Below W.heap.size W w' := by
  refine (zget_none sb v ks (qOf q p) now W h.st ((qOf_in hq hp).below h.bel) (qOf_s hqs p) (hm.below h.bel) hn (Nat.le_trans hgl h.bel.size) hno).mono ?_
  rintro e w' ⟨he, hb⟩
  exact ⟨he, h.below hb, hb⟩
theorem TsI.length : Calls Tryd.prog 7 #[.pointer (some ⟨sb, 0, none⟩)] W fun e w' => e = .returned (.int .i64 (ks.length : Nat)) ∧ W = w' := zlen_any sb v ks W h.st
end
theorem zsrep_like (q1 q2 : RpM) (w : World) (h1 : RpIn w q1) (h2 : RpIn w q2) (he : q1.rp = q2.rp) : Calls Tryd.prog 9 #[q1.val, q2.val] w fun e w' => e = .returned (.bool true) ∧ Below w.heap.size w w' := by
  obtain ⟨c, fa, fn, fc, ba, bn, bc, FL, B⟩ := q1
  obtain ⟨c2, fa2, fn2, fc2, ba2, bn2, bc2, FL2, B2⟩ := q2
  unfold RpM.rp at he
  simp only [Rp.mk.injEq] at he
  obtain ⟨e1, e4, e5⟩ := he
  subst e1
  obtain rfl := fds_inj e4
  subst e5
  obtain rfl : fn = fn2 := h1.fields.len.symm.trans h2.fields.len
  obtain rfl : bn = bn2 := h1.body.len.symm.trans h2.body.len
  exact sreply_any c fa fn fc ba bn bc fa2 fc2 ba2 bc2 FL B w h1.fields h2.fields h1.body h2.body h1.most.1
theorem zdrewN_below {B : Nat} {w w' : World} (h : Below B w w') : ∀ n, Below B w (w'.drewN n)
  | 0 => h
  | n + 1 => by
    have := zdrewN_below h n
    exact ⟨this.os, this.tape, this.output, this.size, this.block⟩
theorem other_path {ks : List KpM} {q : RqM} (h : ∀ k ∈ ks, k.path = q.p) {p : ByteArray} (hne : unums p ≠ unums q.p) {t : Int} : ∀ s, s < ks.length → ¬ hitP (qOf q p) t (ks.getD s kz) := by
  intro s hs e
  have h1 := e.1.2.1
  have hm : ks.getD s kz ∈ ks := by rw [List.getD, List.getElem?_eq_getElem hs]; exact List.getElem_mem hs
  rw [h _ hm] at h1
  exact hne h1.symm
end Go.Proofs.YtibipnipeaeonaaDoor
