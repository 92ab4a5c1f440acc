/-
  ONE SIDE OF A CONNECTION: what it is in memory. No claim by itself.
-/
import Derived.Laws.Tables
import Derived.Handy
import Derived.Test.YtdlaaollamgplagGreatDoorKnis
import Derived.Test.YtdlaaollamgplagGreatDoorDfr4
namespace Go.Proofs.YtdlaaollamgplagGreatDoor
open Go Go.RowKit
set_option maxRecDepth 100000
/-- What a connection holds, as far as it is read here. -/
structure CnS where
  rest : List Int
  said : List Int
  begun : Bool
  over : Bool
  bst : Int
  bfr : Int
  bend : Bool
  bby : Value
  cod : Value
  win : Value
  wout : Value
  lanes : Value
  queue : Value
  stopped : Value
  unused : Value
  sb : Nat
  last : Int
  first : Int
  all : Int
def cnRow (c : CnS) (rv sv : Value) : Array Value := #[rv, sv, .bool c.begun, .bool c.over, .int .i64 c.bst, .int .i64 c.bfr, .bool c.bend, c.bby, c.cod, .pointer (some ⟨c.sb, 0, none⟩), c.win, c.wout, .int .i64 c.first, c.lanes, c.queue, c.stopped, c.unused, .int .i64 c.all]
structure CnL (w : World) (cb : Nat) (c : CnS) (rv sv : Value) : Prop where
  row : w.heap[cb]? = some (.cells (cnRow c rv sv) 117 (0, 0))
  rest : UOwn w 0 rv c.rest
  said : UOwn w 0 sv c.said
  nr : ∀ k, rv.ownBlock = some k → k ≠ cb ∧ k ≠ c.sb
  ns : ∀ k, sv.ownBlock = some k → k ≠ cb ∧ k ≠ c.sb
  rs : ∀ k, rv.ownBlock = some k → sv.ownBlock ≠ some k
  br : Bytes c.rest
  bs : Bytes c.said
  sne : c.sb ≠ cb
  scell : w.cell? ⟨c.sb, 1, none⟩ = some (.int .i64 c.last)
  hl : 0 ≤ c.last ∧ c.last ≤ 2147483647
/-- The blocks that are its own. -/
def CnF (cb : Nat) (rv sv : Value) (k : Nat) : Prop := k = cb ∨ rv.ownBlock = some k ∨ sv.ownBlock = some k
def CnT (w : World) (cb : Nat) (rv sv : Value) (c' : CnS) (w' : World) : Prop :=
  ∃ rv' sv', CnL w' cb c' rv' sv' ∧ Tn (CnF cb rv sv) w w' ∧ ∀ k, CnF cb rv' sv' k → CnF cb rv sv k ∨ w.heap.size ≤ k
section
variable {w w' : World} {cb : Nat} {c c' : CnS} {rv sv : Value}
theorem CnL.lt (h : CnL w cb c rv sv) : cb < w.heap.size := (Array.getElem?_eq_some_iff.1 h.row).1
theorem CnL.slt (h : CnL w cb c rv sv) : c.sb < w.heap.size := blk_of_cell h.scell
theorem CnL.flt (h : CnL w cb c rv sv) : ∀ k, CnF cb rv sv k → k < w.heap.size := by
  rintro k (rfl | hk | hk)
  · exact h.lt
  · exact (h.rest.base k hk).2
  · exact (h.said.base k hk).2
theorem CnL.cell (h : CnL w cb c rv sv) (i : Nat) : w.cell? ⟨cb, i, none⟩ = (cnRow c rv sv)[i]? := cell_of_row w cb i _ _ _ h.row
theorem CnL.frozen (h : CnL w cb c rv sv) (i : Nat) : w.frozen? ⟨cb, i, none⟩ = false := by
  unfold World.frozen?
  rw [h.row]
  simp
theorem CnL.keep (h : CnL w cb c rv sv) (hs : w.heap.size ≤ w'.heap.size) (hk : ∀ k, CnF cb rv sv k → w'.heap[k]? = w.heap[k]?) (hb : w'.heap[c.sb]? = w.heap[c.sb]?) : CnL w' cb c rv sv :=
  ⟨(hk cb (Or.inl rfl)).trans h.row, h.rest.block hs fun k e => hk k (Or.inr (Or.inl e)), h.said.block hs fun k e => hk k (Or.inr (Or.inr e)), h.nr, h.ns, h.rs, h.br, h.bs, h.sne, (World.cell?_of_block (a := ⟨c.sb, 1, none⟩) hb).trans h.scell, h.hl⟩
theorem CnL.below (h : CnL w cb c rv sv) (hb : Below w.heap.size w w') : CnL w' cb c rv sv := h.keep hb.size (fun k hk => hb.block k (h.flt k hk)) (hb.block _ h.slt)
theorem CnL.tn {S : Nat → Prop} (h : CnL w cb c rv sv) (ht : Tn S w w') (h1 : ∀ k, CnF cb rv sv k → ¬ S k) (h2 : ¬ S c.sb) : CnL w' cb c rv sv :=
  h.keep ht.size (fun k hk => ht.block k (h.flt k hk) (h1 k hk)) (ht.block _ h.slt h2)
/-- One of its cells is written that is no row's. -/
theorem CnL.put (h : CnL w cb c rv sv) (i : Nat) (v : Value) (hr : (cnRow c rv sv).setIfInBounds i v = cnRow c' rv sv) (e1 : c'.rest = c.rest) (e2 : c'.said = c.said) (e3 : c'.sb = c.sb) (e4 : c'.last = c.last) : CnL (w.setCell ⟨cb, i, none⟩ v) cb c' rv sv := by
  have ho : ∀ k, k ≠ cb → (w.setCell ⟨cb, i, none⟩ v).heap[k]? = w.heap[k]? := fun k hk => Below.heap_setCell w ⟨cb, i, none⟩ v k hk
  have hs : w.heap.size ≤ (w.setCell ⟨cb, i, none⟩ v).heap.size := by simp
  refine ⟨?_, ?_, ?_, ?_, ?_, h.rs, ?_, ?_, ?_, ?_, ?_⟩
  · rw [← hr]; exact heap_setCell_same w cb i _ _ v h.row
  · rw [e1]; exact h.rest.block hs fun k e => ho k (h.nr k e).1
  · rw [e2]; exact h.said.block hs fun k e => ho k (h.ns k e).1
  · rw [e3]; exact h.nr
  · rw [e3]; exact h.ns
  · rw [e1]; exact h.br
  · rw [e2]; exact h.bs
  · rw [e3]; exact h.sne
  · rw [e3, e4]; exact (World.cell?_of_block (a := ⟨c.sb, 1, none⟩) (ho _ h.sne)).trans h.scell
  · rw [e4]; exact h.hl
theorem CnT.of_put (h : CnL w cb c' rv sv) : CnT w cb rv sv c' w := ⟨rv, sv, h, Tn.refl _ _, fun _ hk => Or.inl hk⟩
theorem Tn.trans2 {S S' : Nat → Prop} {w w1 w2 : World} (h : Tn S w w1) (k : Tn S' w1 w2) (hs : ∀ k, S' k → S k ∨ w.heap.size ≤ k) : Tn S w w2 :=
  ⟨k.os.trans h.os, k.tape.trans h.tape, k.output.trans h.output, Nat.le_trans h.size k.size, fun j hj hn => (k.block j (Nat.lt_of_lt_of_le hj h.size) (fun e => by rcases hs j e with h1 | h1; exact hn h1; omega)).trans (h.block j hj hn)⟩
theorem CnT.trans {w1 w2 : World} {rv1 sv1 : Value} (ht : Tn (CnF cb rv sv) w w1) (hf : ∀ k, CnF cb rv1 sv1 k → CnF cb rv sv k ∨ w.heap.size ≤ k) (h : CnT w1 cb rv1 sv1 c' w2) : CnT w cb rv sv c' w2 := by
  obtain ⟨rv', sv', h1, h2, h3⟩ := h
  exact ⟨rv', sv', h1, ht.trans2 h2 hf, fun k hk => (h3 k hk).elim (fun x => hf k x) (fun x => Or.inr (Nat.le_trans ht.size x))⟩
theorem CnT.from (hb : Below w.heap.size w w') {w2 : World} (h : CnT w' cb rv sv c' w2) : CnT w cb rv sv c' w2 := CnT.trans (Tn.of_below hb) (fun _ hk => Or.inl hk) h
end
theorem tn_grown {w w' : World} {row : Option Nat} {S : Nat → Prop} (h : w.grownBy w' row) (hS : ∀ k, row = some k → S k) : Tn S w w' :=
  ⟨h.os, h.tape, h.output, h.size, fun k hk hn => h.block k hk (fun e => hn (hS k e.symm))⟩
theorem Tn.mono {S S' : Nat → Prop} {w w' : World} (h : Tn S w w') (hs : ∀ k, S k → S' k) : Tn S' w w' := ⟨h.os, h.tape, h.output, h.size, fun k hk hn => h.block k hk (fun e => hn (hs k e))⟩
/-- Bytes are said: the row that is said grew, and is stored. -/
theorem CnL.tell {w w1 : World} {cb : Nat} {c : CnS} {rv sv v' : Value} {L : List Int} (h : CnL w cb c rv sv) (hg : w.grownBy w1 sv.ownBlock) (hu : UOwn w1 0 v' L) (hv : ∀ k, v'.ownBlock = some k → sv.ownBlock = some k ∨ w.heap.size ≤ k) (hb : Bytes L) :
    CnL (w1.setCell ⟨cb, 1, none⟩ v') cb { c with said := L } rv v' ∧ Tn (CnF cb rv sv) w (w1.setCell ⟨cb, 1, none⟩ v') ∧ ∀ k, CnF cb rv v' k → CnF cb rv sv k ∨ w.heap.size ≤ k := by
  have hcb := h.lt
  have hsb := h.slt
  have k1 : ∀ k, v'.ownBlock = some k → k ≠ cb ∧ k ≠ c.sb := fun k e => by
    rcases hv k e with h1 | h1
    · exact h.ns k h1
    · omega
  have ho : ∀ k, k ≠ cb → (w1.setCell ⟨cb, 1, none⟩ v').heap[k]? = w1.heap[k]? := fun k hk => Below.heap_setCell w1 ⟨cb, 1, none⟩ v' k hk
  have hs : w1.heap.size ≤ (w1.setCell ⟨cb, 1, none⟩ v').heap.size := by simp
  have hr : w1.heap[cb]? = some (.cells (cnRow c rv sv) 117 (0, 0)) := (hg.block cb hcb (fun e => (h.ns cb e.symm).1 rfl)).trans h.row
  refine ⟨⟨?_, ?_, ?_, h.nr, k1, ?_, h.br, hb, h.sne, ?_, h.hl⟩, ?_, ?_⟩
  · exact heap_setCell_same w1 cb 1 _ _ v' hr
  · exact h.rest.block (Nat.le_trans hg.size hs) fun k e => (ho k (h.nr k e).1).trans (hg.block k (h.rest.base k e).2 (fun e' => h.rs k e e'.symm))
  · exact hu.block hs fun k e => ho k (k1 k e).1
  · intro k e e'
    rcases hv k e' with h1 | h1
    · exact h.rs k e h1
    · have := (h.rest.base k e).2; omega
  · exact (World.cell?_of_block (a := ⟨c.sb, 1, none⟩) ((ho _ h.sne).trans (hg.block _ hsb (fun e => (h.ns _ e.symm).2 rfl)))).trans h.scell
  · exact (tn_grown hg (fun k e => Or.inr (Or.inr e))).trans2 (tn_set (S := CnF cb rv sv) (a := ⟨cb, 1, none⟩) (Or.inl rfl)) (fun k hk => Or.inl hk)
  · rintro k (e | e | e)
    · exact Or.inl (Or.inl e)
    · exact Or.inl (Or.inr (Or.inl e))
    · exact (hv k e).imp (fun x => Or.inr (Or.inr x)) id
end Go.Proofs.YtdlaaollamgplagGreatDoor
/-
  ONE SIDE OF A CONNECTION: what says: word, say, sayBye; Out, Over. No claim by itself.
-/
namespace Go.Proofs.YtdlaaollamgplagGreatDoor
open Go Go.RowKit
set_option maxRecDepth 100000
theorem kword_any (n : Int) (w : World) (h0 : 0 ≤ n) (h1 : n ≤ 2147483647) :
    Calls Tryz.prog 146 #[.int .i64 n] w fun e w' => ∃ g, e = .returned (.slice (some ⟨g, 0, none⟩) 4 4) ∧ UOwn w' w.heap.size (.slice (some ⟨g, 0, none⟩) 4 4) (bigL 4 n) ∧ Below w.heap.size w w' := by
  have HB := vl (big_4 n w h0 (by have : most 4 = 2147483647 := by decide
                                  omega))
  go_enter Tryz.func146, Tryz.ntmps146
  go_wp2_with fail
  refine HB.out.mono ?_
  rintro e w1 ⟨rfl, rfl⟩
  go_wp2
  go_ret
  refine ⟨_, rfl, ?_, (Below.refl _ w).alloc (Nat.le_refl _) _⟩
  refine UOwn.of (L := bigL 4 n) ⟨by simp [bigL], Or.inr ⟨w.heap.size, 4, _, rfl, Nat.le_refl _, heap_alloc_new w _, by simp [bigL], by decide, rfl, ?_⟩⟩
  simp [bigL]
theorem bytes_big (n : Int) : Bytes (bigL 4 n) := by
  intro x hx
  simp [bigL] at hx
  omega
theorem big_len (n : Int) : (bigL 4 n).length = 4 := by simp [bigL]
theorem uarg {w : World} {base : Nat} {v : Value} {L : List Int} (h : UOwn w base v L) (hb : Bytes L) : ∃ a cap, v = .slice a L.length cap ∧ Arg w a L.length cap L ∧ (a = none → cap = 0) := by
  obtain ⟨a, cap, rfl, _⟩ := h.slice
  refine ⟨a, cap, rfl, UOwn.arg h hb, fun e => ?_⟩
  subst e
  rcases h with ⟨hv, _⟩ | ⟨g, c, hv, _⟩
  · injection hv
  · injection hv with h1
    cases h1
theorem bytes_frm {f : Frm} (he : frmE f = 0) (hb : Bytes f.2.2.2) : Bytes (frmL f) := by
  obtain ⟨k, fl, st, Z⟩ := f
  unfold frmE at he
  intro x hx
  unfold frmL at hx
  simp only [List.mem_append] at hx
  have hz : Bytes Z := hb
  by_cases h : k < 0 ∨ 255 < k ∨ fl < 0 ∨ 255 < fl ∨ st < 0 ∨ 2147483647 < st
  · rw [if_pos h] at he; omega
  · rcases hx with hx | hx | hx | hx
    · simp [bigL] at hx; omega
    · simp at hx; omega
    · simp [bigL] at hx; omega
    · exact hz x hx
/-- Frames are said: their bytes go behind what is said already. -/
theorem ksay_any (cb : Nat) (c : CnS) (rv sv : Value) (k fl st : Int) (a : Option Addr) (len cap : Nat) (Z : List Int) (w : World) (h : CnL w cb c rv sv) (hA : Arg w a len cap Z) (hs : c.said.length ≤ 100000000000) (he : frmE (k, fl, st, Z) = 0) :
    Calls Tryz.prog 64 #[.pointer (some ⟨cb, 0, none⟩), .agg #[.int .i64 k, .int .i64 fl, .int .i64 st, .slice a len cap]] w fun e w' => (∃ v, e = .returned v) ∧ CnT w cb rv sv { c with said := c.said ++ frmL (k, fl, st, Z) } w' := by
  obtain ⟨W1, hW1⟩ : ∃ x, w.alloc (.cells #[.int .i64 k, .int .i64 fl, .int .i64 st, .slice a len cap] 60) = x := ⟨_, rfl⟩
  have hb1 : Below w.heap.size w W1 := by rw [← hW1]; exact (Below.refl _ w).alloc (Nat.le_refl _) _
  have HE := vl (encode_any k fl st a len cap Z W1 (hA.below hb1) hA.len)
  have HC := vl (h.below hb1)
  have HBF := vl (bytes_frm (f := (k, fl, st, Z)) he hA.bytes)
  have hfl : (frmL (k, fl, st, Z)).length ≤ 1033 := by
    have : ¬ 1024 < Z.length := fun hh => by
      unfold frmE at he
      split at he
      · omega
      · omega
    simp [frmL, bigL]
    omega
  have HB1 := vl hb1
  have HEE := vl he
  have hx : W1.heap[w.heap.size]? = some (.cells #[.int .i64 k, .int .i64 fl, .int .i64 st, .slice a len cap] 60 (0, 0)) := by rw [← hW1]; exact heap_alloc_new w _
  have b0 := cell_of_row W1 w.heap.size 0 _ _ _ hx
  have b1 := cell_of_row W1 w.heap.size 1 _ _ _ hx
  have b2 := cell_of_row W1 w.heap.size 2 _ _ _ hx
  have b3 := cell_of_row W1 w.heap.size 3 _ _ _ hx
  simp at b0 b1 b2 b3
  clear hx
  have hsz1 : w.heap.size ≤ W1.heap.size := hb1.size
  clear hA he hb1 h
  go_enter Tryz.func64, Tryz.ntmps64
  go_wp2_with fail
  clear hW1 b0 b1 b2 b3
  refine HE.out.mono ?_
  rintro e w2 ⟨⟨v, x, rfl, hm⟩, hb2⟩
  rcases hm with ⟨_, rfl, ho⟩ | ⟨hn, _⟩
  case inr => exact absurd HEE.out hn
  have HU := vl (UOwn.of ho)
  obtain ⟨ua, uc, rfl, HUA, hun⟩ := uarg HU.out HBF.out
  have HC2 := vl (HC.out.below hb2)
  have HUN : Vl (ua = none → uc = 0) := vl hun
  have HUV : Vl (Arg w2 ua (frmL (k, fl, st, Z)).length uc (frmL (k, fl, st, Z))) := vl HUA
  have c1 := HC2.out.cell 1
  have f1 := HC2.out.frozen 1
  have HB2 := vl (HB1.out.trans (hb2.mono hsz1))
  simp only [cnRow] at c1
  have c1' : w2.cell? ⟨cb, 1, none⟩ = some sv := c1
  clear ho hb2 HE HC c1 HUA hun
  have HSO := vl HC2.out.said
  go_wp2_with (at_builtin; refine wpList_uapp _ rfl _ _ rfl 0 _ c.said rfl HSO.out ua (frmL (k, fl, st, Z)).length uc (frmL (k, fl, st, Z)) rfl HUV.out HUN.out (by omega) (Nat.zero_le _) ?_)
  intro v' w3 hu3 hg3 hv3
  obtain ⟨va, vc, rfl, _⟩ := hu3.slice
  rw [List.length_append] at hu3 hv3
  obtain ⟨hCN, hTN, hFN⟩ := HC2.out.tell hg3 hu3 hv3 (bytes_app HC2.out.bs HBF.out)
  have HFIN : Vl (CnT w cb rv sv { c with said := c.said ++ (frmL (k, fl, st, Z)) } (w3.setCell ⟨cb, 1, none⟩ (.slice va (c.said.length + (frmL (k, fl, st, Z)).length) vc))) := vl (CnT.from HB2.out ⟨rv, _, hCN, hTN, hFN⟩)
  have hne : sv.ownBlock ≠ some cb := fun e => (HC2.out.ns cb e).1 rfl
  have c3 : w3.cell? ⟨cb, 1, none⟩ = some sv := (World.cell?_of_block (a := ⟨cb, 1, none⟩) (hg3.block cb HC2.out.lt (fun e => hne e.symm))).trans c1'
  have f3 : w3.frozen? ⟨cb, 1, none⟩ = false := (World.frozen?_of_block (a := ⟨cb, 1, none⟩) (hg3.block cb HC2.out.lt (fun e => hne e.symm))).trans f1
  clear hCN hTN hFN hu3 hg3 hv3 HC2 HSO HUV HUN HU c1' f1
  go_wp2
  go_end0
  exact ⟨⟨_, rfl⟩, HFIN.out⟩
end Go.Proofs.YtdlaaollamgplagGreatDoor
/-
  ONE SIDE OF A CONNECTION: events in memory; sayBye, fail; Out, Over. No claim by itself.
-/
namespace Go.Proofs.YtdlaaollamgplagGreatDoor
open Go Go.RowKit
set_option maxRecDepth 100000
/-- An event's six cells. -/
def EVB (w : World) (x : Nat) (a b d : Int) (fv bv : Value) (e : Bool) : Prop := w.heap[x]? = some (.cells #[.int .i64 a, .int .i64 b, .int .i64 d, fv, bv, .bool e] 68 (0, 0))
def evA (a b d : Int) (fv bv : Value) (e : Bool) : Value := .agg #[.int .i64 a, .int .i64 b, .int .i64 d, fv, bv, .bool e]
section
variable {w w' : World} {x : Nat} {a b d : Int} {fv bv : Value} {e : Bool}
theorem EVB.lt (k : EVB w x a b d fv bv e) : x < w.heap.size := (Array.getElem?_eq_some_iff.1 k).1
theorem EVB.cells (k : EVB w x a b d fv bv e) : w.cell? ⟨x, 0, none⟩ = some (.int .i64 a) ∧ w.cell? ⟨x, 1, none⟩ = some (.int .i64 b) ∧ w.cell? ⟨x, 2, none⟩ = some (.int .i64 d) ∧ w.cell? ⟨x, 3, none⟩ = some fv ∧ w.cell? ⟨x, 4, none⟩ = some bv ∧ w.cell? ⟨x, 5, none⟩ = some (.bool e) := by
  unfold EVB at k
  simp only [World.cell?, k]
  exact ⟨rfl, rfl, rfl, rfl, rfl, rfl⟩
theorem EVB.on (k : EVB w x a b d fv bv e) (hb : Below w.heap.size w w') : EVB w' x a b d fv bv e := (hb.block x k.lt).trans k
theorem EVB.tn {S : Nat → Prop} (k : EVB w x a b d fv bv e) (ht : Tn S w w') (hn : ¬ S x) : EVB w' x a b d fv bv e := (ht.block x k.lt hn).trans k
end
theorem run_evstore {w : World} {x : Nat} {a b d a' b' d' : Int} {fv bv fv' bv' : Value} {e e' : Bool} (k : EVB w x a b d fv bv e) (h1 : fv'.oneCell' = true) (h2 : bv'.oneCell' = true) :
    (Instr.storeAt 68 (.pointer (some ⟨x, 0, none⟩)) (.agg #[.int .i64 a', .int .i64 b', .int .i64 d', fv', bv', .bool e'])).run Tryz.prog w = .ok () (w.setRow x #[.int .i64 a', .int .i64 b', .int .i64 d', fv', bv', .bool e']) := by
  have hk : w.heap[x]? = some (.cells #[.int .i64 a, .int .i64 b, .int .i64 d, fv, bv, .bool e] 68 (0, 0)) := k
  have hst := run_storeCells_from (P := Tryz.prog) x 68 [.int .i64 a', .int .i64 b', .int .i64 d', fv', bv', .bool e'] 0 _ w hk rfl (by intro v hv; simp at hv; rcases hv with rfl | rfl | rfl | rfl | rfl | rfl <;> first | rfl | assumption)
  have hsz : (sizeOf 68).run Tryz.prog w = .ok 6 w := by kernel_rfl
  have hcs : (Value.agg #[.int .i64 a', .int .i64 b', .int .i64 d', fv', bv', .bool e']).cells = #[.int .i64 a', .int .i64 b', .int .i64 d', fv', bv', .bool e'] := rfl
  simp only [Instr.storeAt, Instr.sureAddr, Sem.run_bind, Sem.run_pure, Result.andThen, storeVar, hsz, hcs]
  simpa using hst
theorem krow_grown (w : World) (x : Nat) (cs : Array Value) : w.grownBy (w.setRow x cs) (some x) := ⟨rfl, rfl, rfl, by simp [World.setRow], fun k _ hk => setRow_other w x k _ (fun e => hk (by rw [e]))⟩
section
variable (w : World) {ops : Array Oper} {rest : List Oper} {o : Oper} {a : Act} {Q : Exit → Act → World → Prop}
theorem wpList_evstore (hgd : o.guard = none) (s x : Operand) (ho : o.op = .store 68 s x) (n : Nat) (p q r p' q' r' : Int) (fv bv fv' bv' : Value) (e e' : Bool) (hs : a.eval s = .pointer (some ⟨n, 0, none⟩)) (hx : a.eval x = .agg #[.int .i64 p', .int .i64 q', .int .i64 r', fv', bv', .bool e']) (hB : EVB w n p q r fv bv e) (h1 : fv'.oneCell' = true) (h2 : bv'.oneCell' = true)
    (h0 : ∀ w', EVB w' n p' q' r' fv' bv' e' → w.grownBy w' (some n) → wpList Tryz.prog ops Q rest (a.put o.dst undef) w') : wpList Tryz.prog ops Q (o :: rest) a w := by
  refine wpList_plain hgd fun K hK => ?_
  have hr := run_evstore (a' := p') (b' := q') (d' := r') (e' := e') hB h1 h2
  unfold Oper.wp execOp
  simp only [ho, Sem.run_bind, Sem.run_pure, Result.andThen_ok, hs, hx, hr]
  exact hK _ _ (h0 _ (setRow_heap w n _ _ _ _ hB) (krow_grown w n _))
end
theorem klast_any (sb : Nat) (last : Int) (w : World) (c1 : w.cell? ⟨sb, 1, none⟩ = some (.int .i64 last)) : Calls Tryz.prog 147 #[.pointer (some ⟨sb, 0, none⟩)] w fun e w' => e = .returned (.int .i64 last) ∧ w = w' := by
  go_enter Tryz.func147, Tryz.ntmps147
  go_wp2
  go_ret
  exact ⟨rfl, rfl⟩
/-- What a connection says at its end. -/
def byeL (last code : Int) : List Int := frmL (6, 0, 0, bigL 4 last ++ bigL 4 code)
theorem bye_ok (last code : Int) : frmE (6, 0, 0, bigL 4 last ++ bigL 4 code) = 0 := by
  simp [frmE, bigL]
theorem bye_len (last code : Int) : (byeL last code).length = 17 := by simp [byeL, frmL, bigL]
theorem ksaybye_any (cb : Nat) (c : CnS) (rv sv : Value) (code : Int) (w : World) (h : CnL w cb c rv sv) (hs : c.said.length ≤ 100000000000) (h0 : 0 ≤ code) (h1 : code ≤ 2147483647) :
    Calls Tryz.prog 86 #[.pointer (some ⟨cb, 0, none⟩), .int .i64 code] w fun e w' => (∃ v, e = .returned v) ∧ CnT w cb rv sv { c with said := c.said ++ byeL c.last code } w' := by
  have c9 : w.cell? ⟨cb, 9, none⟩ = some (.pointer (some ⟨c.sb, 0, none⟩)) := h.cell 9
  have HC := vl h
  have HLS := vl (klast_any c.sb c.last w h.scell)
  have HW1 := vl (kword_any c.last w h.hl.1 h.hl.2)
  have HLN := vl (big_len c.last)
  have HLM := vl (big_len code)
  clear h
  go_enter Tryz.func86, Tryz.ntmps86
  go_wp2_with fail
  refine HLS.out.mono ?_
  rintro e w' ⟨rfl, rfl⟩
  go_wp2_with fail
  refine HW1.out.mono ?_
  rintro e w1 ⟨g1, rfl, hu1, hb1⟩
  have HU1 := vl hu1
  have HB1 := vl hb1
  have HW2 := vl (kword_any code w1 h0 h1)
  have hs1 : w.heap.size ≤ w1.heap.size := hb1.size
  clear hu1 hb1 HW1 HLS c9
  go_wp2_with fail
  refine HW2.out.mono ?_
  rintro e w2 ⟨g2, rfl, hu2, hb2⟩
  have HU2 := vl hu2
  have HU1' := vl (HU1.out.below hb2)
  have HB2 := vl (HB1.out.trans (hb2.mono hs1))
  have hs2 : w.heap.size ≤ w2.heap.size := HB2.out.size
  have HA2 : Vl (Arg w2 (some ⟨g2, 0, none⟩) 4 4 (bigL 4 code)) := vl (by
    have h := HU2.out
    have e : (4 : Nat) = (bigL 4 code).length := HLM.out.symm
    have h' : UOwn w2 w1.heap.size (.slice (some ⟨g2, 0, none⟩) (bigL 4 code).length 4) (bigL 4 code) := by rw [← e]; exact h
    have := UOwn.arg h' (bytes_big code)
    rw [← e] at this
    exact this)
  clear hu2 hb2 HW2 HU1
  go_wp2_with (at_builtin; refine wpList_uapp _ rfl _ _ rfl w.heap.size _ (bigL 4 c.last) rfl HU1'.out (some ⟨g2, 0, none⟩) 4 4 (bigL 4 code) rfl HA2.out (fun h => by cases h) (by rw [HLN.out]; decide) hs2 ?_)
  intro v3 w3 hu3 hg3 _
  obtain ⟨va, vc, rfl, _⟩ := hu3.slice
  have HB3 : Vl (Below w.heap.size w w3) := vl (HB2.out.grown hg3 hs2 (fun k hk => (HU1'.out.base k hk).1))
  have HC3 := vl (HC.out.below HB3.out)
  have hle : (bigL 4 c.last ++ bigL 4 code).length = 8 := by rw [List.length_append, HLN.out, HLM.out]
  rw [hle] at hu3
  have HA3 : Vl (Arg w3 va 8 vc (bigL 4 c.last ++ bigL 4 code)) := vl (by
    have h' : UOwn w3 w.heap.size (.slice va (bigL 4 c.last ++ bigL 4 code).length vc) (bigL 4 c.last ++ bigL 4 code) := by rw [hle]; exact hu3
    have := UOwn.arg h' (bytes_app (bytes_big _) (bytes_big _))
    rw [hle] at this
    exact this)
  have HS := vl (ksay_any cb c rv sv 6 0 0 va 8 vc (bigL 4 c.last ++ bigL 4 code) w3 HC3.out HA3.out hs (bye_ok _ _))
  rw [hle]
  clear hu3 hg3 HU1' HA2 HU2 HB1 HB2 hle
  go_wp2_with fail
  refine HS.out.mono ?_
  rintro e w4 ⟨⟨v4, rfl⟩, ht⟩
  have HT := vl ht
  clear ht
  go_wp2
  go_end0
  exact ⟨⟨_, rfl⟩, CnT.from HB3.out HT.out⟩
theorem kends_any (k fl st : Int) (bv : Value) (hbv : bv.oneCell' = true) (w : World) :
    Calls Tryz.prog 189 #[.agg #[.int .i64 k, .int .i64 fl, .int .i64 st, bv]] w fun e w' => e = .returned (.bool (bits .and .i64 fl 1 != 0)) ∧ Below w.heap.size w w' := by
  have hb := (Below.refl _ w).alloc (Nat.le_refl _) (.cells #[.int .i64 k, .int .i64 fl, .int .i64 st, bv] 60 (0, 0))
  have HB := vl hb
  clear hb
  cases bv <;> simp [Value.oneCell'] at hbv
  all_goals
    go_enter Tryz.func189, Tryz.ntmps189
    go_wp2
    go_ret
    exact ⟨rfl, HB.out⟩
theorem kover_any (cb : Nat) (c : CnS) (rv sv : Value) (w : World) (h : CnL w cb c rv sv) : Calls Tryz.prog 25 #[.pointer (some ⟨cb, 0, none⟩)] w fun e w' => e = .returned (.bool c.over) ∧ w = w' := by
  have c3 : w.cell? ⟨cb, 3, none⟩ = some (.bool c.over) := h.cell 3
  clear h
  go_enter Tryz.func25, Tryz.ntmps25
  go_wp2
  go_ret
  exact ⟨rfl, rfl⟩
end Go.Proofs.YtdlaaollamgplagGreatDoor
/-
  ONE SIDE OF A CONNECTION: forget; events in a row. No claim by itself.
-/
namespace Go.Proofs.YtdlaaollamgplagGreatDoor
open Go Go.RowKit
set_option maxRecDepth 100000
/-- What came takes another row's place. -/
theorem CnL.heard {w w1 : World} {cb : Nat} {c : CnS} {rv sv v' : Value} {L : List Int} (h : CnL w cb c rv sv) (hg : w.grownBy w1 rv.ownBlock) (hu : UOwn w1 0 v' L) (hv : ∀ k, v'.ownBlock = some k → rv.ownBlock = some k ∨ w.heap.size ≤ k) (hb : Bytes L) :
    CnL (w1.setCell ⟨cb, 0, none⟩ v') cb { c with rest := L } v' sv ∧ Tn (CnF cb rv sv) w (w1.setCell ⟨cb, 0, none⟩ v') ∧ ∀ k, CnF cb v' sv k → CnF cb rv sv k ∨ w.heap.size ≤ k := by
  have hcb := h.lt
  have hsb := h.slt
  have k1 : ∀ k, v'.ownBlock = some k → k ≠ cb ∧ k ≠ c.sb := fun k e => by
    rcases hv k e with h1 | h1
    · exact h.nr k h1
    · omega
  have ho : ∀ k, k ≠ cb → (w1.setCell ⟨cb, 0, none⟩ v').heap[k]? = w1.heap[k]? := fun k hk => Below.heap_setCell w1 ⟨cb, 0, none⟩ v' k hk
  have hs : w1.heap.size ≤ (w1.setCell ⟨cb, 0, none⟩ v').heap.size := by simp
  have hr : w1.heap[cb]? = some (.cells (cnRow c rv sv) 117 (0, 0)) := (hg.block cb hcb (fun e => (h.nr cb e.symm).1 rfl)).trans h.row
  refine ⟨⟨?_, ?_, ?_, k1, h.ns, ?_, hb, h.bs, h.sne, ?_, h.hl⟩, ?_, ?_⟩
  · exact heap_setCell_same w1 cb 0 _ _ v' hr
  · exact hu.block hs fun k e => ho k (k1 k e).1
  · exact h.said.block (Nat.le_trans hg.size hs) fun k e => (ho k (h.ns k e).1).trans (hg.block k (h.said.base k e).2 (fun e' => h.rs k e'.symm e))
  · intro k e e'
    rcases hv k e with h1 | h1
    · exact h.rs k h1 e'
    · have := (h.said.base k e').2; omega
  · exact (World.cell?_of_block (a := ⟨c.sb, 1, none⟩) ((ho _ h.sne).trans (hg.block _ hsb (fun e => (h.nr _ e.symm).2 rfl)))).trans h.scell
  · exact (tn_grown hg (fun k e => Or.inr (Or.inl e))).trans2 (tn_set (S := CnF cb rv sv) (a := ⟨cb, 0, none⟩) (Or.inl rfl)) (fun k hk => Or.inl hk)
  · rintro k (e | e | e)
    · exact Or.inl (Or.inl e)
    · exact (hv k e).imp (fun x => Or.inr (Or.inl x)) id
    · exact Or.inl (Or.inr (Or.inr e))
theorem kforget_over (cb : Nat) (c : CnS) (rv sv : Value) (n : Int) (w : World) (h : CnL w cb c rv sv) (ho : c.over = true) :
    Calls Tryz.prog 71 #[.pointer (some ⟨cb, 0, none⟩), .int .i64 n] w fun e w' => (∃ v, e = .returned v) ∧ CnT w cb rv sv { c with rest := [] } w' := by
  obtain ⟨ra, rc, rfl, _⟩ := h.rest.slice
  have c3 : w.cell? ⟨cb, 3, none⟩ = some (.bool true) := (h.cell 3).trans (by show some (Value.bool c.over) = _; rw [ho])
  have c0 : w.cell? ⟨cb, 0, none⟩ = some (.slice ra c.rest.length rc) := h.cell 0
  have f0 := h.frozen 0
  have HFIN : Vl (CnT w cb (.slice ra c.rest.length rc) sv { c with rest := [] } (w.setCell ⟨cb, 0, none⟩ (.slice none 0 0))) := vl ⟨.slice none 0 0, sv, h.heard (w1 := w) (v' := .slice none 0 0) (L := []) ⟨rfl, rfl, rfl, Nat.le_refl _, fun _ _ _ => rfl⟩ (Or.inl ⟨rfl, rfl⟩) (fun k e => by cases e) (fun x hx => by cases hx)⟩
  clear h ho
  go_enter Tryz.func71, Tryz.ntmps71
  go_wp2
  go_end0
  exact ⟨⟨_, rfl⟩, HFIN.out⟩
/-- What lies behind a place of a row of one's own. -/
theorem kcut_arg {w : World} {base : Nat} {ra : Option Addr} {rc n : Nat} {L : List Int} (h : UOwn w base (.slice ra L.length rc) L) (hb : Bytes L) (hn : n ≤ L.length) (hp : 0 < n) :
    ∃ g, ra = some ⟨g, 0, none⟩ ∧ ∃ o, (if rc = n then some (⟨g, 0, none⟩ : Addr) else some ⟨g, n, none⟩) = some ⟨g, o, none⟩ ∧ Arg w (some ⟨g, o, none⟩) (L.length - n) (rc - n) (L.drop n) := by
  have hl0 : 0 < L.length := by omega
  rcases h with ⟨_, rfl⟩ | ⟨g, cap, hv, h1, h2, h3, h4, h5, _⟩
  · simp at hl0
  · cases hv
    refine ⟨g, rfl, ?_⟩
    by_cases hc : rc = n
    · exact ⟨0, if_pos hc, Or.inl ⟨by omega, List.eq_nil_of_length_eq_zero (by rw [List.length_drop]; omega)⟩⟩
    · refine ⟨n, if_neg hc, Or.inr ⟨g, n, rfl, by rw [List.length_drop], by omega, by omega, fun t ht => ?_, bytes_getD (bytes_drop hb n)⟩⟩
      rw [show (L.drop n).getD t 0 = L.getD (n + t) 0 by simp [List.getD, List.getElem?_drop]]
      exact h5 (n + t) (by omega)
theorem kforget_some (cb : Nat) (c : CnS) (rv sv : Value) (n : Nat) (w : World) (h : CnL w cb c rv sv) (ho : c.over = false) (hp : 0 < n) (hn : n ≤ c.rest.length) (hbig : c.rest.length ≤ 140737488355328) :
    Calls Tryz.prog 71 #[.pointer (some ⟨cb, 0, none⟩), .int .i64 (n : Nat)] w fun e w' => (∃ v, e = .returned v) ∧ CnT w cb rv sv { c with rest := c.rest.drop n } w' := by
  obtain ⟨ra, rc, rfl, hcl, hcm⟩ := h.rest.slice
  obtain ⟨g, rfl, o, hof, hA⟩ := kcut_arg h.rest h.br hn hp
  have c3 : w.cell? ⟨cb, 3, none⟩ = some (.bool false) := (h.cell 3).trans (by show some (Value.bool c.over) = _; rw [ho])
  have c0 : w.cell? ⟨cb, 0, none⟩ = some (.slice (some ⟨g, 0, none⟩) c.rest.length rc) := h.cell 0
  have hn' : (n : Int) ≤ (c.rest.length : Int) := by omega
  have hp' : (0 : Int) < (n : Int) := by omega
  have hcl' : (c.rest.length : Int) ≤ (rc : Int) := by omega
  have HC := vl h
  have HCL := vl (clone_some ⟨g, o, none⟩ (c.rest.length - n) (rc - n) (c.rest.drop n) w (by rw [List.length_drop]) (by omega) (by
    rcases hA with ⟨h0, _⟩ | ⟨g', o', e, hr⟩
    · exact Or.inl h0
    · exact Or.inr ⟨g', o', by cases e; rfl, hr⟩))
  have hbd : Bytes (c.rest.drop n) := bytes_drop h.br n
  have HBD := vl hbd
  clear h ho hA hbd
  go_enter Tryz.func71, Tryz.ntmps71
  go_wp2_with fail
  refine HCL.out.mono ?_
  rintro e w1 ⟨g', c', rfl, ho1, hb1⟩
  have hle : (c.rest.drop n).length = c.rest.length - n := by rw [List.length_drop]
  have HU : Vl (UOwn w1 w.heap.size (.slice (some ⟨g', 0, none⟩) (c.rest.length - n) c') (c.rest.drop n)) := vl (by
    have : w1.ownsRow w.heap.size 5 1 (.slice (some ⟨g', 0, none⟩) (c.rest.length - n) c') (c.rest.drop n).length ((c.rest.drop n).map (Value.int .u8)) := by rw [hle]; exact ho1
    exact UOwn.of this)
  have HC1 := vl (HC.out.below hb1)
  have HB1 := vl hb1
  have d0 : w1.cell? ⟨cb, 0, none⟩ = some (.slice (some ⟨g, 0, none⟩) c.rest.length rc) := HC1.out.cell 0
  have f0 := HC1.out.frozen 0
  have hgn : w.heap.size ≤ g' := (HU.out.base g' rfl).1
  have HFIN : Vl (CnT w cb (.slice (some ⟨g, 0, none⟩) c.rest.length rc) sv { c with rest := c.rest.drop n } (w1.setCell ⟨cb, 0, none⟩ (.slice (some ⟨g', 0, none⟩) (c.rest.length - n) c'))) := vl (by
    obtain ⟨k1, k2, k3⟩ := HC.out.heard (w1 := w1) (v' := .slice (some ⟨g', 0, none⟩) (c.rest.length - n) c') (L := c.rest.drop n) ⟨hb1.os, hb1.tape, hb1.output, hb1.size, fun k hk _ => hb1.block k hk⟩ (HU.out.mono (Nat.zero_le _)) (fun k e => Or.inr (by cases e; exact hgn)) HBD.out
    exact ⟨_, _, k1, k2, k3⟩)
  clear ho1 hb1 HC HC1 HU hle hgn hof
  go_wp2
  go_end0
  exact ⟨⟨_, rfl⟩, HFIN.out⟩
end Go.Proofs.YtdlaaollamgplagGreatDoor
/-
  ONE SIDE OF A CONNECTION: New. No claim by itself.
-/
namespace Go.Proofs.YtdlaaollamgplagGreatDoor
open Go Go.RowKit
set_option maxRecDepth 100000
theorem kmay_any (w : World) : Calls Tryz.prog 151 #[.int .i64 4096] w fun e w' => e = .returned (.bool true) ∧ w = w' := by
  go_enter Tryz.func151, Tryz.ntmps151
  go_wp2
  go_ret
  exact ⟨rfl, rfl⟩
theorem ktnew_any (w : World) : Calls Tryz.prog 89 #[.int .i64 4096] w fun e w' => (∃ b, e = .returned (.tuple #[.pointer (some ⟨b, 0, none⟩), .nilIface])) ∧ Below w.heap.size w w' := by
  go_enter Tryz.func89, Tryz.ntmps89
  go_wp2_with fail
  refine (kmay_any w).mono ?_
  rintro e w' ⟨rfl, rfl⟩
  go_wp2
  go_ret2
  exact ⟨⟨_, rfl⟩, (Below.refl _ w).alloc (Nat.le_refl _) _⟩
theorem khnew_any (w : World) : Calls Tryz.prog 37 #[.int .i64 4096] w fun e w' => (∃ b, e = .returned (.tuple #[.pointer (some ⟨b, 0, none⟩), .nilIface])) ∧ Below w.heap.size w w' := by
  go_enter Tryz.func37, Tryz.ntmps37
  go_wp2_with fail
  refine (ktnew_any w).mono ?_
  rintro e w1 ⟨⟨b1, rfl⟩, hb1⟩
  have HB1 := vl hb1
  clear hb1
  go_wp2_with fail
  refine (ktnew_any w1).mono ?_
  rintro e w2 ⟨⟨b2, rfl⟩, hb2⟩
  have HB2 := vl (HB1.out.trans (hb2.mono HB1.out.size))
  clear hb2
  go_wp2
  go_ret2
  exact ⟨⟨_, rfl⟩, HB2.out.alloc HB2.out.size _⟩
theorem kfits_any (w : World) : Calls Tryz.prog 184 #[.int .i64 2000] w fun e w' => e = .returned (.bool true) ∧ w = w' := by
  go_enter Tryz.func184, Tryz.ntmps184
  go_wp2
  go_ret
  exact ⟨rfl, rfl⟩
theorem kwnew_any (w : World) : Calls Tryz.prog 121 #[.int .i64 2000] w fun e w' => (∃ b, e = .returned (.tuple #[.pointer (some ⟨b, 0, none⟩), .nilIface])) ∧ Below w.heap.size w w' := by
  go_enter Tryz.func121, Tryz.ntmps121
  go_wp2_with fail
  refine (kfits_any w).mono ?_
  rintro e w' ⟨rfl, rfl⟩
  go_wp2
  go_ret2
  exact ⟨⟨_, rfl⟩, (Below.refl _ w).alloc (Nat.le_refl _) _⟩
theorem kwindow_any (w : World) : Calls Tryz.prog 63 #[.int .i64 2000] w fun e w' => (∃ b, e = .returned (.pointer (some ⟨b, 0, none⟩))) ∧ Below w.heap.size w w' := by
  go_enter Tryz.func63, Tryz.ntmps63
  go_wp2_with fail
  refine (kwnew_any w).mono ?_
  rintro e w1 ⟨⟨b1, rfl⟩, hb1⟩
  have HB1 := vl hb1
  clear hb1
  go_wp2
  go_ret
  exact ⟨⟨_, rfl⟩, HB1.out⟩
theorem ksnew_any (w : World) : Calls Tryz.prog 62 #[] w fun e w' => ∃ b, e = .returned (.pointer (some ⟨b, 0, none⟩)) ∧ w.heap.size ≤ b ∧ w'.cell? ⟨b, 1, none⟩ = some (.int .i64 0) ∧ Below w.heap.size w w' := by
  have m3 : ∀ w, (Instr.makeMap 113 none).run Tryz.prog w = .ok (.map (some w.heap.size)) (w.alloc (.map #[] 0)) := fun _ => by kernel_rfl
  go_enter Tryz.func62, Tryz.ntmps62
  go_wp2
  go_ret
  refine ⟨_, rfl, by simp, ?_, ((Below.refl _ w).alloc (Nat.le_refl _) _).alloc (by simp) _⟩
  have h1 := cell_of_row _ _ 1 _ _ _ (heap_alloc_new (w.alloc (.map #[] 0)) (.cells #[.map (some w.heap.size), .int .i64 0] 171 (0, 0)))
  rw [World.size_alloc] at h1
  exact h1
/-- What a connection is at first. -/
structure CnNew (c : CnS) : Prop where
  rest : c.rest = []
  begun : c.begun = false
  over : c.over = false
  bfr : c.bfr = 0
  bby : c.bby = .slice none 0 0
  queue : c.queue = .slice none 0 0
  last : c.last = 0
set_option maxHeartbeats 4000000 in
theorem knew_any (w : World) : Calls Tryz.prog 22 #[] w fun e w' => ∃ cb c rv sv, e = .returned (.pointer (some ⟨cb, 0, none⟩)) ∧ CnL w' cb c rv sv ∧ CnNew c ∧ c.said = frmL (4, 0, 0, []) ∧ Below w.heap.size w w' ∧ (∀ k, CnF cb rv sv k → w.heap.size ≤ k) ∧ w.heap.size ≤ c.sb := by
  go_enter Tryz.func22, Tryz.ntmps22
  go_wp2_with fail
  refine (khnew_any w).mono ?_
  rintro e w1 ⟨⟨b1, rfl⟩, hb1⟩
  have HB1 := vl hb1
  clear hb1
  go_wp2_with fail
  refine (ksnew_any w1).mono ?_
  rintro e w2 ⟨sb, rfl, hsb, hsc, hb2⟩
  have HB2 := vl (HB1.out.trans (hb2.mono HB1.out.size))
  have HSC := vl hsc
  have hsz1 : w.heap.size ≤ w1.heap.size := HB1.out.size
  clear hb2 hsc
  go_wp2_with fail
  refine (kwindow_any w2).mono ?_
  rintro e w3 ⟨⟨b3, rfl⟩, hb3⟩
  have HB3 := vl (HB2.out.trans (hb3.mono HB2.out.size))
  have HSC3 := vl ((hb3.cell (p := ⟨sb, 1, none⟩) (blk_of_cell HSC.out)).trans HSC.out)
  clear hb3
  go_wp2_with fail
  refine (kwindow_any w3).mono ?_
  rintro e w4 ⟨⟨b4, rfl⟩, hb4⟩
  have HB4 := vl (HB3.out.trans (hb4.mono HB3.out.size))
  have HSC4 := vl ((hb4.cell (p := ⟨sb, 1, none⟩) (blk_of_cell HSC3.out)).trans HSC3.out)
  have m1 : ∀ w, (Instr.makeMap 111 none).run Tryz.prog w = .ok (.map (some w.heap.size)) (w.alloc (.map #[] 0)) := fun _ => by kernel_rfl
  have m2 : ∀ w, (Instr.makeMap 112 none).run Tryz.prog w = .ok (.map (some w.heap.size)) (w.alloc (.map #[] 0)) := fun _ => by kernel_rfl
  have m3 : ∀ w, (Instr.makeMap 113 none).run Tryz.prog w = .ok (.map (some w.heap.size)) (w.alloc (.map #[] 0)) := fun _ => by kernel_rfl
  clear hb4
  obtain ⟨W5, hW5⟩ : ∃ x, x = (((w4.alloc (.map #[] 0)).alloc (.map #[] 0)).alloc (.map #[] 0)).alloc (.cells #[.slice none 0 0, .slice none 0 0, .bool false, .bool false, .int .i64 0, .int .i64 0, .bool false, .slice none 0 0, .pointer (some ⟨b1, 0, none⟩), .pointer (some ⟨sb, 0, none⟩), .pointer (some ⟨b3, 0, none⟩), .pointer (some ⟨b4, 0, none⟩), .int .i64 2000, .map (some w4.heap.size), .slice none 0 0, .map (some (w4.heap.size + 1)), .map (some (w4.heap.size + 1 + 1)), .int .i64 0] 117) := ⟨_, rfl⟩
  have hb5 : Below w4.heap.size w4 W5 := by rw [hW5]; exact ((((Below.refl _ w4).alloc (Nat.le_refl _) _).alloc (by simp) _).alloc (by simp; omega) _).alloc (by simp; omega) _
  have hrow : W5.heap[w4.heap.size + 1 + 1 + 1]? = some (.cells #[.slice none 0 0, .slice none 0 0, .bool false, .bool false, .int .i64 0, .int .i64 0, .bool false, .slice none 0 0, .pointer (some ⟨b1, 0, none⟩), .pointer (some ⟨sb, 0, none⟩), .pointer (some ⟨b3, 0, none⟩), .pointer (some ⟨b4, 0, none⟩), .int .i64 2000, .map (some w4.heap.size), .slice none 0 0, .map (some (w4.heap.size + 1)), .map (some (w4.heap.size + 1 + 1)), .int .i64 0] 117 (0, 0)) := by
    rw [hW5]
    have h1 := heap_alloc_new (((w4.alloc (.map #[] 0)).alloc (.map #[] 0)).alloc (.map #[] 0)) (.cells #[.slice none 0 0, .slice none 0 0, .bool false, .bool false, .int .i64 0, .int .i64 0, .bool false, .slice none 0 0, .pointer (some ⟨b1, 0, none⟩), .pointer (some ⟨sb, 0, none⟩), .pointer (some ⟨b3, 0, none⟩), .pointer (some ⟨b4, 0, none⟩), .int .i64 2000, .map (some w4.heap.size), .slice none 0 0, .map (some (w4.heap.size + 1)), .map (some (w4.heap.size + 1 + 1)), .int .i64 0] 117 (0, 0))
    rw [World.size_alloc, World.size_alloc, World.size_alloc] at h1
    exact h1
  have hsl : sb < w4.heap.size := blk_of_cell HSC4.out
  have HC5 : Vl (CnL W5 (w4.heap.size + 1 + 1 + 1) ⟨[], [], false, false, 0, 0, false, .slice none 0 0, .pointer (some ⟨b1, 0, none⟩), .pointer (some ⟨b3, 0, none⟩), .pointer (some ⟨b4, 0, none⟩), .map (some w4.heap.size), .slice none 0 0, .map (some (w4.heap.size + 1)), .map (some (w4.heap.size + 1 + 1)), sb, 0, 2000, 0⟩ (.slice none 0 0) (.slice none 0 0)) :=
    vl ⟨hrow, Or.inl ⟨rfl, rfl⟩, Or.inl ⟨rfl, rfl⟩, (fun k e => by cases e), (fun k e => by cases e), (fun k e => by cases e), (fun x hx => by cases hx), (fun x hx => by cases hx), Nat.ne_of_lt (show sb < w4.heap.size + 1 + 1 + 1 by omega), (hb5.cell (p := ⟨sb, 1, none⟩) hsl).trans HSC4.out, ⟨Int.le_refl 0, by show (0 : Int) ≤ 2147483647; decide⟩⟩
  have HB5 := vl (HB4.out.trans (hb5.mono HB4.out.size))
  have hw4 : w.heap.size ≤ w4.heap.size := HB4.out.size
  have HSY := vl (ksay_any (w4.heap.size + 1 + 1 + 1) _ _ _ 4 0 0 none 0 0 [] W5 HC5.out (Or.inl ⟨rfl, rfl⟩) (by simp) (by decide))
  clear hb5 hrow HC5 HSC4 HSC3 HSC HB1 HB2 HB3
  go_wp2_with fail
  rw [← hW5]
  clear hW5
  refine HSY.out.mono ?_
  rintro e w6 ⟨⟨v6, rfl⟩, rv', sv', hC6, hT6, hF6⟩
  have HC6 := vl hC6
  have HB6 : Vl (Below w.heap.size w w6) := vl (hT6.below HB5.out HB5.out.size (fun k hk => by
    rcases hk with e | e | e
    · omega
    · cases e
    · cases e))
  have HF6 : Vl (∀ k, CnF (w4.heap.size + 1 + 1 + 1) rv' sv' k → w.heap.size ≤ k) := vl (fun k hk => by
    rcases hF6 k hk with (e | e | e) | e
    · omega
    · cases e
    · cases e
    · have := HB5.out.size; omega)
  clear hC6 hT6 hF6 HSY HB5
  go_wp2
  go_ret
  exact ⟨_, _, rv', sv', rfl, HC6.out, ⟨rfl, rfl, rfl, rfl, rfl, rfl, rfl⟩, rfl, HB6.out, HF6.out, by show w.heap.size ≤ sb; omega⟩
end Go.Proofs.YtdlaaollamgplagGreatDoor
/-
  ONE SIDE OF A CONNECTION: Feed, where it is over. No claim by itself.
-/
namespace Go.Proofs.YtdlaaollamgplagGreatDoor
open Go Go.RowKit
set_option maxRecDepth 100000
theorem kfeed_over (cb : Nat) (c : CnS) (rv sv : Value) (a : Option Addr) (len cap : Nat) (w : World) (h : CnL w cb c rv sv) (ho : c.over = true) :
    Calls Tryz.prog 27 #[.pointer (some ⟨cb, 0, none⟩), .slice a len cap] w fun e w' => e = .returned (.slice none 0 0) ∧ w = w' := by
  have c3 : w.cell? ⟨cb, 3, none⟩ = some (.bool true) := (h.cell 3).trans (by show some (Value.bool c.over) = _; rw [ho])
  clear h ho
  go_enter Tryz.func27, Tryz.ntmps27
  go_wp2
  go_ret
  exact ⟨rfl, rfl⟩
/-- One event in a row of its own. -/
def EvOne (w : World) (base : Nat) (v : Value) (a b d : Int) (fv bv : Value) (e : Bool) : Prop := ∃ g cap cur, v = .slice (some ⟨g, 0, none⟩) 1 cap ∧ base ≤ g ∧ w.heap[g]? = some (.cells cur 68 (0, 0)) ∧ 1 ≤ cap ∧ cur.toList.take 6 = [.int .i64 a, .int .i64 b, .int .i64 d, fv, bv, .bool e]
theorem k_infoE : (Tryz.prog.info? 68).map (fun i => (i.zero, i.size, i.bytes)) = some (some (.agg #[.int .i64 0, .int .i64 0, .int .i64 0, .slice none 0 0, .slice none 0 0, .bool false]), 6, 80) := by kernel_rfl
theorem k_add (g o n : Nat) : (⟨g, o, none⟩ : Addr).add n = ⟨g, o + n, none⟩ := by unfold Addr.add; split <;> simp_all
/-- Append of one event to none. -/
theorem wpList_evapp {ops : Array Oper} {rest : List Oper} {o : Oper} {a : Act} {Q : Exit → Act → World → Prop} (w : World) (hgd : o.guard = none) (s x : Operand)
    (ho : o.op = .call { callee := .builtin .append, args := #[s, x], argTypes := #[64, 64] }) (base : Nat) (p q r : Int) (fv bv : Value) (e : Bool) (hs : a.eval s = .slice none 0 0)
    (hx : a.eval x = .slice (some ⟨w.heap.size, 0, none⟩) 1 1) (h1 : fv.oneCell' = true) (h2 : bv.oneCell' = true) (hbase : base ≤ w.heap.size)
    (h : ∀ v' w', EvOne w' base v' p q r fv bv e → Below (w.heap.size + 1) (w.alloc (.cells #[.int .i64 p, .int .i64 q, .int .i64 r, fv, bv, .bool e] 68)) w' → (∀ k, v'.ownBlock = some k → w.heap.size < k) → wpList Tryz.prog ops Q rest (a.put o.dst v') w') : wpList Tryz.prog ops Q (o :: rest) a (w.alloc (.cells #[.int .i64 p, .int .i64 q, .int .i64 r, fv, bv, .bool e] 68)) := by
  obtain ⟨i0, hi, hz0, hz1, hz2⟩ := info_parts k_infoE
  refine wpList_append_own _ hgd s x 64 ho (w.heap.size + 1) 68 i0 (.agg #[.int .i64 0, .int .i64 0, .int .i64 0, .slice none 0 0, .slice none 0 0, .bool false]) 6 80 Tryz.underlying64 hi hz0 hz1 hz2 rfl (by decide) (.slice none 0 0) 0 [] hs ⟨rfl, Or.inl ⟨rfl, rfl⟩⟩ ⟨w.heap.size, 0, none⟩ 1 1 [.int .i64 p, .int .i64 q, .int .i64 r, fv, bv, .bool e] hx rfl ?_ ?_ (by unfold maxLen; omega) (by omega) (by rw [World.size_alloc]; omega) ?_
  · intro j y hj
    have hh : (w.alloc (.cells #[.int .i64 p, .int .i64 q, .int .i64 r, fv, bv, .bool e] 68)).heap[w.heap.size]? = some (.cells #[.int .i64 p, .int .i64 q, .int .i64 r, fv, bv, .bool e] 68 (0, 0)) := heap_alloc_new w _
    rw [k_add]
    simp only [World.cell?, hh, Nat.zero_add]
    match j with
    | 0 => exact hj
    | 1 => exact hj
    | 2 => exact hj
    | 3 => exact hj
    | 4 => exact hj
    | 5 => exact hj
    | j + 6 => simp at hj
  · intro y hy
    simp at hy
    rcases hy with rfl | rfl | rfl | rfl | rfl | rfl <;> first | rfl | assumption
  · intro v' w' h3 h4 _
    obtain ⟨_, ⟨rfl, hn⟩ | ⟨g, cap, cur, rfl, hg, hc, h5, h6, h7, h8⟩⟩ := h3
    · simp at hn
    · refine h _ w' ⟨g, cap, cur, rfl, by omega, hc, h5, ?_⟩ ?_ (fun k hk => by have e : g = k := Option.some.inj hk; omega)
      · simpa using h8
      · exact ⟨h4.os, h4.tape, h4.output, h4.size, fun k hk => h4.block k (by rw [World.size_alloc]; omega) (by simp [Value.ownBlock])⟩
end Go.Proofs.YtdlaaollamgplagGreatDoor
