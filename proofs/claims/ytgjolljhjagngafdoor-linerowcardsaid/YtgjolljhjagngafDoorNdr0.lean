/-
  MESSAGES AS LINES: the developers' ReadAsk: its memory, and the function that reads the last line. No claim by itself.
-/
import Derived.Test.YtgjolljhjagngafDoorNdv11
import Derived.Test.YtgjolljhjagngafDoorNdv13
import Derived.BigRegion
import Derived.Handy
namespace Go.Proofs.YtgjolljhjagngafDoor
open Go Go.RowKit Go.Shelf
set_option maxRecDepth 100000
/-- A request's five cells. -/
def RB (w : World) (x : Nat) (m p h : ByteArray) (fv bv : Value) : Prop := w.heap[x]? = some (.cells #[.string m, .string p, .string h, fv, bv] 34 (0, 0))
section
variable {w w' : World} {x lb : Nat} {m p h : ByteArray} {fv bv : Value}
theorem RB.lt (k : RB w x m p h fv bv) : x < w.heap.size := (Array.getElem?_eq_some_iff.1 k).1
theorem RB.cells (k : RB w x m p h fv bv) : w.cell? ⟨x, 0, none⟩ = some (.string m) ∧ w.cell? ⟨x, 1, none⟩ = some (.string p) ∧ w.cell? ⟨x, 2, none⟩ = some (.string h) ∧ w.cell? ⟨x, 3, none⟩ = some fv ∧ w.cell? ⟨x, 4, none⟩ = some bv := by
  unfold RB at k
  simp only [World.cell?, k]
  exact ⟨rfl, rfl, rfl, rfl, rfl⟩
theorem RB.frozen (k : RB w x m p h fv bv) (i : Nat) : w.frozen? ⟨x, i, none⟩ = false := by
  unfold RB at k
  unfold World.frozen?
  rw [k]
  simp
theorem RB.tl (k : RB w x m p h fv bv) (hx : x ≠ lb) (ht : Tr lb w w') : RB w' x m p h fv bv := (ht.block x k.lt hx).trans k
theorem RB.on (k : RB w x m p h fv bv) (hb : Below w.heap.size w w') : RB w' x m p h fv bv := (hb.block x k.lt).trans k
theorem RB.other {y i : Nat} {v : Value} (k : RB w x m p h fv bv) (hx : x ≠ y) : RB (w.setCell ⟨y, i, none⟩ v) x m p h fv bv := (Below.heap_setCell _ _ _ _ hx).trans k
theorem RB.s0 (k : RB w x m p h fv bv) (s : ByteArray) : RB (w.setCell ⟨x, 0, none⟩ (.string s)) x s p h fv bv := by unfold RB at *; simp [World.setCell, Array.getElem?_modify, k]
theorem RB.s1 (k : RB w x m p h fv bv) (s : ByteArray) : RB (w.setCell ⟨x, 1, none⟩ (.string s)) x m s h fv bv := by unfold RB at *; simp [World.setCell, Array.getElem?_modify, k]
theorem RB.s2 (k : RB w x m p h fv bv) (s : ByteArray) : RB (w.setCell ⟨x, 2, none⟩ (.string s)) x m p s fv bv := by unfold RB at *; simp [World.setCell, Array.getElem?_modify, k]
theorem RB.s3 (k : RB w x m p h fv bv) (s : Value) : RB (w.setCell ⟨x, 3, none⟩ s) x m p h s bv := by unfold RB at *; simp [World.setCell, Array.getElem?_modify, k]
theorem RB.s4 (k : RB w x m p h fv bv) (s : Value) : RB (w.setCell ⟨x, 4, none⟩ s) x m p h fv s := by unfold RB at *; simp [World.setCell, Array.getElem?_modify, k]
end
theorem n_setg (w : World) (y i : Nat) (v : Value) : w.grownBy (w.setCell ⟨y, i, none⟩ v) (some y) := ⟨rfl, rfl, rfl, by simp [World.setCell], fun k _ hk => Below.heap_setCell _ _ _ _ (fun e => hk (by rw [e]))⟩
/-- A row of fields that the call itself made. -/
theorem nfrow_of {w : World} {base : Nat} {sa : Option Addr} {n sc : Nat} {L : List (ByteArray × ByteArray)} (h : FOwn w base (.slice sa n sc) L) : n = L.length ∧ FArg w sa n sc L := by
  obtain ⟨_, ⟨hv, h0⟩ | ⟨g, cap, cur, hv, _, _, hc, hm, _⟩⟩ := id h
  · cases hv
    have e := List.eq_nil_of_length_eq_zero h0
    subst e
    exact ⟨rfl, Or.inl ⟨rfl, rfl⟩⟩
  · cases hv
    refine ⟨rfl, Or.inr ⟨g, 0, rfl, rfl, hc, hm, fun t ht => ?_, fun t ht => ?_⟩⟩
    · have hc := h.cellAt (2 * t) (by omega)
      rw [show 0 + t * 2 = 2 * t from by omega, hc, (fcells_at L t (by omega)).1]
    · have hc := h.cellAt (2 * t + 1) (by omega)
      rw [show 0 + t * 2 + 1 = 2 * t + 1 from by omega, hc, (fcells_at L t (by omega)).2]
theorem fown_set {w : World} {base y i : Nat} {u v : Value} {L : List (ByteArray × ByteArray)} (h : FOwn w base v L) (hy : y < base) : FOwn (w.setCell ⟨y, i, none⟩ u) base v L :=
  World.ownsRow.kept h (n_setg w y i u) (Or.inr (fun e => by have := (h.lt y e).1; omega))
theorem fsmall_at {L : List (ByteArray × ByteArray)} (h : fsmall L) (t : Nat) : (L.getD t fnone).1.size ≤ 140737488351232 ∧ (L.getD t fnone).2.size ≤ 140737488351232 := by
  by_cases ht : t < L.length
  · have hm : L.getD t fnone ∈ L := by rw [List.getD, List.getElem?_eq_getElem ht]; exact List.getElem_mem _
    have := h _ hm
    omega
  · have e : L.getD t fnone = fnone := by simp [List.getD, List.getElem?_eq_none (show L.length ≤ t by omega)]
    rw [e]; decide
/-- A request, stored into its five cells as one. -/
theorem run_rqstore' {w : World} {x : Nat} {m p h m' p' h' : ByteArray} {fv bv fv' bv' : Value} (k : RB w x m p h fv bv) (h1 : fv'.oneCell' = true) (h2 : bv'.oneCell' = true) :
    (Instr.storeAt 34 (.pointer (some ⟨x, 0, none⟩)) (.agg #[.string m', .string p', .string h', fv', bv'])).run Tryd.prog w = .ok () (w.setRow x #[.string m', .string p', .string h', fv', bv']) := by
  have hk : w.heap[x]? = some (.cells #[.string m, .string p, .string h, fv, bv] 34 (0, 0)) := k
  have hst := run_storeCells_from (P := Tryd.prog) x 34 [.string m', .string p', .string h', fv', bv'] 0 _ w hk rfl (by intro v hv; simp at hv; rcases hv with rfl | rfl | rfl | rfl | rfl <;> first | rfl | assumption)
  have hsz : (sizeOf 34).run Tryd.prog w = .ok 5 w := by kernel_rfl
  have hcs : (Value.agg #[.string m', .string p', .string h', fv', bv']).cells = #[.string m', .string p', .string h', fv', bv'] := rfl
  simp only [Instr.storeAt, Instr.sureAddr, Sem.run_bind, Sem.run_pure, Result.andThen, storeVar, hsz, hcs]
  simpa using hst
theorem rq_row {w : World} {x : Nat} {m p h m' p' h' : ByteArray} {fv bv fv' bv' : Value} (k : RB w x m p h fv bv) : RB (w.setRow x #[.string m', .string p', .string h', fv', bv']) x m' p' h' fv' bv' := setRow_heap w x _ _ _ _ k
theorem row_grown (w : World) (x : Nat) (cs : Array Value) : w.grownBy (w.setRow x cs) (some x) := ⟨rfl, rfl, rfl, by simp [World.setRow], fun k _ hk => setRow_other w x k _ (fun e => hk (by rw [e]))⟩
theorem run_rqstore {w : World} {x : Nat} {m p h m' p' h' : ByteArray} {fv bv fv' bv' : Value} (k : RB w x m p h fv bv) (h1 : fv'.oneCell' = true) (h2 : bv'.oneCell' = true) :
    ∃ w', (Instr.storeAt 34 (.pointer (some ⟨x, 0, none⟩)) (.agg #[.string m', .string p', .string h', fv', bv'])).run Tryd.prog w = .ok () w' ∧ RB w' x m' p' h' fv' bv' ∧ w.grownBy w' (some x) :=
  ⟨_, run_rqstore' k h1 h2, rq_row k, row_grown w x _⟩
section
variable (w : World) {ops : Array Oper} {rest : List Oper} {o : Oper} {a : Act} {Q : Exit → Act → World → Prop}
theorem wpList_rqstore (hgd : o.guard = none) (s x : Operand) (ho : o.op = .store 34 s x) (n : Nat) (m p h m' p' h' : ByteArray) (fv bv fv' bv' : Value) (hs : a.eval s = .pointer (some ⟨n, 0, none⟩)) (hx : a.eval x = .agg #[.string m', .string p', .string h', fv', bv']) (hB : RB w n m p h fv bv) (h1 : fv'.oneCell' = true) (h2 : bv'.oneCell' = true)
    (h0 : ∀ w', RB w' n m' p' h' fv' bv' → w.grownBy w' (some n) → wpList Tryd.prog ops Q rest (a.put o.dst undef) w') : wpList Tryd.prog ops Q (o :: rest) a w := by
  refine wpList_plain hgd fun K hK => ?_
  obtain ⟨w', hr, h3, h4⟩ := run_rqstore (m' := m') (p' := p') (h' := h') hB h1 h2
  unfold Oper.wp execOp
  simp only [ho, Sem.run_bind, Sem.run_pure, Result.andThen_ok, hs, hx, hr]
  exact hK _ _ (h0 w' h3 h4)
end
theorem wpAny_cast {P : Program} {md : Region.Mode} {ops : Array Oper} {Q : Exit → Act → World → Prop} {fuel : Nat} {l l' : Array Bool} {a : Act} {w : World} (e : l = l') (h : wpAny P md ops Q fuel l' a w) : wpAny P md ops Q fuel l a w := by rw [e]; exact h
section
variable {ops : Array Oper} {o : Oper} {a : Act} {w : World} {K : Act → World → Prop} {Q : Exit → Act → World → Prop} {E : Prop}
theorem step_rqload (hg : o.guard = none) (s : Operand) (ho : o.op = .load 34 s) (n : Nat) (m p h : ByteArray) (fv bv : Value) (hs : a.eval s = .pointer (some ⟨n, 0, none⟩)) (hB : RB w n m p h fv bv)
    (hK : K (a.put o.dst (.agg #[.string m, .string p, .string h, fv, bv])) w) : if Region.wanted o (yielded ops a.tmps) = true then Oper.wp Tryd.prog o a w K Q else E := by
  have hw : Region.wanted o (yielded ops a.tmps) = true := by simp [Region.wanted, hg]
  rw [if_pos hw]
  obtain ⟨c0, c1, c2, c3, c4⟩ := hB.cells
  have hr : (Instr.loadAt 34 (.pointer (some ⟨n, 0, none⟩))).run Tryd.prog w = .ok (.agg #[.string m, .string p, .string h, fv, bv]) w := by
    simp [go_sem, c0, c1, c2, c3, c4]
  unfold Oper.wp execOp
  simp only [ho, Sem.run_bind, Sem.run_pure, Result.andThen_ok, hs, hr]
  exact hK
theorem step_rqstore (hg : o.guard = none) (s x : Operand) (ho : o.op = .store 34 s x) (n : Nat) (m p h m' p' h' : ByteArray) (fv bv fv' bv' : Value) (hs : a.eval s = .pointer (some ⟨n, 0, none⟩)) (hx : a.eval x = .agg #[.string m', .string p', .string h', fv', bv']) (hB : RB w n m p h fv bv) (h1 : fv'.oneCell' = true) (h2 : bv'.oneCell' = true)
    (hK : K (a.put o.dst undef) (w.setRow n #[.string m', .string p', .string h', fv', bv'])) : if Region.wanted o (yielded ops a.tmps) = true then Oper.wp Tryd.prog o a w K Q else E := by
  have hw : Region.wanted o (yielded ops a.tmps) = true := by simp [Region.wanted, hg]
  rw [if_pos hw]
  have hr := run_rqstore' (m' := m') (p' := p') (h' := h') hB h1 h2
  unfold Oper.wp execOp
  simp only [ho, Sem.run_bind, Sem.run_pure, Result.andThen_ok, hs, hx, hr]
  exact hK
end
section
variable {β : Type} {G : Int × β × List Int} {K : Pz β} {w0 wx : World} {lb : Nat} {a : Option Addr} {len cap : Nat} {Z : List Int}
theorem Dst.grown {w' : World} {row : Option Nat} (h : Dst G K w0 wx lb a len cap Z) (hg : wx.grownBy w' row) (hr : ∀ k, row = some k → w0.heap.size ≤ k ∧ k ≠ lb) : Dst G K w0 w' lb a len cap Z := by
  obtain ⟨q, bad, h1, h2⟩ := h
  exact ⟨q, bad, h1.grown hg hr, h2⟩
theorem Dst.set {y i : Nat} {v : Value} (h : Dst G K w0 wx lb a len cap Z) (h1 : w0.heap.size ≤ y) (h2 : y ≠ lb) : Dst G K w0 (wx.setCell ⟨y, i, none⟩ v) lb a len cap Z :=
  h.grown (n_setg wx y i v) (fun k hk => by cases hk; exact ⟨h1, h2⟩)
theorem Dst.any {K' : Pz β} {q : Nat} {bad : Int} (h1 : RS w0 wx lb a len cap Z q bad) (h2 : bad ≠ 0) (h3 : G.1 = bad) : Dst G K' w0 wx lb a len cap Z := ⟨q, bad, h1, Or.inr ⟨h2, h3⟩⟩
theorem Dst.to {K' : Pz β} (h : Dst G K w0 wx lb a len cap Z) (e : ∀ b, K b = K' b) : Dst G K' w0 wx lb a len cap Z := by
  obtain ⟨q, bad, h1, h2⟩ := h
  exact ⟨q, bad, h1, h2.imp (fun h => ⟨h.1, h.2.trans (e _)⟩) id⟩
variable [Inhabited β]
theorem bind_congr {α : Type} {p : Pz α} {f g : α → Pz β} {b : List Int} (h : ∀ v r, p b = (0, v, r) → f v r = g v r) : bindP p f b = bindP p g b := by
  unfold bindP
  split
  · rename_i h1
    exact h _ _ (Prod.ext h1 rfl)
  · rfl
/-- A reading that cannot come about. -/
def noP (G : Int × β × List Int) : Pz β := fun _ => (G.1 + 1, default, [])
theorem Dst.never (h : Dst G (noP G) w0 wx lb a len cap Z) : ∃ q bad, RS w0 wx lb a len cap Z q bad ∧ bad ≠ 0 ∧ G.1 = bad := by
  obtain ⟨q, bad, h1, h2⟩ := h
  rcases h2 with ⟨rfl, h2⟩ | ⟨h2, h3⟩
  · have := congrArg (·.1) h2
    simp [noP] at this
    omega
  · exact ⟨q, bad, h1, h2, h3⟩
/-- A length that was read is none below 0. -/
def lenK (G : Int × β × List Int) (f : Int × Bool → Pz β) (v : Int) : Pz β := if v < 0 then noP G else f (v, false)
theorem len_lenK {least : Int} (hl : 0 ≤ least) {f : Int × Bool → Pz β} (b : List Int) : bindP (bindP (lenQ least) fun v => retP (v, false)) f b = bindP (lenQ least) (lenK G f) b := by
  rw [bind_assoc]
  refine bind_congr (fun v r h => ?_)
  obtain ⟨n, hn, _⟩ := lenQ_inv hl h
  unfold lenK
  rw [if_neg (by omega), bind_ret]
/-- A head that was read has no length of -2. -/
def hdK (G : Int × β × List Int) (f : Hd → Pz β) (h : Hd) : Pz β := if h.2.1 = -2 then noP G else f h
theorem hd_hdK {least : Int} (hl : 0 ≤ least) {coded : Bool} {f : Hd → Pz β} (b : List Int) : bindP (headP least coded 40 []) f b = bindP (headP least coded 40 []) (hdK G f) b := by
  refine bind_congr (fun v r h => ?_)
  obtain ⟨l, n, pc⟩ := v
  obtain ⟨l', _, _, _, hat⟩ := head_inv hl 40 [] h
  unfold hdK
  rw [if_neg]
  show n ≠ -2
  rcases hat with ⟨h1, _⟩ | ⟨v, h1, _⟩ | ⟨_, h1, _⟩ <;> omega
end
/-- What the last line said, in memory. -/
def CapA (lb rb sb : Nat) (v : Int × Bool) (W : World) : Prop :=
  W.heap[rb]? = some (.cells #[rptr lb] 93 (0, 0)) ∧ ∃ n : Int, W.heap[sb]? = some (.cells #[.int .i64 n] 3 (0, 0)) ∧ -100000 ≤ n ∧ n ≤ 100000 ∧ (v.1 = -2 ∨ (0 ≤ n ∧ v.1.toNat = n.toNat))
theorem CapA.kept {lb rb sb : Nat} {v : Int × Bool} {W W' : World} (h : CapA lb rb sb v W) (h1 : W'.heap[rb]? = W.heap[rb]?) (h2 : W'.heap[sb]? = W.heap[sb]?) : CapA lb rb sb v W' := by
  obtain ⟨k1, n, k2, k3⟩ := h
  exact ⟨h1.trans k1, n, h2.trans k2, k3⟩
theorem nra1_no (rb sb : Nat) (n : ByteArray) (W : World) (hn : unums n ≠ lengthN) : Calls Tryd.prog 58 #[.string n, .pointer (some ⟨rb, 0, none⟩), .pointer (some ⟨sb, 0, none⟩)] W fun e w' => e = .returned (.bool false) ∧ Below W.heap.size W w' := by
  have q2 : ¬ n.toList = [108, 101, 110, 103, 116, 104] := fun e => hn (toL_length.1 e)
  have q2' : (n.toList == [108, 101, 110, 103, 116, 104]) = false := by simpa using q2
  go_enter Tryd.func58, Tryd.ntmps58
  go_wp2
  go_ret
  exact ⟨rfl, Below.refl _ _⟩
set_option maxHeartbeats 2000000 in
theorem nra1_yes {β : Type} [Inhabited β] {G : Int × β × List Int} {w0 W : World} {lb : Nat} {a : Option Addr} {len cap : Nat} {Z : List Int} (rb sb : Nat) (d1 : rb ≠ lb) (d2 : sb ≠ lb) (d3 : rb ≠ sb) (d4 : w0.heap.size ≤ sb) (f : Int × Bool → Pz β) (n : ByteArray) (hn : unums n = lengthN) (hc : CapA lb rb sb (-1, false) W) (h : Dst G (bindP (bindP (lenQ 1) fun v => retP (v, false)) f) w0 W lb a len cap Z) :
    Calls Tryd.prog 58 #[.string n, .pointer (some ⟨rb, 0, none⟩), .pointer (some ⟨sb, 0, none⟩)] W fun e w' => e = .returned (.bool true) ∧ ∃ v, Dst G (f v) w0 w' lb a len cap Z ∧ CapA lb rb sb v w' ∧ Tn (fun k => k = lb ∨ k = rb ∨ k = sb) W w' := by
  have q2 : n.toList = [108, 101, 110, 103, 116, 104] := toL_length.2 hn
  have H1 := vl (length_st 1 (by omega) (h.to (fun b => len_lenK (G := G) (by omega) b)))
  obtain ⟨hr, n0, hs, _⟩ := hc
  have r0 := (o1 hr).1
  have HR := vl hr
  have HS := vl hs
  unfold rptr at H1 r0
  clear hr hs h hn
  go_enter Tryd.func58, Tryd.ntmps58
  go_wp2_with fail
  refine H1.out.mono ?_
  rintro e w1 ⟨x, rfl, x1, x2, hd, ht⟩
  have hs1 : w1.heap[sb]? = some (.cells #[.int .i64 n0] 3 (0, 0)) := (ht.block sb (Array.getElem?_eq_some_iff.1 HS.out).1 d2).trans HS.out
  have hr1 : w1.heap[rb]? = some (.cells #[rptr lb] 93 (0, 0)) := (ht.block rb (Array.getElem?_eq_some_iff.1 HR.out).1 d1).trans HR.out
  have s1 := (o1 hs1).2
  have s2 := (o1 hs1).1
  have HD : Vl (∃ v, Dst G (f v) w0 (w1.setCell ⟨sb, 0, none⟩ (.int .i64 x)) lb a len cap Z ∧ CapA lb rb sb v (w1.setCell ⟨sb, 0, none⟩ (.int .i64 x)) ∧ Tn (fun k => k = lb ∨ k = rb ∨ k = sb) W (w1.setCell ⟨sb, 0, none⟩ (.int .i64 x))) := by
    have hd2 := hd.set (y := sb) (i := 0) (v := .int .i64 x) d4 d2
    have e1 : (w1.setCell ⟨sb, 0, none⟩ (.int .i64 x)).heap[rb]? = some (.cells #[rptr lb] 93 (0, 0)) := (Below.heap_setCell _ _ _ _ d3).trans hr1
    have e2 : (w1.setCell ⟨sb, 0, none⟩ (.int .i64 x)).heap[sb]? = some (.cells #[.int .i64 x] 3 (0, 0)) := by simp [World.setCell, Array.getElem?_modify, hs1]
    have e3 : Tn (fun k => k = lb ∨ k = rb ∨ k = sb) W (w1.setCell ⟨sb, 0, none⟩ (.int .i64 x)) := tn_trans (tn_tr (Or.inl rfl) ht) ⟨rfl, rfl, rfl, by simp [World.setCell], fun k _ hk => Below.heap_setCell _ _ _ _ (fun e => hk (Or.inr (Or.inr e)))⟩
    unfold lenK at hd2
    by_cases hx : x < 0
    · rw [if_pos hx] at hd2
      obtain ⟨q, bad, k1, k2, k3⟩ := hd2.never
      exact ⟨(-2, false), Dst.any k1 k2 k3, ⟨e1, x, e2, by omega, by omega, Or.inl rfl⟩, e3⟩
    · rw [if_neg hx] at hd2
      exact ⟨(x, false), hd2, ⟨e1, x, e2, by omega, by omega, Or.inr ⟨by omega, rfl⟩⟩, e3⟩
  clear hd ht hs1 hr1 H1
  go_wp2
  go_ret
  exact ⟨rfl, HD.out⟩
theorem last_ask {β : Type} [Inhabited β] {w0 : World} {lb : Nat} {a : Option Addr} {len cap : Nat} {Z : List Int} (rb sb : Nat) (d1 : rb ≠ lb) (d2 : sb ≠ lb) (d3 : rb ≠ sb) (d4 : w0.heap.size ≤ sb) :
    LastSaid β w0 lb a len cap Z 1 false 58 #[.pointer (some ⟨rb, 0, none⟩), .pointer (some ⟨sb, 0, none⟩)] (CapA lb rb sb) (fun k => k = lb ∨ k = rb ∨ k = sb) where
  enters := enters_of Tryd.func58 (by kernel_rfl) rfl
  no := fun n W _ hl => by
    refine nra1_no rb sb n W (fun e => ?_)
    unfold lastP at hl
    rw [if_pos e] at hl
    cases hl
  yes := fun G f n p W hl hc hd => by
    unfold lastP at hl
    split at hl
    · rename_i e
      cases hl
      exact nra1_yes rb sb d1 d2 d3 d4 f n e hc hd
    · rw [if_neg (fun e => by cases e.2)] at hl
      cases hl
  keepR := fun v W W' h ht => h.kept (ht.block rb (Array.getElem?_eq_some_iff.1 h.1).1 d1) (by obtain ⟨_, n, k, _⟩ := h; exact ht.block sb (Array.getElem?_eq_some_iff.1 k).1 d2)
  keepG := fun W W' h hk => h.kept (hk rb (Or.inr (Or.inl rfl))) (hk sb (Or.inr (Or.inr rfl)))
end Go.Proofs.YtgjolljhjagngafDoor
