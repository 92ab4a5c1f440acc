/-
  CONTRACT of the Go function bytes.Clone. No claim by itself.
-/
import Derived.Lib.AppendZerosOnto
import Derived.Lib.SliceRun
import Derived.Lib.Walk
import Derived.Deep.Upon
import Derived.Test.YtibipnipeaeonaaGreatDoorML
import Derived.Test.YtibipnipeaeonaaGreatDoorMD
namespace Go.Proofs.YtibipnipeaeonaaGreatDoor
open Go Go.RowKit Go.Shelf
set_option maxRecDepth 100000
/-- Nothing is cloned as nothing. -/
theorem clone_none (n c : Nat) (w : World) :
    Calls Tryz.prog 39 #[.slice none n c] w fun e w' => e = .returned (.slice none 0 0) ∧ w = w' := by
  have q : ∀ (w : World) (a : Option Addr) (n c n' c' : Nat), (binOp .eql 34 (.slice a n c) (.slice none n' c')).run Tryz.prog w = .ok (.bool a.isNone) w := fun w a n c n' c' => Lib.run_eql_slice_nil w _ _ a n c n' c' Tryz.underlying34
  go_enter Tryz.func39, Tryz.ntmps39
  go_wp2
  go_ret
  exact ⟨rfl, rfl⟩
theorem info5 : (Tryz.prog.info? 5).map (fun i => (i.zero, i.size, i.bytes)) = some (some (.int .u8 0), 1, 1) := by kernel_rfl
set_option maxHeartbeats 2000000 in
theorem clone_some (a : Addr) (n c : Nat) (Z : List Int) (w : World) (hZ : Z.length = n) (hbig : n ≤ 140737488355328) (hc : n = 0 ∨ ∃ g off, a = ⟨g, off, none⟩ ∧ Row w g off n c Z) :
    Calls Tryz.prog 39 #[.slice (some a) n c] w fun e w' => ∃ g' c', e = .returned (.slice (some ⟨g', 0, none⟩) n c') ∧ w'.ownsRow w.heap.size 5 1 (.slice (some ⟨g', 0, none⟩) n c') n (Z.map (Value.int .u8)) ∧ Below w.heap.size w w' := by
  have q : ∀ (w : World) (a : Option Addr) (n c n' c' : Nat), (binOp .eql 34 (.slice a n c) (.slice none n' c')).run Tryz.prog w = .ok (.bool a.isNone) w := fun w a n c n' c' => Lib.run_eql_slice_nil w _ _ a n c n' c' Tryz.underlying34
  obtain ⟨i0, hi, hz0, hz1, hz2⟩ := info_parts info5
  have A : Vl (∀ j u, (Z.map (Value.int .u8))[j]? = some u → (w.alloc (.cells #[] 5)).cell? (a.add j) = some u) := by
    intro j u hj
    have hjn : j < Z.length := by
      have := (List.getElem?_eq_some_iff.1 hj).1
      simpa using this
    rcases hc with h0 | ⟨g, off, rfl, hr⟩
    · omega
    · have hb := hr.below ((Below.refl _ w).alloc (Nat.le_refl _) (.cells #[] 5))
      have hx := hb.hcell j (by omega)
      have e : (Z.map (Value.int .u8))[j]? = some (Value.int .u8 (Z.getD j 0)) := by simp [List.getD, List.getElem?_eq_getElem hjn]
      rw [e] at hj
      have hplain : (⟨g, off, none⟩ : Addr).add j = ⟨g, off + j, none⟩ := by unfold Addr.add; split <;> simp_all
      rw [hplain, hx]; exact hj
  clear hc
  go_enter Tryz.func39, Tryz.ntmps39
  go_wp2_with (at_builtin; refine wpList_append_own _ rfl _ _ 34 rfl w.heap.size 5 i0 (.int .u8 0) 1 1 Tryz.underlying34 hi hz0 hz1 hz2 rfl (by decide) _ _ _ rfl (World.ownsRow_made w #[] 0 (Nat.le_refl _) (Nat.zero_le _) rfl) a n c (Z.map (Value.int .u8)) rfl ?qc1 ?qc2 ?qc3 ?qc4 ?qc5 ?qc6 ?_)
  case qc1 => simp; omega
  case qc2 => exact A.out
  case qc3 => intro u hu; obtain ⟨x, _, rfl⟩ := List.mem_map.1 hu; rfl
  case qc4 => unfold maxLen; omega
  case qc5 => omega
  case qc6 => simp
  intro v' w1 hown hgrow hnil
  go_wp2
  go_ret
  have hnn : v' ≠ .slice none 0 0 := by
    first | exact hnil | (intro e; exact absurd (hnil.1 e).1 (by simp))
  have hB : Below w.heap.size w w1 := ((Below.refl _ w).alloc (Nat.le_refl _) _).grown hgrow (by simp) (by intro k hk; simp [Value.ownBlock] at hk; omega)
  have hown' : w1.ownsRow w.heap.size 5 1 v' n (Z.map (Value.int .u8)) := by simpa using hown
  obtain ⟨q1, ⟨q2, _⟩ | ⟨g', c', cur, rfl, q3⟩⟩ := hown'
  · exact absurd q2 hnn
  · exact ⟨g', c', rfl, ⟨q1, Or.inr ⟨g', c', cur, rfl, q3⟩⟩, hB⟩
/-- Bytes, cloned. -/
theorem clone_arg (a : Option Addr) (n c : Nat) (Z : List Int) (w : World) (hA : Arg w a n c Z) (hnil : a = none → n = 0) (hbig : n ≤ 140737488355328) :
    Calls Tryz.prog 39 #[.slice a n c] w fun e w' => ∃ v, e = .returned v ∧ UOwn w' w.heap.size v Z ∧ Below w.heap.size w w' := by
  have hz := hA.len
  match a with
  | none =>
    have hn := hnil rfl
    refine (clone_none n c w).mono ?_
    rintro e w' ⟨rfl, rfl⟩
    exact ⟨_, rfl, Or.inl ⟨rfl, List.eq_nil_of_length_eq_zero (by omega)⟩, Below.refl _ _⟩
  | some x =>
    refine (clone_some x n c Z w hz hbig ?_).mono ?_
    · rcases hA with ⟨h0, _⟩ | ⟨g, off, he, hr⟩
      · exact Or.inl h0
      · cases he
        exact Or.inr ⟨g, off, rfl, hr⟩
    · rintro e w' ⟨g', c', rfl, ho, hb⟩
      refine ⟨_, rfl, UOwn.of (by rw [hz]; exact ho), hb⟩
end Go.Proofs.YtibipnipeaeonaaGreatDoor
/-
  WHAT WAS ANSWERED: a reply copied: the developers' copyOf. No claim by itself.
-/
namespace Go.Proofs.YtibipnipeaeonaaGreatDoor
open Go Go.RowKit
set_option maxRecDepth 100000
def NewA (w : World) (a : Option Addr) : Prop := ∀ p, a = some p → w.heap.size ≤ p.block
theorem arg_len {w : World} {a : Option Addr} {n c : Nat} {Z : List Int} (h : Arg w a n c Z) : Z.length = n := by
  rcases h with ⟨rfl, rfl⟩ | ⟨g, off, _, hr⟩
  · rfl
  · exact hr.hlen
theorem own_arg {w : World} {base g n c : Nat} {Z : List Int} (hb : ∀ t, 0 ≤ Z.getD t 0 ∧ Z.getD t 0 < 256) (hl : Z.length = n) (h : w.ownsRow base 5 1 (.slice (some ⟨g, 0, none⟩) n c) n (Z.map (Value.int .u8))) : Arg w (some ⟨g, 0, none⟩) n c Z := by
  have h2 := h.2
  rcases h2 with ⟨e, _⟩ | ⟨g', cap', cur, e, _, hg, hn, hc, hs, ht⟩
  · cases e
  · simp only [Value.slice.injEq, Option.some.injEq, Addr.mk.injEq, and_true, true_and] at e
    obtain ⟨rfl, rfl⟩ := e
    refine Or.inr ⟨g, 0, rfl, hl, hn, hc, fun t ht => ?_, hb⟩
    have := h.cellAt t (by omega)
    rw [Nat.zero_add, this]
    simp [List.getD, List.getElem?_eq_getElem (show t < Z.length by omega)]
theorem zclone_any (ba : Option Addr) (bn bc : Nat) (B : List Int) (w : World) (hA : Arg w ba bn bc B) (hnil : ba = none → bn = 0 ∧ bc = 0) (hbig : bn ≤ 140737488351232) :
    Calls Tryz.prog 39 #[.slice ba bn bc] w fun e w' => (∃ a' c', e = .returned (.slice a' bn c') ∧ Arg w' a' bn c' B ∧ (a' = none → bn = 0 ∧ c' = 0) ∧ NewA w a') ∧ Below w.heap.size w w' := by
  cases ba with
  | none =>
    obtain ⟨rfl, rfl⟩ := hnil rfl
    have hB : B = [] := List.length_eq_zero_iff.1 (arg_len hA)
    refine (clone_none 0 0 w).mono ?_
    rintro _ w' ⟨rfl, rfl⟩
    exact ⟨⟨none, 0, rfl, Or.inl ⟨rfl, hB⟩, fun _ => ⟨rfl, rfl⟩, fun p e => by cases e⟩, Below.refl _ _⟩
  | some a =>
    have hl := arg_len hA
    have hbyte : ∀ t, 0 ≤ B.getD t 0 ∧ B.getD t 0 < 256 := by
      rcases hA with ⟨_, rfl⟩ | ⟨g, off, _, hr⟩
      · intro t; simp
      · exact hr.hbyte
    refine (clone_some a bn bc B w hl (by omega) (by
      rcases hA with ⟨h0, _⟩ | ⟨g, off, e, hr⟩
      · exact Or.inl h0
      · exact Or.inr ⟨g, off, by injection e, hr⟩)).mono ?_
    rintro _ w' ⟨g', c', rfl, ho, hb⟩
    refine ⟨⟨some ⟨g', 0, none⟩, c', rfl, own_arg hbyte hl ho, (fun e => by cases e), fun p e => ?_⟩, hb⟩
    cases e
    exact (ho.lt g' rfl).1
/-- A row of fields is copied into a new one. -/
theorem fapp_nil (fa : Option Addr) (fn fc : Nat) (L : List FB) (w : World) (hA : FArg w fa fn fc L) (hm : fn ≤ 4398046511103) :
    ∃ a c w', (∀ ty, (Builtin.append_ #[33, 33] ty #[.slice none 0 0, .slice fa fn fc]).run Tryz.prog w = .ok (.slice a fn c) w') ∧ Below w.heap.size w w' ∧ FArg w' a fn c L ∧ NewA w a := by
  obtain ⟨i0, hi, hz0, hz1, hz2⟩ := info_parts n_infoF
  rcases hA with ⟨rfl, rfl⟩ | ⟨g, off, rfl, hr⟩
  · refine ⟨none, 0, w, fun ty => ?_, Below.refl _ _, Or.inl ⟨rfl, rfl⟩, fun p e => by cases e⟩
    have hs : Src Tryz.prog i0.size 33 (.slice fa 0 fc) 0 [] w := by
      refine ⟨Or.inl ⟨_, Tryz.underlying33⟩, fun w' => by simp [Builtin.lenOf], ?_, ?_, by simp, fun u hu => by cases hu⟩
      · cases fa <;> simp [Builtin.firstCells, loadCells, loadCellsFrom]
      · cases fa <;> simp [Builtin.firstCells, loadCells, loadCellsFrom]
    exact run_append_nothing w 33 33 ty 84 i0 Tryz.underlying33 hi none 0 0 (Nat.le_refl _) _ hs
  · by_cases h0 : fn = 0
    · subst h0
      have hL : L = [] := List.length_eq_zero_iff.1 hr.hlen
      subst hL
      refine ⟨none, 0, w, fun ty => ?_, Below.refl _ _, Or.inl ⟨rfl, rfl⟩, fun p e => by cases e⟩
      have hs : Src Tryz.prog i0.size 33 (.slice (some ⟨g, off, none⟩) 0 fc) 0 [] w := by
        refine ⟨Or.inl ⟨_, Tryz.underlying33⟩, fun w' => by simp [Builtin.lenOf], ?_, ?_, by simp, fun u hu => by cases hu⟩
        · simp [Builtin.firstCells, loadCells, loadCellsFrom]
        · simp [Builtin.firstCells, loadCells, loadCellsFrom]
      exact run_append_nothing w 33 33 ty 84 i0 Tryz.underlying33 hi none 0 0 (Nat.le_refl _) _ hs
    · have hpos : 0 < fn := by omega
      have hnews : ∀ j u, (fcells L)[j]? = some u → w.cell? ((⟨g, off, none⟩ : Addr).add j) = some u := by
        intro j u hj
        have hjl : j < L.length * 2 := by rw [← fcells_len]; exact (List.getElem?_eq_some_iff.1 hj).1
        have hll := hr.hlen
        have hat := fcells_at L (j / 2) (by omega)
        rw [n_add]
        rcases Nat.mod_two_eq_zero_or_one j with e | e
        · have ej : 2 * (j / 2) = j := by omega
          rw [ej] at hat
          rw [hat.1] at hj
          have := hr.hname (j / 2) (by omega)
          rw [show off + j / 2 * 2 = off + j by omega] at this
          rw [this]; exact hj
        · have ej : 2 * (j / 2) + 1 = j := by omega
          rw [ej] at hat
          rw [hat.2] at hj
          have := hr.hvalue (j / 2) (by omega)
          rw [show off + j / 2 * 2 + 1 = off + j by omega] at this
          rw [this]; exact hj
      have hrun := fun ty => run_append_nil w 33 ty 84 i0 (.agg #[.string ⟨#[]⟩, .string ⟨#[]⟩]) Tryz.underlying33 hi hz0 ⟨g, off, none⟩ fn fc (fcells L) (by rw [hz1, fcells_len, hr.hlen]) hnews hpos (by omega) (by rw [hz2]; omega)
      refine ⟨_, _, _, hrun, ?_, ?_, ?_⟩
      · exact ((Below.refl _ w).drew).alloc (Nat.le_refl _) _
      · have hh : (w.drew.alloc (.cells ((fcells L).toArray ++ Builtin.zeroCells (Value.agg #[.string ⟨#[]⟩, .string ⟨#[]⟩]).cells (grownCap w fn 0 84 - fn)) 84)).heap[w.heap.size]? = some (.cells ((fcells L).toArray ++ Builtin.zeroCells (Value.agg #[.string ⟨#[]⟩, .string ⟨#[]⟩]).cells (grownCap w fn 0 84 - fn)) 84 (0, 0)) := heap_alloc_new w.drew _
        have hll := hr.hlen
        refine Or.inr ⟨w.heap.size, 0, rfl, hll, grownCap_ge w _ _ _, grownCap_le_maxLen w _ _ _ (by unfold maxLen; omega), fun t ht => ?_, fun t ht => ?_⟩
        · rw [cell_of_row _ _ _ _ _ _ hh, Array.getElem?_append_left (by simp [fcells_len]; omega)]
          have := (fcells_at L t (by omega)).1
          rw [show 0 + t * 2 = 2 * t by omega]
          simpa using this
        · rw [cell_of_row _ _ _ _ _ _ hh, Array.getElem?_append_left (by simp [fcells_len]; omega)]
          have := (fcells_at L t (by omega)).2
          rw [show 0 + t * 2 + 1 = 2 * t + 1 by omega]
          simpa using this
      · intro p e
        cases e
        exact Nat.le_refl _
/-- A reply's cells. -/
structure PBx (W : World) (n : Nat) (q : RpM) : Prop where
  c0 : W.cell? ⟨n, 0, none⟩ = some (.int .i64 q.code)
  c1 : W.cell? ⟨n, 1, none⟩ = some (.slice q.fa q.fn q.fc)
  c2 : W.cell? ⟨n, 2, none⟩ = some (.slice q.ba q.bn q.bc)
theorem PBx.of {W : World} {n : Nat} {q : RpM} {t : TypeId} (h : W.heap[n]? = some (.cells #[.int .i64 q.code, .slice q.fa q.fn q.fc, .slice q.ba q.bn q.bc] t (0, 0))) : PBx W n q := by
  constructor <;> (rw [cell_of_row _ _ _ _ _ _ h]; rfl)
theorem PBx.below {W W' : World} {n : Nat} {q : RpM} (h : PBx W n q) (hb : Below W.heap.size W W') : PBx W' n q := by
  have hn := blk_of_cell h.c0
  exact ⟨(hb.cell (p := ⟨n, 0, none⟩) hn).trans h.c0, (hb.cell (p := ⟨n, 1, none⟩) hn).trans h.c1, (hb.cell (p := ⟨n, 2, none⟩) hn).trans h.c2⟩
/-- The same reply in other memory. -/
structure SameR (w : World) (q q' : RpM) : Prop where
  code : q'.code = q.code
  fn : q'.fn = q.fn
  bn : q'.bn = q.bn
  FL : q'.FL = q.FL
  B : q'.B = q.B
  newF : NewA w q'.fa
  newB : NewA w q'.ba
/-- An append whose run is known, inside a region that draws its order. -/
theorem step_append_run {P : Program} {ops : Array Oper} {o : Oper} {a : Act} {K : Act → World → Prop} {Q : Exit → Act → World → Prop} {E : Prop} {w w' : World} (hgd : o.guard = none) (s x : Operand) (t : TypeId)
    (ho : o.op = .call { callee := .builtin .append, args := #[s, x], argTypes := #[t, t] }) (v u r : Value) (hs : a.eval s = v) (hx : a.eval x = u) (hr : ∀ ty, (Builtin.append_ #[t, t] ty #[v, u]).run P w = .ok r w')
    (h : K (a.put o.dst r) w') : if Region.wanted o (yielded ops a.tmps) = true then Oper.wp P o a w K Q else E := by
  have hw : Region.wanted o (yielded ops a.tmps) = true := by simp [Region.wanted, hgd]
  rw [if_pos hw]
  have hr' := hr o.type
  unfold Oper.wp execOp
  simp only [ho, resolve, invoke, builtin, Sem.run_bind, Sem.run_pure, Result.andThen_ok, List.map_toArray, List.map_cons, List.map_nil, hs, hx, hr']
  exact h
/-- Cells of a reply's zero block, which can be written. -/
structure ZC (W : World) (n : Nat) : Prop where
  z1 : W.cell? ⟨n, 0, none⟩ = some (.int .i64 0)
  z2 : W.cell? ⟨n, 1, none⟩ = some (.slice none 0 0)
  z3 : W.cell? ⟨n, 2, none⟩ = some (.slice none 0 0)
  z4 : ∀ j, W.frozen? ⟨n, j, none⟩ = false
theorem ZC.of {W : World} {n : Nat} {t : TypeId} (h : W.heap[n]? = some (.cells #[.int .i64 0, .slice none 0 0, .slice none 0 0] t (0, 0))) : ZC W n :=
  ⟨by rw [cell_of_row _ _ _ _ _ _ h]; rfl, by rw [cell_of_row _ _ _ _ _ _ h]; rfl, by rw [cell_of_row _ _ _ _ _ _ h]; rfl, fun j => frozen_of_row W _ j _ _ h⟩
structure ClB (D W w' : World) (a' : Option Addr) (c' : Nat) (q : RpM) : Prop where
  arg : Arg w' a' q.bn c' q.B
  nil : a' = none → q.bn = 0 ∧ c' = 0
  new : NewA W a'
  step : Below W.heap.size W w'
  below : Below D.heap.size D w'
theorem farg_set {w : World} {a : Option Addr} {n c : Nat} {L : List FB} (h : FArg w a n c L) {b i : Nat} {v : Value} (hb : ∀ p, a = some p → p.block ≠ b) : FArg (w.setCell ⟨b, i, none⟩ v) a n c L := by
  rcases h with h | ⟨g, off, rfl, hr⟩
  · exact Or.inl h
  · have hg : (w.setCell ⟨b, i, none⟩ v).heap[g]? = w.heap[g]? := heap_setCell_other w ⟨b, i, none⟩ g v (fun e => hb _ rfl (by simpa using e))
    exact Or.inr ⟨g, off, rfl, hr.hlen, hr.hcap, hr.hmax, fun t ht => (World.cell?_of_block (a := ⟨g, off + t * 2, none⟩) hg).trans (hr.hname t ht), fun t ht => (World.cell?_of_block (a := ⟨g, off + t * 2 + 1, none⟩) hg).trans (hr.hvalue t ht)⟩
theorem arg_set {w : World} {a : Option Addr} {n c : Nat} {Z : List Int} (h : Arg w a n c Z) {b i : Nat} {v : Value} (hb : ∀ p, a = some p → p.block ≠ b) : Arg (w.setCell ⟨b, i, none⟩ v) a n c Z := by
  rcases h with h | ⟨g, off, rfl, hr⟩
  · exact Or.inl h
  · have hg : (w.setCell ⟨b, i, none⟩ v).heap[g]? = w.heap[g]? := heap_setCell_other w ⟨b, i, none⟩ g v (fun e => hb _ rfl (by simpa using e))
    exact Or.inr ⟨g, off, rfl, hr.hlen, hr.hcap, hr.hmax, fun t ht => (World.cell?_of_block (a := ⟨g, off + t, none⟩) hg).trans (hr.hcell t ht), hr.hbyte⟩
theorem zset3 {W : World} {n : Nat} {t : TypeId} {a b c x y z : Value} (h : W.heap[n]? = some (.cells #[a, b, c] t (0, 0))) : (((W.setCell ⟨n, 0, none⟩ x).setCell ⟨n, 1, none⟩ y).setCell ⟨n, 2, none⟩ z).heap[n]? = some (.cells #[x, y, z] t (0, 0)) :=
  heap_setCell_same _ n 2 _ t z (heap_setCell_same _ n 1 _ t y (heap_setCell_same W n 0 _ t x h))
set_option maxHeartbeats 4000000 in
theorem zcopy_any (q : RpM) (w : World) (hq : RpIn w q) (hs : q.fn ≤ 4398046511103) :
    Calls Tryz.prog 26 #[q.val] w fun e w' => (∃ q', e = .returned q'.val ∧ RpIn w' q' ∧ SameR w q q') ∧ Below w.heap.size w w' := by
  obtain ⟨W1, hW1⟩ : ∃ x, (w.alloc (.cells #[.int .i64 q.code, .slice q.fa q.fn q.fc, .slice q.ba q.bn q.bc] 38)).alloc (.cells #[.int .i64 0, .slice none 0 0, .slice none 0 0] 38) = x := ⟨_, rfl⟩
  have hB1 : Below w.heap.size w W1 := by rw [← hW1]; exact ((Below.refl _ w).alloc (Nat.le_refl _) _).alloc (by simp) _
  have hPB : PBx W1 w.heap.size q := PBx.of (t := 38) (by rw [← hW1]; exact (Below.heap_alloc _ _ _ (by simp)).trans (heap_alloc_new w _))
  have hZ : W1.heap[w.heap.size + 1]? = some (.cells #[.int .i64 0, .slice none 0 0, .slice none 0 0] 38 (0, 0)) := by
    rw [← hW1]
    have := heap_alloc_new (w.alloc (.cells #[.int .i64 q.code, .slice q.fa q.fn q.fc, .slice q.ba q.bn q.bc] 38)) (.cells #[.int .i64 0, .slice none 0 0, .slice none 0 0] 38 (0, 0))
    rwa [World.size_alloc] at this
  have HQ := vl hq
  have HS1 : Vl (W1.heap.size = w.heap.size + 2) := vl (by rw [← hW1]; simp)
  obtain ⟨c0, c1, c2⟩ := hPB
  show Calls Tryz.prog 26 #[.agg #[.int .i64 q.code, .slice q.fa q.fn q.fc, .slice q.ba q.bn q.bc]] w _
  have HBD : Vl (Below w.heap.size w W1.drew) := vl hB1.drew
  have HPB : Vl (∀ W, Below W1.drew.heap.size W1.drew W → PBx W w.heap.size q) := vl (fun W hb => (PBx.below ⟨c0, c1, c2⟩ ((Below.refl _ W1).drew)).below hb)
  have HZZ : Vl (∀ W, Below W1.drew.heap.size W1.drew W → W.heap[w.heap.size + 1]? = some (.cells #[.int .i64 0, .slice none 0 0, .slice none 0 0] 38 (0, 0))) := vl (fun W hb => (hb.block _ (Array.getElem?_eq_some_iff.1 hZ).1).trans hZ)
  have HAP := vl (fun W (hb : Below W1.drew.heap.size W1.drew W) => fapp_nil q.fa q.fn q.fc q.FL W (hq.fields.below (HBD.out.trans (hb.mono HBD.out.size))) hs)
  have HCL : Vl (∀ W, Below W1.drew.heap.size W1.drew W → Calls Tryz.prog 39 #[.slice q.ba q.bn q.bc] W fun e w' => (∃ a' c', e = .returned (.slice a' q.bn c') ∧ ClB W1.drew W w' a' c' q) ∧ ZC w' (w.heap.size + 1)) := vl (fun W hb => (zclone_any q.ba q.bn q.bc q.B W (hq.body.below (HBD.out.trans (hb.mono HBD.out.size))) hq.nil hq.most.2).mono (by
    rintro e w' ⟨⟨a', c', rfl, h1, h2, h3⟩, h4⟩
    have hb' := hb.trans (h4.mono hb.size)
    exact ⟨⟨a', c', rfl, h1, h2, h3, h4, hb'⟩, ZC.of (HZZ.out w' hb')⟩))
  obtain ⟨qc, qfa, qfn, qfc, qba, qbn, qbc, QL, QB⟩ := q
  dsimp only at c0 c1 c2 HPB HAP HCL hW1 hs ⊢
  have HPC : Vl (∀ w' : World, Below W1.drew.heap.size W1.drew w' → w'.cell? ⟨w.heap.size, 0, none⟩ = some (.int .i64 qc) ∧ w'.cell? ⟨w.heap.size, 1, none⟩ = some (.slice qfa qfn qfc) ∧ w'.cell? ⟨w.heap.size, 2, none⟩ = some (.slice qba qbn qbc)) := vl (fun W hb => ⟨(HPB.out W hb).c0, (HPB.out W hb).c1, (HPB.out W hb).c2⟩)
  obtain ⟨a1, k1, WA, hrunA, hbA, hFA, hNA⟩ := HAP.out W1.drew (Below.refl _ _)
  have hbD : Below W1.drew.heap.size W1.drew W1.drew := Below.refl _ _
  clear hq hB1 hZ HPB
  go_enter Tryz.func26, Tryz.ntmps26
  go_wp2_with fail
  clear hW1
  go_region_held3 (fun w' => w'.cell? ⟨w.heap.size, 0, none⟩ = some (.int .i64 qc) ∧ w'.cell? ⟨w.heap.size, 1, none⟩ = some (.slice qfa qfn qfc) ∧ w'.cell? ⟨w.heap.size, 2, none⟩ = some (.slice qba qbn qbc))
    (first | go_keep | (with_reducible exact HPC.out _ hbA) | (with_reducible exact HPC.out _ hc2.below))
    (first
      | (go_at_call 39; refine (HCL.out _ hbA).mono ?_; rintro e w2 ⟨⟨a2, k2, rfl, hc2⟩, ⟨z1, z2, z3, z4⟩⟩)
      | (refine step_append_run rfl (.const (.slice none 0 0)) (.tmp 6) 33 rfl (.slice none 0 0) (.slice qfa qfn qfc) (.slice a1 qfn k1) (by simp [Act.eval]) (by simp [Act.eval]) hrunA ?_))
  obtain ⟨W4, hW4⟩ : ∃ W4, W4 = ((w2.setCell ⟨w.heap.size + 1, 0, none⟩ (.int .i64 qc)).setCell ⟨w.heap.size + 1, 1, none⟩ (.slice a1 qfn k1)).setCell ⟨w.heap.size + 1, 2, none⟩ (.slice a2 qbn k2) := ⟨_, rfl⟩
  have hsz1 : W1.drew.heap.size = w.heap.size + 2 := HS1.out
  have k4 : W4.heap[w.heap.size + 1]? = some (.cells #[.int .i64 qc, .slice a1 qfn k1, .slice a2 qbn k2] 38 (0, 0)) := by rw [hW4]; exact zset3 (HZZ.out w2 hc2.below)
  have r0 : W4.cell? ⟨w.heap.size + 1, 0, none⟩ = some (.int .i64 qc) := by rw [cell_of_row _ _ _ _ _ _ k4]; rfl
  have r1 : W4.cell? ⟨w.heap.size + 1, 1, none⟩ = some (.slice a1 qfn k1) := by rw [cell_of_row _ _ _ _ _ _ k4]; rfl
  have r2 : W4.cell? ⟨w.heap.size + 1, 2, none⟩ = some (.slice a2 qbn k2) := by rw [cell_of_row _ _ _ _ _ _ k4]; rfl
  have hN1 : ∀ p, a1 = some p → w.heap.size + 2 ≤ p.block := fun p hp => by have := hNA p hp; omega
  have hN2 : ∀ p, a2 = some p → w.heap.size + 2 ≤ p.block := fun p hp => by have := hc2.new p hp; have := hbA.size; omega
  have HF : Vl (FArg W4 a1 qfn k1 QL) := vl (by
    rw [hW4]
    have h := hFA.below hc2.step
    exact farg_set (farg_set (farg_set h (fun p hp => by have := hN1 p hp; omega)) (fun p hp => by have := hN1 p hp; omega)) (fun p hp => by have := hN1 p hp; omega))
  have HG : Vl (Arg W4 a2 qbn k2 QB) := vl (by
    rw [hW4]
    exact arg_set (arg_set (arg_set hc2.arg (fun p hp => by have := hN2 p hp; omega)) (fun p hp => by have := hN2 p hp; omega)) (fun p hp => by have := hN2 p hp; omega))
  have HB4 : Vl (Below w.heap.size w W4) := vl (by
    have h := HBD.out.trans (hc2.below.mono HBD.out.size)
    rw [hW4]
    exact ((h.setCell (p := ⟨w.heap.size + 1, 0, none⟩) (Nat.le_succ _) _).setCell (p := ⟨w.heap.size + 1, 1, none⟩) (Nat.le_succ _) _).setCell (p := ⟨w.heap.size + 1, 2, none⟩) (Nat.le_succ _) _)
  have HNL := vl hc2.nil
  have HN1 := vl hN1
  have HN2 := vl hN2
  rw [← hW4]
  clear hW4 k4 hN1 hN2 hc2 hFA hNA hbA z1 z2 z3 z4 hrunA HCL HAP hbD hsz1
  go_wp2_with fail
  refine bodyPost_ret (v := .agg #[.int .i64 qc, .slice a1 qfn k1, .slice a2 qbn k2]) (by simp [results, Tryz.results26, go_sem, r0, r1, r2]; try rfl) rfl ?_
  exact ⟨⟨⟨qc, a1, qfn, k1, a2, qbn, k2, QL, QB⟩, rfl, ⟨HQ.out.code, HF.out, HG.out, HNL.out, HQ.out.most, HQ.out.each⟩, ⟨rfl, rfl, rfl, rfl, rfl, fun p hp => by have := HN1.out p hp; omega, fun p hp => by have := HN2.out p hp; omega⟩⟩, HB4.out⟩
end Go.Proofs.YtibipnipeaeonaaGreatDoor
/-
  WHAT WAS ANSWERED: the developers' keep. No claim by itself.
-/
namespace Go.Proofs.YtibipnipeaeonaaGreatDoor
open Go Go.RowKit
set_option maxRecDepth 100000
/-- Cells of a kept reply's zero block, which can be written. -/
structure ZK (W : World) (n : Nat) : Prop where
  z0 : W.cell? ⟨n, 0, none⟩ = some (.string ⟨#[]⟩)
  z1 : W.cell? ⟨n, 1, none⟩ = some (.string ⟨#[]⟩)
  z2 : W.cell? ⟨n, 2, none⟩ = some (.slice none 0 0)
  z3 : W.cell? ⟨n, 3, none⟩ = some (.int .i64 0)
  z4 : W.cell? ⟨n, 4, none⟩ = some (.slice none 0 0)
  z5 : W.cell? ⟨n, 5, none⟩ = some (.slice none 0 0)
  z6 : W.cell? ⟨n, 6, none⟩ = some (.int .i64 0)
  fr : ∀ j, W.frozen? ⟨n, j, none⟩ = false
theorem ZK.of {W : World} {n : Nat} {t : TypeId} (h : W.heap[n]? = some (.cells #[.string ⟨#[]⟩, .string ⟨#[]⟩, .slice none 0 0, .int .i64 0, .slice none 0 0, .slice none 0 0, .int .i64 0] t (0, 0))) : ZK W n := by
  refine ⟨?_, ?_, ?_, ?_, ?_, ?_, ?_, fun j => frozen_of_row W _ j _ _ h⟩ <;> (rw [cell_of_row _ _ _ _ _ _ h]; rfl)
theorem zset7 {W : World} {n : Nat} {t : TypeId} {a b c d e f g x0 x1 x2 x3 x4 x5 x6 : Value} (h : W.heap[n]? = some (.cells #[a, b, c, d, e, f, g] t (0, 0))) :
    (((((((W.setCell ⟨n, 0, none⟩ x0).setCell ⟨n, 1, none⟩ x1).setCell ⟨n, 2, none⟩ x2).setCell ⟨n, 3, none⟩ x3).setCell ⟨n, 4, none⟩ x4).setCell ⟨n, 5, none⟩ x5).setCell ⟨n, 6, none⟩ x6).heap[n]? = some (.cells #[x0, x1, x2, x3, x4, x5, x6] t (0, 0)) := by
  have h0 : (W.setCell ⟨n, 0, none⟩ x0).heap[n]? = some (.cells #[x0, b, c, d, e, f, g] t (0, 0)) := heap_setCell_same W n 0 _ t x0 h
  generalize W.setCell ⟨n, 0, none⟩ x0 = W0 at *
  have h1 : (W0.setCell ⟨n, 1, none⟩ x1).heap[n]? = some (.cells #[x0, x1, c, d, e, f, g] t (0, 0)) := heap_setCell_same W0 n 1 _ t x1 h0
  generalize W0.setCell ⟨n, 1, none⟩ x1 = W1 at *
  have h2 : (W1.setCell ⟨n, 2, none⟩ x2).heap[n]? = some (.cells #[x0, x1, x2, d, e, f, g] t (0, 0)) := heap_setCell_same W1 n 2 _ t x2 h1
  generalize W1.setCell ⟨n, 2, none⟩ x2 = W2 at *
  have h3 : (W2.setCell ⟨n, 3, none⟩ x3).heap[n]? = some (.cells #[x0, x1, x2, x3, e, f, g] t (0, 0)) := heap_setCell_same W2 n 3 _ t x3 h2
  generalize W2.setCell ⟨n, 3, none⟩ x3 = W3 at *
  have h4 : (W3.setCell ⟨n, 4, none⟩ x4).heap[n]? = some (.cells #[x0, x1, x2, x3, x4, f, g] t (0, 0)) := heap_setCell_same W3 n 4 _ t x4 h3
  generalize W3.setCell ⟨n, 4, none⟩ x4 = W4 at *
  have h5 : (W4.setCell ⟨n, 5, none⟩ x5).heap[n]? = some (.cells #[x0, x1, x2, x3, x4, x5, g] t (0, 0)) := heap_setCell_same W4 n 5 _ t x5 h4
  generalize W4.setCell ⟨n, 5, none⟩ x5 = W5 at *
  exact heap_setCell_same W5 n 6 _ t x6 h5
/-- Seven cells of one block are written. -/
theorem set7_other {W : World} {n k : Nat} {x0 x1 x2 x3 x4 x5 x6 : Value} (h : k ≠ n) :
    (((((((W.setCell ⟨n, 0, none⟩ x0).setCell ⟨n, 1, none⟩ x1).setCell ⟨n, 2, none⟩ x2).setCell ⟨n, 3, none⟩ x3).setCell ⟨n, 4, none⟩ x4).setCell ⟨n, 5, none⟩ x5).setCell ⟨n, 6, none⟩ x6).heap[k]? = W.heap[k]? := by
  have o : ∀ (V : World) (i : Nat) (x : Value), (V.setCell ⟨n, i, none⟩ x).heap[k]? = V.heap[k]? := fun V i x => heap_setCell_other V ⟨n, i, none⟩ k x (by simpa using fun e => h e)
  rw [o, o, o, o, o, o, o]
theorem set7_below {W w0 : World} {B n : Nat} {x0 x1 x2 x3 x4 x5 x6 : Value} (h : Below B w0 W) (hn : B ≤ n) :
    Below B w0 (((((((W.setCell ⟨n, 0, none⟩ x0).setCell ⟨n, 1, none⟩ x1).setCell ⟨n, 2, none⟩ x2).setCell ⟨n, 3, none⟩ x3).setCell ⟨n, 4, none⟩ x4).setCell ⟨n, 5, none⟩ x5).setCell ⟨n, 6, none⟩ x6) :=
  ((((((h.setCell (p := ⟨n, 0, none⟩) hn x0).setCell (p := ⟨n, 1, none⟩) hn x1).setCell (p := ⟨n, 2, none⟩) hn x2).setCell (p := ⟨n, 3, none⟩) hn x3).setCell (p := ⟨n, 4, none⟩) hn x4).setCell (p := ⟨n, 5, none⟩) hn x5).setCell (p := ⟨n, 6, none⟩) hn x6
theorem farg_blk {w w' : World} {a : Option Addr} {n c : Nat} {L : List FB} (h : FArg w a n c L) (hb : ∀ p, a = some p → 0 < n → w'.heap[p.block]? = w.heap[p.block]?) : FArg w' a n c L := by
  rcases h with h | ⟨g, off, rfl, hr⟩
  · exact Or.inl h
  · have hg := hb _ rfl
    exact Or.inr ⟨g, off, rfl, hr.hlen, hr.hcap, hr.hmax, fun t ht => (World.cell?_of_block (a := ⟨g, off + t * 2, none⟩) (hg (by omega))).trans (hr.hname t ht), fun t ht => (World.cell?_of_block (a := ⟨g, off + t * 2 + 1, none⟩) (hg (by omega))).trans (hr.hvalue t ht)⟩
theorem arg_blk {w w' : World} {a : Option Addr} {n c : Nat} {Z : List Int} (h : Arg w a n c Z) (hb : ∀ p, a = some p → 0 < n → w'.heap[p.block]? = w.heap[p.block]?) : Arg w' a n c Z := by
  rcases h with h | ⟨g, off, rfl, hr⟩
  · exact Or.inl h
  · have hg := hb _ rfl
    exact Or.inr ⟨g, off, rfl, hr.hlen, hr.hcap, hr.hmax, fun t ht => (World.cell?_of_block (a := ⟨g, off + t, none⟩) (hg (by omega))).trans (hr.hcell t ht), hr.hbyte⟩
/-- The blocks that a kept reply's own rows lie in. -/
def KpB (k : KpM) (b : Nat) : Prop := (∃ p, k.va = some p ∧ p.block = b ∧ 0 < k.vn) ∨ (∃ p, k.rp.fa = some p ∧ p.block = b ∧ 0 < k.rp.fn) ∨ (∃ p, k.rp.ba = some p ∧ p.block = b ∧ 0 < k.rp.bn)
theorem KpIn.blk {w w' : World} {k : KpM} (h : KpIn w k) (hb : ∀ b, KpB k b → w'.heap[b]? = w.heap[b]?) : KpIn w' k :=
  ⟨farg_blk h.var (fun p hp h0 => hb _ (Or.inl ⟨p, hp, rfl, h0⟩)), ⟨h.rp.code, farg_blk h.rp.fields (fun p hp h0 => hb _ (Or.inr (Or.inl ⟨p, hp, rfl, h0⟩))), arg_blk h.rp.body (fun p hp h0 => hb _ (Or.inr (Or.inr ⟨p, hp, rfl, h0⟩))), h.rp.nil, h.rp.most, h.rp.each⟩, h.sm, h.said, h.vn, h.time⟩
theorem KpIn.lt {w : World} {k : KpM} (h : KpIn w k) {b : Nat} (hb : KpB k b) : b < w.heap.size := by
  rcases hb with ⟨p, hp, rfl, h0⟩ | ⟨p, hp, rfl, h0⟩ | ⟨p, hp, rfl, h0⟩
  · rcases h.var with ⟨e, _⟩ | ⟨g, off, e, hr⟩
    · omega
    · rw [hp] at e; cases e; exact blk_of_cell (hr.hname 0 h0)
  · rcases h.rp.fields with ⟨e, _⟩ | ⟨g, off, e, hr⟩
    · omega
    · rw [hp] at e; cases e; exact blk_of_cell (hr.hname 0 h0)
  · rcases h.rp.body with ⟨e, _⟩ | ⟨g, off, e, hr⟩
    · omega
    · rw [hp] at e; cases e; exact blk_of_cell (hr.hcell 0 h0)
/-- What is kept of a request and a reply. -/
structure KeptOf (w : World) (q : RqM) (a : RpM) (now : Int) (k : KpM) : Prop where
  host : k.host = q.h
  path : k.path = q.p
  rep : SameR w a k.rp
  at_ : k.at_ = now
  L0 : k.L0 = q.FL
  new : ∀ b, KpB k b → w.heap.size ≤ b
set_option maxHeartbeats 4000000 in
theorem zkeep_any (q : RqM) (a : RpM) (now : Int) (w : World) (hq : RqIn w q) (ha : RpIn w a) (hqs : RqS q) (has : RpS a) (hm : QOk w) (hn : 0 ≤ now ∧ now ≤ 1000000) :
    Calls Tryz.prog 20 #[q.val, a.val, .int .i64 now] w fun e w' => (∃ k, e = .returned k.val ∧ KpIn w' k ∧ KeptOf w q a now k) ∧ Below w.heap.size w w' := by
  obtain ⟨W1, hW1⟩ : ∃ x, ((w.alloc (.cells #[.string q.m, .string q.p, .string q.h, .slice q.fa q.fn q.fc, .slice q.ba q.bn q.bc] 36)).alloc (.cells #[.int .i64 a.code, .slice a.fa a.fn a.fc, .slice a.ba a.bn a.bc] 38)).alloc (.cells #[.string ⟨#[]⟩, .string ⟨#[]⟩, .slice none 0 0, .int .i64 0, .slice none 0 0, .slice none 0 0, .int .i64 0] 63) = x := ⟨_, rfl⟩
  have hB1 : Below w.heap.size w W1 := by rw [← hW1]; exact (((Below.refl _ w).alloc (Nat.le_refl _) _).alloc (by simp) _).alloc (by simp; omega) _
  have hs1 : W1.heap.size = w.heap.size + 3 := by rw [← hW1]; simp
  have hQB : QBx W1 w.heap.size q := QBx.of (t := 36) (by rw [← hW1]; exact (Below.heap_alloc _ _ _ (by simp; omega)).trans ((Below.heap_alloc _ _ _ (by simp)).trans (heap_alloc_new w _)))
  have hPB : PBx W1 (w.heap.size + 1) a := PBx.of (t := 38) (by
    rw [← hW1]
    have := heap_alloc_new (w.alloc (.cells #[.string q.m, .string q.p, .string q.h, .slice q.fa q.fn q.fc, .slice q.ba q.bn q.bc] 36)) (.cells #[.int .i64 a.code, .slice a.fa a.fn a.fc, .slice a.ba a.bn a.bc] 38 (0, 0))
    rw [World.size_alloc] at this
    exact (Below.heap_alloc _ _ _ (by simp)).trans this)
  have hZ : W1.heap[w.heap.size + 2]? = some (.cells #[.string ⟨#[]⟩, .string ⟨#[]⟩, .slice none 0 0, .int .i64 0, .slice none 0 0, .slice none 0 0, .int .i64 0] 63 (0, 0)) := by
    rw [← hW1]
    have := heap_alloc_new ((w.alloc (.cells #[.string q.m, .string q.p, .string q.h, .slice q.fa q.fn q.fc, .slice q.ba q.bn q.bc] 36)).alloc (.cells #[.int .i64 a.code, .slice a.fa a.fn a.fc, .slice a.ba a.bn a.bc] 38)) (.cells #[.string ⟨#[]⟩, .string ⟨#[]⟩, .slice none 0 0, .int .i64 0, .slice none 0 0, .slice none 0 0, .int .i64 0] 63 (0, 0))
    simpa using this
  have HBD : Vl (Below w.heap.size w W1.drew) := vl hB1.drew
  have HS1 : Vl (W1.drew.heap.size = w.heap.size + 3) := vl hs1
  have HZZ : Vl (∀ W, Below W1.drew.heap.size W1.drew W → W.heap[w.heap.size + 2]? = some (.cells #[.string ⟨#[]⟩, .string ⟨#[]⟩, .slice none 0 0, .int .i64 0, .slice none 0 0, .slice none 0 0, .int .i64 0] 63 (0, 0))) := vl (fun W hb => (hb.block _ (Array.getElem?_eq_some_iff.1 hZ).1).trans hZ)
  have HQQ : Vl (∀ W, Below W1.drew.heap.size W1.drew W → QBx W w.heap.size q ∧ PBx W (w.heap.size + 1) a) := vl (fun W hb => ⟨(hQB.below ((Below.refl _ W1).drew)).below hb, (hPB.below ((Below.refl _ W1).drew)).below hb⟩)
  have HVA := vl (fun W (hb : Below W1.drew.heap.size W1.drew W) => zvaried_any a.code a.fa a.fn a.fc a.ba a.bn a.bc a.FL q.m q.p q.h q.fa q.fn q.fc q.ba q.bn q.bc q.FL W (ha.fields.below (HBD.out.trans (hb.mono HBD.out.size))) (by have := has.fn; omega) (fun t => (ha.each t).1) (hm.mx.below (HBD.out.trans (hb.mono HBD.out.size))) has.vary (hq.fields.below (HBD.out.trans (hb.mono HBD.out.size))) hqs.fn (fun t => (hq.each t).1) (farg_len hq.fields))
  have HCO := vl (fun W (hb : Below W1.drew.heap.size W1.drew W) => zcopy_any a W (ha.below (HBD.out.trans (hb.mono HBD.out.size))) has.fn)
  have HRS := vl has
  have HQS := vl hqs
  have HN := vl hn
  obtain ⟨c0, c1, c2, c3, c4⟩ := hQB
  obtain ⟨d0, d1, d2⟩ := hPB
  show Calls Tryz.prog 20 #[.agg #[.string q.m, .string q.p, .string q.h, .slice q.fa q.fn q.fc, .slice q.ba q.bn q.bc], .agg #[.int .i64 a.code, .slice a.fa a.fn a.fc, .slice a.ba a.bn a.bc], .int .i64 now] w _
  obtain ⟨qm, qp, qh, qfa, qfn, qfc, qba, qbn, qbc, QFL, QB⟩ := q
  obtain ⟨rc, rfa, rfn, rfc, rba, rbn, rbc, RL, RB⟩ := a
  dsimp only at c0 c1 c2 c3 c4 d0 d1 d2 HQQ HVA HCO hW1 ⊢
  have HPC : Vl (∀ w' : World, Below W1.drew.heap.size W1.drew w' → (w'.cell? ⟨w.heap.size, 0, none⟩ = some (.string qm) ∧ w'.cell? ⟨w.heap.size, 1, none⟩ = some (.string qp) ∧ w'.cell? ⟨w.heap.size, 2, none⟩ = some (.string qh) ∧ w'.cell? ⟨w.heap.size, 3, none⟩ = some (.slice qfa qfn qfc) ∧ w'.cell? ⟨w.heap.size, 4, none⟩ = some (.slice qba qbn qbc)) ∧ (w'.cell? ⟨w.heap.size + 1, 0, none⟩ = some (.int .i64 rc) ∧ w'.cell? ⟨w.heap.size + 1, 1, none⟩ = some (.slice rfa rfn rfc) ∧ w'.cell? ⟨w.heap.size + 1, 2, none⟩ = some (.slice rba rbn rbc))) := vl (fun W hb => by
    obtain ⟨⟨e0, e1, e2, e3, e4⟩, ⟨f0, f1, f2⟩⟩ := HQQ.out W hb
    exact ⟨⟨e0, e1, e2, e3, e4⟩, ⟨f0, f1, f2⟩⟩)
  have HPS : Vl (∀ V w' : World, Below W1.drew.heap.size W1.drew V → w'.heap[w.heap.size]? = V.heap[w.heap.size]? → w'.heap[w.heap.size + 1]? = V.heap[w.heap.size + 1]? → (w'.cell? ⟨w.heap.size, 0, none⟩ = some (.string qm) ∧ w'.cell? ⟨w.heap.size, 1, none⟩ = some (.string qp) ∧ w'.cell? ⟨w.heap.size, 2, none⟩ = some (.string qh) ∧ w'.cell? ⟨w.heap.size, 3, none⟩ = some (.slice qfa qfn qfc) ∧ w'.cell? ⟨w.heap.size, 4, none⟩ = some (.slice qba qbn qbc)) ∧ (w'.cell? ⟨w.heap.size + 1, 0, none⟩ = some (.int .i64 rc) ∧ w'.cell? ⟨w.heap.size + 1, 1, none⟩ = some (.slice rfa rfn rfc) ∧ w'.cell? ⟨w.heap.size + 1, 2, none⟩ = some (.slice rba rbn rbc))) := vl (fun V w' hb g1 g2 => by
    obtain ⟨⟨e0, e1, e2, e3, e4⟩, ⟨f0, f1, f2⟩⟩ := HPC.out V hb
    have q1 : ∀ i, w'.cell? ⟨w.heap.size, i, none⟩ = V.cell? ⟨w.heap.size, i, none⟩ := fun i => World.cell?_of_block (a := ⟨w.heap.size, i, none⟩) g1
    have q2 : ∀ i, w'.cell? ⟨w.heap.size + 1, i, none⟩ = V.cell? ⟨w.heap.size + 1, i, none⟩ := fun i => World.cell?_of_block (a := ⟨w.heap.size + 1, i, none⟩) g2
    exact ⟨⟨(q1 0).trans e0, (q1 1).trans e1, (q1 2).trans e2, (q1 3).trans e3, (q1 4).trans e4⟩, ⟨(q2 0).trans f0, (q2 1).trans f1, (q2 2).trans f2⟩⟩)
  have ne0 : w.heap.size ≠ w.heap.size + 1 + 1 := by omega
  have ne1 : w.heap.size + 1 ≠ w.heap.size + 1 + 1 := by omega
  have hbD : Below W1.drew.heap.size W1.drew W1.drew := Below.refl _ _
  clear hq ha hqs has hm hn hB1 hZ HQQ hs1
  go_enter Tryz.func20, Tryz.ntmps20
  go_wp2_with fail
  clear hW1
  go_region_held3 (fun w' => (w'.cell? ⟨w.heap.size, 0, none⟩ = some (.string qm) ∧ w'.cell? ⟨w.heap.size, 1, none⟩ = some (.string qp) ∧ w'.cell? ⟨w.heap.size, 2, none⟩ = some (.string qh) ∧ w'.cell? ⟨w.heap.size, 3, none⟩ = some (.slice qfa qfn qfc) ∧ w'.cell? ⟨w.heap.size, 4, none⟩ = some (.slice qba qbn qbc)) ∧ (w'.cell? ⟨w.heap.size + 1, 0, none⟩ = some (.int .i64 rc) ∧ w'.cell? ⟨w.heap.size + 1, 1, none⟩ = some (.slice rfa rfn rfc) ∧ w'.cell? ⟨w.heap.size + 1, 2, none⟩ = some (.slice rba rbn rbc)))
    (first | (with_reducible exact HPC.out _ hb2) | (with_reducible exact HPC.out _ hb23) | (exact HPS.out w3 _ hb23 (set7_other ne0) (set7_other ne1)) | go_keep)
    (first
      | (go_at_call 36; refine (HVA.out W1.drew hbD).mono ?_; rintro e w2 ⟨⟨a2, n2, V, rfl, hA2, hN2, hV2, hL2⟩, hb2⟩)
      | (go_at_call 26; refine (HCO.out w2 hb2).mono ?_; rintro e w3 ⟨⟨⟨pc, pfa, pfn, pfc, pba, pbn, pbc, PL, PB⟩, rfl, hR3, hS3⟩, hb3⟩; have hb23 := hb2.trans (hb3.mono hb2.size); obtain ⟨z0, z1, z2, z3, z4, z5, z6, zf⟩ := ZK.of (HZZ.out w3 hb23); dsimp only [RpM.val]))
  obtain ⟨W4, hW4⟩ : ∃ W4, W4 = ((((((w3.setCell ⟨w.heap.size + 1 + 1, 0, none⟩ (.string qh)).setCell ⟨w.heap.size + 1 + 1, 1, none⟩ (.string qp)).setCell ⟨w.heap.size + 1 + 1, 2, none⟩ (.slice a2 V.length n2)).setCell ⟨w.heap.size + 1 + 1, 3, none⟩ (.int .i64 pc)).setCell ⟨w.heap.size + 1 + 1, 4, none⟩ (.slice pfa pfn pfc)).setCell ⟨w.heap.size + 1 + 1, 5, none⟩ (.slice pba pbn pbc)).setCell ⟨w.heap.size + 1 + 1, 6, none⟩ (.int .i64 now) := ⟨_, rfl⟩
  have hs1 := HS1.out
  have k4 : W4.heap[w.heap.size + 1 + 1]? = some (.cells #[.string qh, .string qp, .slice a2 V.length n2, .int .i64 pc, .slice pfa pfn pfc, .slice pba pbn pbc, .int .i64 now] 63 (0, 0)) := by rw [hW4]; exact zset7 (HZZ.out w3 hb23)
  have hoth : ∀ k, k ≠ w.heap.size + 1 + 1 → W4.heap[k]? = w3.heap[k]? := fun k hk => by rw [hW4]; exact set7_other hk
  have r0 : W4.cell? ⟨w.heap.size + 1 + 1, 0, none⟩ = some (.string qh) := by rw [cell_of_row _ _ _ _ _ _ k4]; rfl
  have r1 : W4.cell? ⟨w.heap.size + 1 + 1, 1, none⟩ = some (.string qp) := by rw [cell_of_row _ _ _ _ _ _ k4]; rfl
  have r2 : W4.cell? ⟨w.heap.size + 1 + 1, 2, none⟩ = some (.slice a2 V.length n2) := by rw [cell_of_row _ _ _ _ _ _ k4]; rfl
  have r3 : W4.cell? ⟨w.heap.size + 1 + 1, 3, none⟩ = some (.int .i64 pc) := by rw [cell_of_row _ _ _ _ _ _ k4]; rfl
  have r4 : W4.cell? ⟨w.heap.size + 1 + 1, 4, none⟩ = some (.slice pfa pfn pfc) := by rw [cell_of_row _ _ _ _ _ _ k4]; rfl
  have r5 : W4.cell? ⟨w.heap.size + 1 + 1, 5, none⟩ = some (.slice pba pbn pbc) := by rw [cell_of_row _ _ _ _ _ _ k4]; rfl
  have r6 : W4.cell? ⟨w.heap.size + 1 + 1, 6, none⟩ = some (.int .i64 now) := by rw [cell_of_row _ _ _ _ _ _ k4]; rfl
  have hbw3 : Below w.heap.size w w3 := HBD.out.trans (hb23.mono HBD.out.size)
  have hbs : W1.drew.heap.size ≤ w2.heap.size := hb2.size
  have hnv : ∀ p, a2 = some p → w.heap.size + 3 ≤ p.block := fun p hp => by have := hN2 p hp; omega
  have hnf : ∀ p, pfa = some p → w.heap.size + 3 ≤ p.block := fun p hp => by have := hS3.newF p hp; omega
  have hnb : ∀ p, pba = some p → w.heap.size + 3 ≤ p.block := fun p hp => by have := hS3.newB p hp; omega
  have hKB : ∀ b, KpB ⟨qh, qp, a2, V.length, n2, ⟨pc, pfa, pfn, pfc, pba, pbn, pbc, PL, PB⟩, now, V, QFL⟩ b → w.heap.size + 3 ≤ b := by
    rintro b (⟨p, hp, rfl, _⟩ | ⟨p, hp, rfl, _⟩ | ⟨p, hp, rfl, _⟩)
    · exact hnv p hp
    · exact hnf p hp
    · exact hnb p hp
  have hFL : PL = RL := hS3.FL
  have hfn : pfn = rfn := hS3.fn
  have HKI : Vl (KpIn W4 ⟨qh, qp, a2, V.length, n2, ⟨pc, pfa, pfn, pfc, pba, pbn, pbc, PL, PB⟩, now, V, QFL⟩) := vl (by
    refine KpIn.blk (w := w3) ⟨hA2.below hb3, hR3, ⟨?_, ?_⟩, ?_, ?_, HN.out⟩ (fun b hb => hoth b (by have := hKB b hb; omega))
    · show pfn ≤ _; rw [hfn]; exact HRS.out.fn
    · show (fstV (fdsOf PL) varyN).length < _; rw [hFL]; exact HRS.out.vary
    · show VarS PL QFL V; rw [hFL]; exact hV2
    · have h1 : V.length ≤ qfn := hL2
      have h2 : qfn ≤ 4398046511103 := HQS.out.fn
      show V.length ≤ 4398046511104
      omega)
  have HKO : Vl (KeptOf w ⟨qm, qp, qh, qfa, qfn, qfc, qba, qbn, qbc, QFL, QB⟩ ⟨rc, rfa, rfn, rfc, rba, rbn, rbc, RL, RB⟩ now ⟨qh, qp, a2, V.length, n2, ⟨pc, pfa, pfn, pfc, pba, pbn, pbc, PL, PB⟩, now, V, QFL⟩) := vl ⟨rfl, rfl, ⟨hS3.code, hS3.fn, hS3.bn, hS3.FL, hS3.B, fun p hp => by have := hnf p hp; omega, fun p hp => by have := hnb p hp; omega⟩, rfl, rfl, fun b hb => by have := hKB b hb; omega⟩
  have HB4 : Vl (Below w.heap.size w W4) := vl (by rw [hW4]; exact set7_below hbw3 (by omega))
  rw [← hW4]
  clear hW4 k4 hoth hbw3 hnv hnf hnb hKB hFL hfn hb2 hb3 hb23 hA2 hN2 hV2 hL2 hR3 hS3 z0 z1 z2 z3 z4 z5 z6 zf HVA HCO HPC HPS hbD hs1 hbs
  go_wp2_with fail
  refine bodyPost_ret (v := .agg #[.string qh, .string qp, .slice a2 V.length n2, .int .i64 pc, .slice pfa pfn pfc, .slice pba pbn pbc, .int .i64 now]) (by simp [results, Tryz.results20, go_sem, r0, r1, r2, r3, r4, r5, r6]; try rfl) rfl ?_
  exact ⟨⟨⟨qh, qp, a2, V.length, n2, ⟨pc, pfa, pfn, pfc, pba, pbn, pbc, PL, PB⟩, now, V, QFL⟩, rfl, HKI.out, HKO.out⟩, HB4.out⟩
end Go.Proofs.YtibipnipeaeonaaGreatDoor
