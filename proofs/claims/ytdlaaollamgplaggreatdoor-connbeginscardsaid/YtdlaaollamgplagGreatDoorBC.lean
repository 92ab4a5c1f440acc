/-
  ONE SIDE OF A CONNECTION: Feed, of bytes that begin with what is wrong. No claim by itself.
-/
import Derived.Laws.IdiomCopy
import Derived.Lib.SlBuf
import Derived.BigQuiet
import Derived.Test.YtdlaaollamgplagGreatDoorBB
import Derived.Test.YtdlaaollamgplagGreatDoorBA
import Derived.Test.YtdlaaollamgplagGreatDoorDfr4f
namespace Go.Proofs.YtdlaaollamgplagGreatDoor
open Go Go.RowKit
set_option maxRecDepth 100000
theorem run_frstore {w : World} {x : Nat} {k fl st k' fl' st' : Int} {bv bv' : Value} (h : FRB w x k fl st bv) (h1 : bv'.oneCell' = true) :
    (Instr.storeAt 60 (.pointer (some ⟨x, 0, none⟩)) (.agg #[.int .i64 k', .int .i64 fl', .int .i64 st', bv'])).run Tryz.prog w = .ok () (w.setRow x #[.int .i64 k', .int .i64 fl', .int .i64 st', bv']) := by
  have hk : w.heap[x]? = some (.cells #[.int .i64 k, .int .i64 fl, .int .i64 st, bv] 60 (0, 0)) := h
  have hst := run_storeCells_from (P := Tryz.prog) x 60 [.int .i64 k', .int .i64 fl', .int .i64 st', bv'] 0 _ w hk rfl (by intro v hv; simp at hv; rcases hv with rfl | rfl | rfl | rfl <;> first | rfl | assumption)
  have hsz : (sizeOf 60).run Tryz.prog w = .ok 4 w := by kernel_rfl
  have hcs : (Value.agg #[.int .i64 k', .int .i64 fl', .int .i64 st', bv']).cells = #[.int .i64 k', .int .i64 fl', .int .i64 st', bv'] := rfl
  simp only [Instr.storeAt, Instr.sureAddr, Sem.run_bind, Sem.run_pure, Result.andThen, storeVar, hsz, hcs]
  simpa using hst
section
variable (w : World) {ops : Array Oper} {rest : List Oper} {o : Oper} {a : Act} {Q : Exit → Act → World → Prop}
theorem wpList_frstore (hgd : o.guard = none) (s x : Operand) (ho : o.op = .store 60 s x) (n : Nat) (k fl st k' fl' st' : Int) (bv bv' : Value) (hs : a.eval s = .pointer (some ⟨n, 0, none⟩)) (hx : a.eval x = .agg #[.int .i64 k', .int .i64 fl', .int .i64 st', bv']) (hB : FRB w n k fl st bv) (h1 : bv'.oneCell' = true)
    (h0 : ∀ w', FRB w' n k' fl' st' bv' → w.grownBy w' (some n) → wpList Tryz.prog ops Q rest (a.put o.dst undef) w') : wpList Tryz.prog ops Q (o :: rest) a w := by
  refine wpList_plain hgd fun K hK => ?_
  have hr := run_frstore (k' := k') (fl' := fl') (st' := st') hB h1
  unfold Oper.wp execOp
  simp only [ho, Sem.run_bind, Sem.run_pure, Result.andThen_ok, hs, hx, hr]
  exact hK _ _ (h0 _ (setRow_heap w n _ _ _ _ hB) (krow_grown w n _))
end
theorem EvOne.tn {S : Nat → Prop} {w w' : World} {base : Nat} {v : Value} {a b d : Int} {fv bv : Value} {e : Bool} (h : EvOne w base v a b d fv bv e) (ht : Tn S w w') (hn : ∀ j, v.ownBlock = some j → ¬ S j) : EvOne w' base v a b d fv bv e := by
  obtain ⟨g, cap, cur, rfl, h1, h2, h3⟩ := h
  exact ⟨g, cap, cur, rfl, h1, (ht.block g (Array.getElem?_eq_some_iff.1 h2).1 (hn g rfl)).trans h2, h3⟩
set_option maxHeartbeats 8000000 in
theorem kfeed_fail (cb : Nat) (c : CnS) (rv sv : Value) (a : Option Addr) (len cap : Nat) (Z : List Int) (k fl st : Int) (B : List Int) (n er code : Int) (w : World) (h : CnL w cb c rv sv) (hA : KArg w cb rv sv a len cap Z) (hnil : a = none → cap = 0) (hlen : len ≤ 211106232532992) (ho : c.over = false) (hr0 : c.rest = []) (hb0 : c.bfr = 0) (hbv : c.bby = .slice none 0 0) (hs : c.said.length ≤ 100000000000)
    (hrd : rdF Z = ((k, fl, st, B), n, er)) (he8 : er ≠ 8) (hr : refF c.begun k fl st B er = code) (h0 : code ≠ 0) (h1 : 0 ≤ code) (h2 : code ≤ 2147483647) (hpos : 0 < Z.length) (hBl : B.length ≤ 4611686018427387904) (hn0 : 0 ≤ n ∧ n ≤ 2000) :
    Calls Tryz.prog 27 #[.pointer (some ⟨cb, 0, none⟩), .slice a len cap] w fun e w' => ∃ v rv' sv', e = .returned v ∧ EvOne w' w.heap.size v 4 0 code (.slice none 0 0) (.slice none 0 0) false ∧ CnL w' cb (CnS.failed { c with begun := true, rest := [] } code) rv' sv' ∧ Tn (CnF cb rv sv) w w' ∧ (∀ j, CnF cb rv' sv' j → CnF cb rv sv j ∨ w.heap.size ≤ j) ∧ ∀ j, v.ownBlock = some j → ¬ CnF cb rv' sv' j := by
  obtain ⟨ra, rc, rfl, _⟩ := h.rest.slice
  have c3 : w.cell? ⟨cb, 3, none⟩ = some (.bool false) := (h.cell 3).trans (by show some (Value.bool c.over) = _; rw [ho])
  have c0 : w.cell? ⟨cb, 0, none⟩ = some (.slice ra c.rest.length rc) := h.cell 0
  have HC := vl h
  have HR := vl h.rest
  have HA := vl hA
  have hl0 : c.rest.length = 0 := by rw [hr0]; rfl
  rw [hl0] at c0 HR
  rw [hr0] at HR
  have HNIL := vl hnil
  have HZ := vl hA.1.len
  clear h hA hnil
  go_enter Tryz.func27, Tryz.ntmps27
  go_wp2_with (at_builtin; refine wpList_uapp _ rfl _ _ rfl 0 _ [] rfl HR.out a len cap Z rfl HA.out.1 HNIL.out (by simp; omega) (Nat.zero_le _) ?_)
  intro v1 w1 hu1 hg1 hv1
  obtain ⟨va, vc, rfl, hvc, hvm⟩ := hu1.slice
  obtain ⟨hC2, hT2, hF2⟩ := HC.out.heard (rv := .slice ra c.rest.length rc) (by rw [hl0]; exact hg1) hu1 (by rw [hl0]; exact hv1) HA.out.1.bytes
  have hnb : (Value.slice ra 0 rc).ownBlock ≠ some cb := fun e => (HC.out.nr cb (by rw [hl0]; exact e)).1 rfl
  have d0 : w1.cell? ⟨cb, 0, none⟩ = some (.slice ra 0 rc) := (World.cell?_of_block (a := ⟨cb, 0, none⟩) (hg1.block cb HC.out.lt (fun e => hnb e.symm))).trans c0
  have f0 : w1.frozen? ⟨cb, 0, none⟩ = false := (World.frozen?_of_block (a := ⟨cb, 0, none⟩) (hg1.block cb HC.out.lt (fun e => hnb e.symm))).trans (HC.out.frozen 0)
  obtain ⟨W2, hW2⟩ : ∃ x, x = w1.setCell ⟨cb, 0, none⟩ (.slice va Z.length vc) := ⟨_, rfl⟩
  rw [← hW2] at hC2 hT2
  have HC2 := vl hC2
  have HT2 := vl hT2
  have HF2 := vl hF2
  have HNC : Vl (∀ j, CnF cb (.slice ra c.rest.length rc) sv j → j < w.heap.size) := vl HC.out.flt
  have e0 : W2.cell? ⟨cb, 0, none⟩ = some (.slice va Z.length vc) := hC2.cell 0
  have e3 : W2.cell? ⟨cb, 3, none⟩ = some (.bool false) := (hC2.cell 3).trans (by show some (Value.bool c.over) = _; rw [ho])
  obtain ⟨ua, uc, huv, hUA, _⟩ := uarg hC2.rest hC2.br
  injection huv with e1 e2 e4
  subst e1 e4
  have HRD := vl (read_anyFr va Z.length vc Z W2 hUA rfl)
  rw [hrd] at HRD
  have hvn : va ≠ none := fun e => by
    rcases hC2.rest with ⟨hv, _⟩ | ⟨g, cap', hv, _⟩
    · injection hv with _ hv
      have h9 : Z.length = 0 := hv
      omega
    · injection hv with hv
      rw [e] at hv
      cases hv
  obtain ⟨ga, hga⟩ : ∃ g, va = some ⟨g, 0, none⟩ := by
    rcases hC2.rest with ⟨hv, _⟩ | ⟨g, cap', hv, _⟩
    · injection hv with hv
      exact absurd hv hvn
    · injection hv with hv
      exact ⟨g, hv⟩
  subst hga
  clear hC2 hT2 hF2 hu1 hg1 hv1 hnb c0 HR hUA hvn
  have hd8 : decide (er = 8) = false := decide_eq_false he8
  go_upto_region 6 with fail
  rw [← hW2]
  clear hW2 d0 f0 c3
  refine wp_loop_rounds 2 ?_
  rw [rounds_succ]
  go_wp2_with fail
  refine HRD.out.mono ?_
  rintro e w3 ⟨⟨ba, bc, x, rfl, ⟨hAb, hfr⟩, hx⟩, hb3⟩
  obtain rfl : x = errW er := by
    rcases hx with ⟨e1, e2⟩ | ⟨e1, e2⟩
    · have e1' : er = 0 := e1
      rw [e2, e1']
      rfl
    · have e1' : er ≠ 0 := e1
      rw [e2]
      exact (if_neg e1').symm
  have HAB : Vl (Arg w3 ba B.length bc B) := vl hAb
  have HFR : Vl (∀ g off, ba = some ⟨g, off, none⟩ → W2.heap.size ≤ g) := vl hfr
  have HC3 := vl (HC2.out.below hb3)
  have HT3 := vl (HT2.out.trans2 (Tn.of_below (S := CnF cb (.slice ra c.rest.length rc) sv) hb3) (fun _ x => Or.inl x))
  have hs3 : W2.heap.size ≤ w3.heap.size := hb3.size
  clear hb3 HRD hAb hfr hx e0 e3
  go_wp2_with (refine wpList_frstore _ rfl _ _ rfl w3.heap.size 0 0 0 k fl st (.slice none 0 0) (.slice ba B.length bc) rfl rfl (frb_new w3 0 0 0 _) rfl ?_)
  intro w4 hF4 hg4
  have hb4 : Below w3.heap.size w3 w4 := ((Below.refl _ w3).alloc (Nat.le_refl _) _).grown hg4 (by simp) (fun j hj => by cases hj; exact Nat.le_refl _)
  have hs4 : w3.heap.size < w4.heap.size := hF4.lt
  have HC4 := vl (HC3.out.below hb4)
  have HT4 := vl (HT3.out.trans2 (Tn.of_below (S := CnF cb (.slice ra c.rest.length rc) sv) hb4) (fun _ x => Or.inl x))
  have HFL2 : Vl (∀ j, CnF cb (.slice (some ⟨ga, 0, none⟩) Z.length vc) sv j → j < W2.heap.size) := vl HC2.out.flt
  have HKA : Vl (KArg w4 cb (.slice (some ⟨ga, 0, none⟩) Z.length vc) sv ba B.length bc B) := vl ⟨HAB.out.below hb4, fun g off e x => by
    have := HFR.out g off e
    have := HFL2.out g x
    omega⟩
  have HIS := vl (nis_any er 8 (by decide) w4)
  rw [hd8] at HIS
  have HHE := vl (khear_bad cb { c with rest := Z } (.slice (some ⟨ga, 0, none⟩) Z.length vc) sv k fl st ba B.length bc B er code w4 HC4.out HKA.out hBl hb0 ⟨_, _, _, hbv⟩ hs hr h0 h1 h2)
  unfold evA at HHE
  obtain ⟨b0, b1, b2, b3⟩ := hF4.cells
  obtain ⟨xe, hxe⟩ : ∃ x, errW er = x := ⟨_, rfl⟩
  rw [hxe] at HIS HHE ⊢
  clear hg4 hF4 hb4 HC3 HT3 HAB hxe
  go_wp2_with fail
  refine HIS.out.mono ?_
  rintro e w' ⟨rfl, rfl⟩
  clear HIS
  go_wp2_with fail
  refine HHE.out.mono ?_
  rintro e w5 ⟨rfl, rv5, sv5, hC5, hT5, hF5⟩
  have HC5 := vl hC5
  have HT5 := vl (HT4.out.trans2 hT5 (fun j hj => by
    rcases hj with e | e | e
    · exact Or.inl (Or.inl e)
    · exact (HF2.out j (Or.inr (Or.inl e)))
    · exact (HF2.out j (Or.inr (Or.inr e)))))
  have HF5 : Vl (∀ j, CnF cb rv5 sv5 j → CnF cb (.slice ra c.rest.length rc) sv j ∨ w.heap.size ≤ j) := vl (fun j hj => (hF5 j hj).elim (fun x => HF2.out j x) (fun x => Or.inr (by have := HT4.out.size; omega)))
  clear hC5 hT5 hF5 HHE b0 b1 b2 b3 HC4 HKA
  go_wp2_with (refine wpList_evstore _ rfl _ _ rfl w5.heap.size _ _ _ 4 0 code _ _ (.slice none 0 0) (.slice none 0 0) _ false rfl rfl (evb_new w5) rfl rfl ?_)
  intro w6 hE6 hg6
  have hb6 : Below w5.heap.size w5 w6 := ((Below.refl _ w5).alloc (Nat.le_refl _) _).grown hg6 (by simp) (fun j hj => by cases hj; exact Nat.le_refl _)
  have hs6 : w5.heap.size < w6.heap.size := hE6.lt
  have HC6 := vl (HC5.out.below hb6)
  have HT6 := vl (HT5.out.trans2 (Tn.of_below (S := CnF cb (.slice ra c.rest.length rc) sv) hb6) (fun _ x => Or.inl x))
  obtain ⟨z0, z1, z2, z3, z4, z5⟩ := hE6.cells
  have HFL5 : Vl (∀ j, CnF cb rv5 sv5 j → j < w5.heap.size) := vl HC5.out.flt
  have hsw6 : w.heap.size ≤ w6.heap.size := HT6.out.size
  clear hg6 hE6 hb6 HC5 HT5
  go_wp2_with (at_builtin; refine wpList_evapp w6 rfl _ _ rfl w.heap.size 4 0 code (.slice none 0 0) (.slice none 0 0) false rfl rfl rfl rfl hsw6 ?_)
  intro v7 w7 hO7 hb7 hv7
  have hb67 : Below w6.heap.size w6 w7 := ((Below.refl _ w6).alloc (Nat.le_refl _) _).trans (hb7.mono (Nat.le_succ _))
  have HC7 := vl (HC6.out.below hb67)
  have HT7 := vl (HT6.out.trans2 (Tn.of_below (S := CnF cb (.slice ra c.rest.length rc) sv) hb67) (fun _ x => Or.inl x))
  have HO7 := vl hO7
  have HV7 : Vl (∀ j, v7.ownBlock = some j → ¬ CnF cb rv5 sv5 j ∧ w6.heap.size < j) := vl (fun j hj => ⟨fun x => by have := hv7 j hj; have := HFL5.out j x; omega, hv7 j hj⟩)
  have g3 : w7.cell? ⟨cb, 3, none⟩ = some (.bool true) := HC7.out.cell 3
  have HFG := vl (kforget_over cb (CnS.failed { c with rest := Z, begun := true } code) rv5 sv5 n w7 HC7.out rfl)
  obtain ⟨va7, vn7, vc7, rfl⟩ : ∃ x y z, v7 = .slice x y z := by
    obtain ⟨g, cap', cur, rfl, _⟩ := hO7
    exact ⟨_, _, _, rfl⟩
  clear hO7 hb7 hv7 hb67 HC6 HT6 z0 z1 z2 z3 z4 z5
  go_wp2_with fail
  rw [rounds_succ]
  go_wp2_with fail
  refine HFG.out.mono ?_
  rintro e w8 ⟨⟨v8, rfl⟩, rv8, sv8, hC8, hT8, hF8⟩
  have HC8 := vl hC8
  have HT8 := vl (HT7.out.trans2 hT8 HF5.out)
  have HO8 := vl (HO7.out.tn hT8 (fun j hj => (HV7.out j hj).1))
  have HF8 : Vl (∀ j, CnF cb rv8 sv8 j → CnF cb (.slice ra c.rest.length rc) sv j ∨ w.heap.size ≤ j) := vl (fun j hj => (hF8 j hj).elim (fun x => HF5.out j x) (fun x => Or.inr (by have := HT7.out.size; omega)))
  have HV8 : Vl (∀ j, (Value.slice va7 vn7 vc7).ownBlock = some j → ¬ CnF cb rv8 sv8 j) := vl (fun j hj x => (hF8 j x).elim (fun y => (HV7.out j hj).1 y) (fun y => by
    obtain ⟨g, cap', cur, e9, _, h9, _⟩ := HO7.out
    rw [e9] at hj
    have e8 : g = j := Option.some.inj hj
    have := (Array.getElem?_eq_some_iff.1 h9).1
    omega))
  clear hC8 hT8 hF8 HFG HC7 HT7 HO7 HV7 g3
  go_wp2
  go_ret
  exact ⟨_, rv8, sv8, rfl, HO8.out, HC8.out, HT8.out, HF8.out, HV8.out⟩
end Go.Proofs.YtdlaaollamgplagGreatDoor
/-
  ONE SIDE OF A CONNECTION: Feed, of one frame of which no event is told. No claim by itself.
-/
namespace Go.Proofs.YtdlaaollamgplagGreatDoor
open Go Go.RowKit
set_option maxRecDepth 100000
set_option maxHeartbeats 8000000 in
theorem kfeed_quiet (cb : Nat) (c c' : CnS) (rv sv : Value) (a : Option Addr) (len cap : Nat) (Z : List Int) (k fl st : Int) (B : List Int) (w : World) (h : CnL w cb c rv sv) (hA : KArg w cb rv sv a len cap Z) (hnil : a = none → cap = 0) (hlen : len ≤ 2000) (ho : c.over = false) (hr0 : c.rest = [])
    (hrd : rdF Z = ((k, fl, st, B), (Z.length : Int), 0)) (hpos : 0 < Z.length) (ho' : c'.over = false) (hr' : c'.rest = Z)
    (hh : ∀ (W : World) (rv' sv' : Value) (ba : Option Addr) (bc : Nat), CnL W cb { c with rest := Z } rv' sv' → KArg W cb rv' sv' ba B.length bc B → Calls Tryz.prog 70 #[.pointer (some ⟨cb, 0, none⟩), .agg #[.int .i64 k, .int .i64 fl, .int .i64 st, .slice ba B.length bc], .nilIface] W fun e w' => e = .returned (evA 0 0 0 (.slice none 0 0) (.slice none 0 0) false) ∧ CnT W cb rv' sv' c' w') :
    Calls Tryz.prog 27 #[.pointer (some ⟨cb, 0, none⟩), .slice a len cap] w fun e w' => e = .returned (.slice none 0 0) ∧ CnT w cb rv sv { c' with rest := [] } w' := by
  obtain ⟨ra, rc, rfl, _⟩ := h.rest.slice
  have c3 : w.cell? ⟨cb, 3, none⟩ = some (.bool false) := (h.cell 3).trans (by show some (Value.bool c.over) = _; rw [ho])
  have c0 : w.cell? ⟨cb, 0, none⟩ = some (.slice ra c.rest.length rc) := h.cell 0
  have HC := vl h
  have HR := vl h.rest
  have HA := vl hA
  have hl0 : c.rest.length = 0 := by rw [hr0]; rfl
  rw [hl0] at c0 HR
  rw [hr0] at HR
  have HNIL := vl hnil
  have HZ := vl hA.1.len
  clear h hA hnil
  go_enter Tryz.func27, Tryz.ntmps27
  go_wp2_with (at_builtin; refine wpList_uapp _ rfl _ _ rfl 0 _ [] rfl HR.out a len cap Z rfl HA.out.1 HNIL.out (by simp; omega) (Nat.zero_le _) ?_)
  intro v1 w1 hu1 hg1 hv1
  obtain ⟨va, vc, rfl, hvc, hvm⟩ := hu1.slice
  obtain ⟨hC2, hT2, hF2⟩ := HC.out.heard (rv := .slice ra c.rest.length rc) (by rw [hl0]; exact hg1) hu1 (by rw [hl0]; exact hv1) HA.out.1.bytes
  have hnb : (Value.slice ra 0 rc).ownBlock ≠ some cb := fun e => (HC.out.nr cb (by rw [hl0]; exact e)).1 rfl
  have d0 : w1.cell? ⟨cb, 0, none⟩ = some (.slice ra 0 rc) := (World.cell?_of_block (a := ⟨cb, 0, none⟩) (hg1.block cb HC.out.lt (fun e => hnb e.symm))).trans c0
  have f0 : w1.frozen? ⟨cb, 0, none⟩ = false := (World.frozen?_of_block (a := ⟨cb, 0, none⟩) (hg1.block cb HC.out.lt (fun e => hnb e.symm))).trans (HC.out.frozen 0)
  obtain ⟨W2, hW2⟩ : ∃ x, x = w1.setCell ⟨cb, 0, none⟩ (.slice va Z.length vc) := ⟨_, rfl⟩
  rw [← hW2] at hC2 hT2
  have HC2 := vl hC2
  have HT2 := vl hT2
  have HF2 := vl hF2
  have HNC : Vl (∀ j, CnF cb (.slice ra c.rest.length rc) sv j → j < w.heap.size) := vl HC.out.flt
  have e0 : W2.cell? ⟨cb, 0, none⟩ = some (.slice va Z.length vc) := hC2.cell 0
  have e3 : W2.cell? ⟨cb, 3, none⟩ = some (.bool false) := (hC2.cell 3).trans (by show some (Value.bool c.over) = _; rw [ho])
  obtain ⟨ua, uc, huv, hUA, _⟩ := uarg hC2.rest hC2.br
  injection huv with e1 e2 e4
  subst e1 e4
  have HRD := vl (read_anyFr va Z.length vc Z W2 hUA rfl)
  rw [hrd] at HRD
  have hvn : va ≠ none := fun e => by
    rcases hC2.rest with ⟨hv, _⟩ | ⟨g, cap', hv, _⟩
    · injection hv with _ hv
      have h9 : Z.length = 0 := hv
      omega
    · injection hv with hv
      rw [e] at hv
      cases hv
  obtain ⟨ga, hga⟩ : ∃ g, va = some ⟨g, 0, none⟩ := by
    rcases hC2.rest with ⟨hv, _⟩ | ⟨g, cap', hv, _⟩
    · injection hv with hv
      exact absurd hv hvn
    · injection hv with hv
      exact ⟨g, hv⟩
  subst hga
  clear hC2 hT2 hF2 hu1 hg1 hv1 hnb c0 HR hUA hvn
  have HHH := vl hh
  have hzl : Z.length ≤ 2000 := by have := HZ.out; omega
  clear hh
  go_upto_region 6 with fail
  rw [← hW2]
  clear hW2 d0 f0 c3
  refine wp_loop_rounds 2 ?_
  rw [rounds_succ]
  go_wp2_with fail
  refine HRD.out.mono ?_
  rintro e w3 ⟨⟨ba, bc, x, rfl, ⟨hAb, hfr⟩, hx⟩, hb3⟩
  obtain rfl : x = .nilIface := by
    rcases hx with ⟨_, e2⟩ | ⟨e1, _⟩
    · exact e2
    · exact absurd rfl e1
  have HAB : Vl (Arg w3 ba B.length bc B) := vl hAb
  have HFR : Vl (∀ g off, ba = some ⟨g, off, none⟩ → W2.heap.size ≤ g) := vl hfr
  have HC3 := vl (HC2.out.below hb3)
  have HT3 := vl (HT2.out.trans2 (Tn.of_below (S := CnF cb (.slice ra c.rest.length rc) sv) hb3) (fun _ x => Or.inl x))
  have hs3 : W2.heap.size ≤ w3.heap.size := hb3.size
  clear hb3 HRD hAb hfr hx e0 e3
  go_wp2_with (refine wpList_frstore _ rfl _ _ rfl w3.heap.size 0 0 0 k fl st (.slice none 0 0) (.slice ba B.length bc) rfl rfl (frb_new w3 0 0 0 _) rfl ?_)
  intro w4 hF4 hg4
  have hb4 : Below w3.heap.size w3 w4 := ((Below.refl _ w3).alloc (Nat.le_refl _) _).grown hg4 (by simp) (fun j hj => by cases hj; exact Nat.le_refl _)
  have hs4 : w3.heap.size < w4.heap.size := hF4.lt
  have HC4 := vl (HC3.out.below hb4)
  have HT4 := vl (HT3.out.trans2 (Tn.of_below (S := CnF cb (.slice ra c.rest.length rc) sv) hb4) (fun _ x => Or.inl x))
  have HFL2 : Vl (∀ j, CnF cb (.slice (some ⟨ga, 0, none⟩) Z.length vc) sv j → j < W2.heap.size) := vl HC2.out.flt
  have HKA : Vl (KArg w4 cb (.slice (some ⟨ga, 0, none⟩) Z.length vc) sv ba B.length bc B) := vl ⟨HAB.out.below hb4, fun g off e x => by
    have := HFR.out g off e
    have := HFL2.out g x
    omega⟩
  have HIS : Vl (Calls Tryz.prog 69 #[.nilIface, .iface 88 (.int .i64 8)] w4 fun x w' => x = .returned (.bool false) ∧ w4 = w') := vl (nis_any 0 8 (by decide) w4)
  have HHE := vl (HHH.out w4 (.slice (some ⟨ga, 0, none⟩) Z.length vc) sv ba bc HC4.out HKA.out)
  unfold evA at HHE
  obtain ⟨b0, b1, b2, b3⟩ := hF4.cells
  clear hg4 hF4 hb4 HC3 HT3 HAB
  go_wp2_with fail
  refine HIS.out.mono ?_
  rintro e w' ⟨rfl, rfl⟩
  clear HIS
  go_wp2_with fail
  refine HHE.out.mono ?_
  rintro e w5 ⟨rfl, rv5, sv5, hC5, hT5, hF5⟩
  have HC5 := vl hC5
  have HT5 := vl (HT4.out.trans2 hT5 (fun j hj => by
    rcases hj with e | e | e
    · exact Or.inl (Or.inl e)
    · exact (HF2.out j (Or.inr (Or.inl e)))
    · exact (HF2.out j (Or.inr (Or.inr e)))))
  have HF5 : Vl (∀ j, CnF cb rv5 sv5 j → CnF cb (.slice ra c.rest.length rc) sv j ∨ w.heap.size ≤ j) := vl (fun j hj => (hF5 j hj).elim (fun x => HF2.out j x) (fun x => Or.inr (by have := HT4.out.size; omega)))
  clear hC5 hT5 hF5 HHE b0 b1 b2 b3 HC4 HKA
  go_wp2_with (refine wpList_evstore _ rfl _ _ rfl w5.heap.size _ _ _ 0 0 0 _ _ (.slice none 0 0) (.slice none 0 0) _ false rfl rfl (evb_new w5) rfl rfl ?_)
  intro w6 hE6 hg6
  have hb6 : Below w5.heap.size w5 w6 := ((Below.refl _ w5).alloc (Nat.le_refl _) _).grown hg6 (by simp) (fun j hj => by cases hj; exact Nat.le_refl _)
  have hs6 : w5.heap.size < w6.heap.size := hE6.lt
  have HC6 := vl (HC5.out.below hb6)
  have HT6 := vl (HT5.out.trans2 (Tn.of_below (S := CnF cb (.slice ra c.rest.length rc) sv) hb6) (fun _ x => Or.inl x))
  obtain ⟨z0, z1, z2, z3, z4, z5⟩ := hE6.cells
  have HFL5 : Vl (∀ j, CnF cb rv5 sv5 j → j < w5.heap.size) := vl HC5.out.flt
  have hsw6 : w.heap.size ≤ w6.heap.size := HT6.out.size
  clear hg6 hE6 hb6 HC5 HT5
  obtain ⟨g, o, hof, hAr⟩ : ∃ g, ∃ o, (∃ rc5, rv5 = .slice (some ⟨g, 0, none⟩) Z.length rc5 ∧ (if rc5 = Z.length then some (⟨g, 0, none⟩ : Addr) else some ⟨g, Z.length, none⟩) = some ⟨g, o, none⟩ ∧ Z.length ≤ rc5) ∧ True := by
    obtain ⟨ra5, rc5, e9, hc9, _⟩ := HC6.out.rest.slice
    rw [hr'] at e9 hc9
    have h9 := HC6.out.rest
    rw [hr', e9] at h9
    have hb9 := HC6.out.br
    rw [hr'] at hb9
    obtain ⟨g, rfl, o, hof, _⟩ := kcut_arg h9 hb9 (Nat.le_refl _) hpos
    exact ⟨g, o, ⟨rc5, e9, hof, hc9⟩, trivial⟩
  obtain ⟨rc5, rfl, hif, hc5⟩ := hof
  have g0 : w6.cell? ⟨cb, 0, none⟩ = some (.slice (some ⟨g, 0, none⟩) Z.length rc5) := HC6.out.cell 0
  have g3 : w6.cell? ⟨cb, 3, none⟩ = some (.bool false) := (HC6.out.cell 3).trans (by show some (Value.bool c'.over) = _; rw [ho'])
  have HR2 := vl (read_anyFr (some ⟨g, o, none⟩) (Z.length - Z.length) (rc5 - Z.length) [] w6 (Or.inl ⟨by omega, rfl⟩) (by simp))
  have hrd0 : rdF [] = (fr0, 0, 8) := by decide
  rw [hrd0] at HR2
  clear z3 z4 z5 hAr
  go_wp2_with fail
  rw [rounds_succ]
  go_wp2_with fail
  rw [Nat.sub_self] at HR2
  refine HR2.out.mono ?_
  rintro e w7 ⟨⟨ba7, bc7, x7, rfl, _, hx7⟩, hb7⟩
  obtain rfl : x7 = .iface 88 (.int .i64 8) := by
    rcases hx7 with ⟨e1, _⟩ | ⟨_, e2⟩
    · exact absurd (show (8 : Int) = 0 from e1) (by decide)
    · exact e2
  have HC7 := vl (HC6.out.below hb7)
  have HT7 := vl (HT6.out.trans2 (Tn.of_below (S := CnF cb (.slice ra c.rest.length rc) sv) hb7) (fun _ x => Or.inl x))
  clear hb7 hx7 HR2 g0 g3 HC6 HT6 z0 z1 z2
  go_wp2_with (refine wpList_frstore _ rfl _ _ rfl w7.heap.size 0 0 0 0 0 0 (.slice none 0 0) (.slice ba7 0 bc7) rfl rfl (frb_new w7 0 0 0 _) rfl ?_)
  intro w8 hF8 hg8
  have hb8 : Below w7.heap.size w7 w8 := ((Below.refl _ w7).alloc (Nat.le_refl _) _).grown hg8 (by simp) (fun j hj => by cases hj; exact Nat.le_refl _)
  have HC8 := vl (HC7.out.below hb8)
  have HT8 := vl (HT7.out.trans2 (Tn.of_below (S := CnF cb (.slice ra c.rest.length rc) sv) hb8) (fun _ x => Or.inl x))
  have HI8 : Vl (Calls Tryz.prog 69 #[.iface 88 (.int .i64 8), .iface 88 (.int .i64 8)] w8 fun x w' => x = .returned (.bool true) ∧ w8 = w') := vl (nis_any 8 8 (by decide) w8)
  have HFG := vl (kforget_some cb c' (.slice (some ⟨g, 0, none⟩) Z.length rc5) sv5 Z.length w8 HC8.out ho' hpos (by rw [hr']; exact Nat.le_refl _) (by rw [hr']; omega))
  clear hg8 hF8 hb8 HC7 HT7
  go_wp2_with fail
  refine HI8.out.mono ?_
  rintro e w' ⟨rfl, rfl⟩
  go_wp2_with fail
  refine HFG.out.mono ?_
  rintro e w9 ⟨⟨v9, rfl⟩, rv9, sv9, hC9, hT9, hF9⟩
  have hdr : c'.rest.drop Z.length = [] := by rw [hr']; simp
  rw [hdr] at hC9
  have HFIN : Vl (CnT w cb (.slice ra c.rest.length rc) sv { c' with rest := [] } w9) := vl ⟨rv9, sv9, hC9, HT8.out.trans2 hT9 HF5.out, fun j hj => (hF9 j hj).elim (fun x => HF5.out j x) (fun x => Or.inr (by have := HT8.out.size; omega))⟩
  clear hC9 hT9 hF9 HFG HI8 HC8 HT8
  go_wp2
  go_ret
  exact ⟨rfl, HFIN.out⟩
end Go.Proofs.YtdlaaollamgplagGreatDoor
/-
  ONE SIDE OF A CONNECTION: begun, of the laws. No claim by itself.
-/
namespace Go.Proofs.YtdlaaollamgplagGreatDoor
open Go Go.RowKit
set_option maxRecDepth 100000
/-- A connection that heard Set, and what it said is taken. -/
structure CnBeg (c : CnS) : Prop where
  rest : c.rest = []
  said : c.said = []
  begun : c.begun = true
  over : c.over = false
  bfr : c.bfr = 0
  bby : c.bby = .slice none 0 0
  queue : c.queue = .slice none 0 0
  last : c.last = 0
theorem set_rd : rdF (frmL (4, 0, 0, [])) = ((4, 0, 0, []), ((frmL (4, 0, 0, [])).length : Int), 0) := by decide
theorem set_ref (b : Bool) : refF b 4 0 0 [] 0 = 0 := by
  cases b <;> decide
/-- Feed of a Set that says nothing. -/
theorem kfeed_set (cb : Nat) (c : CnS) (rv sv : Value) (a : Option Addr) (cap : Nat) (w : World) (h : CnL w cb c rv sv) (hA : KArg w cb rv sv a 9 cap (frmL (4, 0, 0, []))) (hnil : a = none → cap = 0) (ho : c.over = false) (hr0 : c.rest = []) (hb0 : c.bfr = 0) (hq : c.queue = .slice none 0 0) (hs : c.said.length ≤ 100000000000) :
    Calls Tryz.prog 27 #[.pointer (some ⟨cb, 0, none⟩), .slice a 9 cap] w fun e w' => e = .returned (.slice none 0 0) ∧ CnT w cb rv sv { c with begun := true, said := c.said ++ frmL (4, 1, 0, []), rest := [] } w' :=
  kfeed_quiet cb c { c with begun := true, said := c.said ++ frmL (4, 1, 0, []), rest := frmL (4, 0, 0, []) } rv sv a 9 cap (frmL (4, 0, 0, [])) 4 0 0 [] w h hA hnil (by decide) ho hr0 set_rd (by decide) ho rfl
    (fun W rv' sv' ba bc hC hK => khear_set cb { c with rest := frmL (4, 0, 0, []) } rv' sv' 0 0 ba bc W hC hK hb0 hs (set_ref _) (by decide) hq)
theorem karg_new {w w1 : World} {cb : Nat} {c : CnS} {rv sv : Value} {base : Nat} {a : Option Addr} {cap : Nat} {L : List Int} (h : CnL w cb c rv sv) (hu : UOwn w1 base (.slice a L.length cap) L) (hb : Bytes L) (hs : w.heap.size ≤ base) : KArg w1 cb rv sv a L.length cap L :=
  ⟨UOwn.arg hu hb, fun g off e x => by
    have h1 := (hu.base g (by rw [e]; rfl)).1
    have h2 := h.flt g x
    omega⟩
set_option maxHeartbeats 4000000 in
theorem kbegun_any (w : World) : Calls Tryz.prog 30 #[] w fun e w' => ∃ cb c rv, e = .returned (.pointer (some ⟨cb, 0, none⟩)) ∧ CnL w' cb c rv (.slice none 0 0) ∧ CnBeg c ∧ Below w.heap.size w w' ∧ (∀ k, CnF cb rv (.slice none 0 0) k → w.heap.size ≤ k) ∧ w.heap.size ≤ c.sb := by
  go_enter Tryz.func30, Tryz.ntmps30
  go_wp2_with fail
  refine (knew_any w).mono ?_
  rintro e w1 ⟨cb, c, rv, sv, rfl, hC, hN, hsd, hb1, hf, hsb⟩
  have HC := vl hC
  have HB1 := vl hb1
  have HF := vl hf
  have HE := vl (encode_any 4 0 0 none 0 0 [] w1 (Or.inl ⟨rfl, rfl⟩) rfl)
  have hs1 : w.heap.size ≤ w1.heap.size := hb1.size
  have HN := vl hN
  have HSD := vl hsd
  clear hC hb1 hf hN hsd
  go_wp2_with fail
  refine HE.out.mono ?_
  rintro e w2 ⟨⟨v2, x2, rfl, hm⟩, hb2⟩
  rcases hm with ⟨_, rfl, ho2⟩ | ⟨hne, _⟩
  case inr => exact absurd (show frmE (4, 0, 0, []) = 0 by decide) hne
  have hu2 := UOwn.of ho2
  obtain ⟨ua, uc, rfl, _⟩ := hu2.slice
  have HC2 := vl (HC.out.below hb2)
  have HB2 := vl (HB1.out.trans (hb2.mono hs1))
  have hk := karg_new HC.out hu2 (bytes_frm (f := (4, 0, 0, [])) (by decide) (fun x hx => by cases hx)) (Nat.le_refl _)
  have hua : ua = none → uc = 0 := fun e => by
    subst e
    rcases hu2 with ⟨hv, _⟩ | ⟨g, c9, hv, _⟩
    · injection hv
    · injection hv with h9; cases h9
  have hl9 : (frmL (4, 0, 0, [])).length = 9 := by decide
  rw [hl9] at hk
  have HFD := vl (kfeed_set cb c rv sv ua uc w2 HC2.out hk hua HN.out.over HN.out.rest HN.out.bfr HN.out.queue (by rw [HSD.out]; decide))
  rw [hl9]
  clear ho2 hu2 hb2 hk hua HE HC
  go_wp2_with fail
  refine HFD.out.mono ?_
  rintro e w3 ⟨rfl, rv3, sv3, hC3, hT3, hF3⟩
  have HOU := vl (kout_any cb _ rv3 sv3 w3 hC3)
  have HB3 : Vl (Below w.heap.size w w3) := vl (hT3.below HB2.out HB2.out.size HF.out)
  have HF3 : Vl (∀ k, CnF cb rv3 sv3 k → w.heap.size ≤ k) := vl (fun k hk => (hF3 k hk).elim (fun x => HF.out k x) (fun x => by have := HB2.out.size; omega))
  clear hC3 hT3 hF3 HFD
  go_wp2_with fail
  refine HOU.out.mono ?_
  rintro e w4 ⟨rfl, hC4, hT4, _⟩
  have HC4 := vl hC4
  have HB4 : Vl (Below w.heap.size w w4) := vl (hT4.below HB3.out HB3.out.size (fun i hi => by
    have hi' : i = cb := hi
    rw [hi']
    exact HF3.out cb (Or.inl rfl)))
  clear hC4 hT4 HOU
  go_wp2
  go_ret
  refine ⟨cb, _, rv3, rfl, HC4.out, ⟨rfl, rfl, rfl, HN.out.over, HN.out.bfr, HN.out.bby, HN.out.queue, HN.out.last⟩, HB4.out, fun k hk => ?_, hsb⟩
  rcases hk with e | e | e
  · exact HF3.out k (Or.inl e)
  · exact HF3.out k (Or.inr (Or.inl e))
  · cases e
end Go.Proofs.YtdlaaollamgplagGreatDoor
/-
  ONE SIDE OF A CONNECTION: frames, of the laws, where there is one. No claim by itself.
-/
namespace Go.Proofs.YtdlaaollamgplagGreatDoor
open Go Go.RowKit
set_option maxRecDepth 100000
/-- One frame in a row of its own. -/
def FrOne (w : World) (base : Nat) (v : Value) (a b d : Int) (bv : Value) : Prop := ∃ g cap cur, v = .slice (some ⟨g, 0, none⟩) 1 cap ∧ base ≤ g ∧ w.heap[g]? = some (.cells cur 60 (0, 0)) ∧ 1 ≤ cap ∧ cur.toList.take 4 = [.int .i64 a, .int .i64 b, .int .i64 d, bv]
theorem k_infoFr : (Tryz.prog.info? 60).map (fun i => (i.zero, i.size, i.bytes)) = some (some (.agg #[.int .i64 0, .int .i64 0, .int .i64 0, .slice none 0 0]), 4, 48) := by kernel_rfl
/-- Append of one frame to none. -/
theorem wpList_frapp {ops : Array Oper} {rest : List Oper} {o : Oper} {a : Act} {Q : Exit → Act → World → Prop} (w : World) (hgd : o.guard = none) (s x : Operand)
    (ho : o.op = .call { callee := .builtin .append, args := #[s, x], argTypes := #[55, 55] }) (base : Nat) (p q r : Int) (bv : Value) (hs : a.eval s = .slice none 0 0)
    (hx : a.eval x = .slice (some ⟨w.heap.size, 0, none⟩) 1 1) (h2 : bv.oneCell' = true) (hbase : base ≤ w.heap.size)
    (h : ∀ v' w', FrOne w' base v' p q r bv → Below (w.heap.size + 1) (w.alloc (.cells #[.int .i64 p, .int .i64 q, .int .i64 r, bv] 60)) w' → (∀ k, v'.ownBlock = some k → w.heap.size < k) → wpList Tryz.prog ops Q rest (a.put o.dst v') w') : wpList Tryz.prog ops Q (o :: rest) a (w.alloc (.cells #[.int .i64 p, .int .i64 q, .int .i64 r, bv] 60)) := by
  obtain ⟨i0, hi, hz0, hz1, hz2⟩ := info_parts k_infoFr
  refine wpList_append_own _ hgd s x 55 ho (w.heap.size + 1) 60 i0 (.agg #[.int .i64 0, .int .i64 0, .int .i64 0, .slice none 0 0]) 4 48 Tryz.underlying55 hi hz0 hz1 hz2 rfl (by decide) (.slice none 0 0) 0 [] hs ⟨rfl, Or.inl ⟨rfl, rfl⟩⟩ ⟨w.heap.size, 0, none⟩ 1 1 [.int .i64 p, .int .i64 q, .int .i64 r, bv] hx rfl ?_ ?_ (by unfold maxLen; omega) (by omega) (by rw [World.size_alloc]; omega) ?_
  · intro j y hj
    have hh : (w.alloc (.cells #[.int .i64 p, .int .i64 q, .int .i64 r, bv] 60)).heap[w.heap.size]? = some (.cells #[.int .i64 p, .int .i64 q, .int .i64 r, bv] 60 (0, 0)) := heap_alloc_new w _
    rw [k_add]
    simp only [World.cell?, hh, Nat.zero_add]
    match j with
    | 0 => exact hj
    | 1 => exact hj
    | 2 => exact hj
    | 3 => exact hj
    | j + 4 => simp at hj
  · intro y hy
    simp at hy
    rcases hy with rfl | rfl | rfl | rfl <;> first | rfl | assumption
  · intro v' w' h3 h4 _
    obtain ⟨_, ⟨rfl, hn⟩ | ⟨g, cap, cur, rfl, hg, hc, h5, h6, h7, h8⟩⟩ := h3
    · simp at hn
    · refine h _ w' ⟨g, cap, cur, rfl, by omega, hc, h5, ?_⟩ ?_ (fun k hk => by have e : g = k := Option.some.inj hk; omega)
      · simpa using h8
      · exact ⟨h4.os, h4.tape, h4.output, h4.size, fun k hk => h4.block k (by rw [World.size_alloc]; omega) (by simp [Value.ownBlock])⟩
set_option maxHeartbeats 4000000 in
theorem kframes_one (a : Option Addr) (len cap : Nat) (Z : List Int) (k fl st : Int) (B : List Int) (w : World) (hA : Arg w a len cap Z) (hrd : rdF Z = ((k, fl, st, B), (len : Int), 0)) (hpos : 0 < len) (hle : len ≤ 2000) :
    Calls Tryz.prog 23 #[.slice a len cap] w fun e w' => ∃ v ba bc, e = .returned (.tuple #[v, .bool true]) ∧ FrOne w' w.heap.size v k fl st (.slice ba B.length bc) ∧ Arg w' ba B.length bc B ∧ Below w.heap.size w w' := by
  have hZ := hA.len
  obtain ⟨g, off, rfl, hr⟩ : ∃ g off, a = some ⟨g, off, none⟩ ∧ Row w g off len cap Z := by
    rcases hA with ⟨h0, _⟩ | x
    · omega
    · exact x
  have hcap := hr.hcap
  have hmx := hr.hmax
  unfold maxLen at hmx
  have HRD := vl (read_anyFr (some ⟨g, off, none⟩) len cap Z w (Or.inr ⟨g, off, rfl, hr⟩) hZ)
  rw [hrd] at HRD
  have hp' : (0 : Int) < (len : Int) := by omega
  have hl1 : ¬ (len : Int) < 1 := by omega
  obtain ⟨o, ho⟩ : ∃ o, (if cap = len then some (⟨g, off, none⟩ : Addr) else some ⟨g, off + len, none⟩) = some ⟨g, o, none⟩ := by
    by_cases hc : cap = len
    · exact ⟨off, if_pos hc⟩
    · exact ⟨off + len, if_neg hc⟩
  have hcl' : (len : Int) ≤ (cap : Int) := by omega
  clear hr hZ
  go_enter Tryz.func23, Tryz.ntmps23
  go_upto_region 2 with fail
  refine wp_loop_rounds 2 ?_
  rw [rounds_succ]
  go_wp2_with fail
  refine HRD.out.mono ?_
  rintro e w1 ⟨⟨ba, bc, x, rfl, ⟨hAb, hfr⟩, hx⟩, hb1⟩
  obtain rfl : x = .nilIface := by
    rcases hx with ⟨_, e2⟩ | ⟨e1, _⟩
    · exact e2
    · exact absurd rfl e1
  have HAB : Vl (Arg w1 ba B.length bc B) := vl hAb
  have HB1 := vl hb1
  clear hAb hfr hx hb1 HRD
  go_wp2_with (refine wpList_frstore _ rfl _ _ rfl w1.heap.size 0 0 0 k fl st (.slice none 0 0) (.slice ba B.length bc) rfl rfl (frb_new w1 0 0 0 _) rfl ?_)
  intro w2 hF2 hg2
  have hb2 : Below w1.heap.size w1 w2 := ((Below.refl _ w1).alloc (Nat.le_refl _) _).grown hg2 (by simp) (fun j hj => by cases hj; exact Nat.le_refl _)
  have HB2 := vl (HB1.out.trans (hb2.mono HB1.out.size))
  have HAB2 := vl (HAB.out.below hb2)
  obtain ⟨b0, b1, b2, b3⟩ := hF2.cells
  have hs2 : w.heap.size ≤ w2.heap.size := HB2.out.size
  clear hF2 hg2 hb2 HAB HB1
  go_wp2_with (at_builtin; refine wpList_frapp w2 rfl _ _ rfl w.heap.size k fl st (.slice ba B.length bc) rfl rfl rfl hs2 ?_)
  intro v3 w3 hO3 hb3 hv3
  have HB3 : Vl (Below w.heap.size w w3) := vl ((HB2.out.alloc hs2 _).trans (hb3.mono (by omega)))
  have hb23 : Below w2.heap.size w2 w3 := ((Below.refl _ w2).alloc (Nat.le_refl _) _).trans (hb3.mono (Nat.le_succ _))
  have HAB3 := vl (HAB2.out.below hb23)
  have HO3 := vl hO3
  obtain ⟨va, vn, vc, rfl⟩ : ∃ x y z, v3 = .slice x y z := by
    obtain ⟨g, cap', cur, rfl, _⟩ := hO3
    exact ⟨_, _, _, rfl⟩
  clear hO3 hb3 hv3 hb23 HB2 HAB2 b0 b1 b2 b3
  go_wp2_with fail
  rw [rounds_succ]
  go_wp2
  go_ret2
  exact ⟨_, ba, bc, rfl, HO3.out, HAB3.out, HB3.out⟩
end Go.Proofs.YtdlaaollamgplagGreatDoor
/-
  ONE SIDE OF A CONNECTION: Feed, of one frame of which an event is told, and that is not the end. No claim by itself.
-/
namespace Go.Proofs.YtdlaaollamgplagGreatDoor
open Go Go.RowKit
set_option maxRecDepth 100000
set_option maxHeartbeats 8000000 in
theorem kfeed_event (p0 q0 r0 : Int) (hp0 : p0 ≠ 0) (cb : Nat) (c c' : CnS) (rv sv : Value) (a : Option Addr) (len cap : Nat) (Z : List Int) (k fl st : Int) (B : List Int) (w : World) (h : CnL w cb c rv sv) (hA : KArg w cb rv sv a len cap Z) (hnil : a = none → cap = 0) (hlen : len ≤ 2000) (ho : c.over = false) (hr0 : c.rest = [])
    (hrd : rdF Z = ((k, fl, st, B), (Z.length : Int), 0)) (hpos : 0 < Z.length) (ho' : c'.over = false) (hr' : c'.rest = Z)
    (hh : ∀ (W : World) (rv' sv' : Value) (ba : Option Addr) (bc : Nat), CnL W cb { c with rest := Z } rv' sv' → KArg W cb rv' sv' ba B.length bc B → Calls Tryz.prog 70 #[.pointer (some ⟨cb, 0, none⟩), .agg #[.int .i64 k, .int .i64 fl, .int .i64 st, .slice ba B.length bc], .nilIface] W fun e w' => e = .returned (evA p0 q0 r0 (.slice none 0 0) (.slice none 0 0) false) ∧ CnT W cb rv' sv' c' w') :
    Calls Tryz.prog 27 #[.pointer (some ⟨cb, 0, none⟩), .slice a len cap] w fun e w' => ∃ v rv' sv', e = .returned v ∧ EvOne w' w.heap.size v p0 q0 r0 (.slice none 0 0) (.slice none 0 0) false ∧ CnL w' cb { c' with rest := [] } rv' sv' ∧ Tn (CnF cb rv sv) w w' ∧ (∀ j, CnF cb rv' sv' j → CnF cb rv sv j ∨ w.heap.size ≤ j) ∧ ∀ j, v.ownBlock = some j → ¬ CnF cb rv' sv' j := by
  have hp0' : (p0 != 0) = true := by simpa using hp0
  obtain ⟨ra, rc, rfl, _⟩ := h.rest.slice
  have c3 : w.cell? ⟨cb, 3, none⟩ = some (.bool false) := (h.cell 3).trans (by show some (Value.bool c.over) = _; rw [ho])
  have c0 : w.cell? ⟨cb, 0, none⟩ = some (.slice ra c.rest.length rc) := h.cell 0
  have HC := vl h
  have HR := vl h.rest
  have HA := vl hA
  have hl0 : c.rest.length = 0 := by rw [hr0]; rfl
  rw [hl0] at c0 HR
  rw [hr0] at HR
  have HNIL := vl hnil
  have HZ := vl hA.1.len
  clear h hA hnil
  go_enter Tryz.func27, Tryz.ntmps27
  go_wp2_with (at_builtin; refine wpList_uapp _ rfl _ _ rfl 0 _ [] rfl HR.out a len cap Z rfl HA.out.1 HNIL.out (by simp; omega) (Nat.zero_le _) ?_)
  intro v1 w1 hu1 hg1 hv1
  obtain ⟨va, vc, rfl, hvc, hvm⟩ := hu1.slice
  obtain ⟨hC2, hT2, hF2⟩ := HC.out.heard (rv := .slice ra c.rest.length rc) (by rw [hl0]; exact hg1) hu1 (by rw [hl0]; exact hv1) HA.out.1.bytes
  have hnb : (Value.slice ra 0 rc).ownBlock ≠ some cb := fun e => (HC.out.nr cb (by rw [hl0]; exact e)).1 rfl
  have d0 : w1.cell? ⟨cb, 0, none⟩ = some (.slice ra 0 rc) := (World.cell?_of_block (a := ⟨cb, 0, none⟩) (hg1.block cb HC.out.lt (fun e => hnb e.symm))).trans c0
  have f0 : w1.frozen? ⟨cb, 0, none⟩ = false := (World.frozen?_of_block (a := ⟨cb, 0, none⟩) (hg1.block cb HC.out.lt (fun e => hnb e.symm))).trans (HC.out.frozen 0)
  obtain ⟨W2, hW2⟩ : ∃ x, x = w1.setCell ⟨cb, 0, none⟩ (.slice va Z.length vc) := ⟨_, rfl⟩
  rw [← hW2] at hC2 hT2
  have HC2 := vl hC2
  have HT2 := vl hT2
  have HF2 := vl hF2
  have HNC : Vl (∀ j, CnF cb (.slice ra c.rest.length rc) sv j → j < w.heap.size) := vl HC.out.flt
  have e0 : W2.cell? ⟨cb, 0, none⟩ = some (.slice va Z.length vc) := hC2.cell 0
  have e3 : W2.cell? ⟨cb, 3, none⟩ = some (.bool false) := (hC2.cell 3).trans (by show some (Value.bool c.over) = _; rw [ho])
  obtain ⟨ua, uc, huv, hUA, _⟩ := uarg hC2.rest hC2.br
  injection huv with e1 e2 e4
  subst e1 e4
  have HRD := vl (read_anyFr va Z.length vc Z W2 hUA rfl)
  rw [hrd] at HRD
  have hvn : va ≠ none := fun e => by
    rcases hC2.rest with ⟨hv, _⟩ | ⟨g, cap', hv, _⟩
    · injection hv with _ hv
      have h9 : Z.length = 0 := hv
      omega
    · injection hv with hv
      rw [e] at hv
      cases hv
  obtain ⟨ga, hga⟩ : ∃ g, va = some ⟨g, 0, none⟩ := by
    rcases hC2.rest with ⟨hv, _⟩ | ⟨g, cap', hv, _⟩
    · injection hv with hv
      exact absurd hv hvn
    · injection hv with hv
      exact ⟨g, hv⟩
  subst hga
  clear hC2 hT2 hF2 hu1 hg1 hv1 hnb c0 HR hUA hvn
  have HHH := vl hh
  have hzl : Z.length ≤ 2000 := by have := HZ.out; omega
  clear hh
  go_upto_region 6 with fail
  rw [← hW2]
  clear hW2 d0 f0 c3
  refine wp_loop_rounds 2 ?_
  rw [rounds_succ]
  go_wp2_with fail
  refine HRD.out.mono ?_
  rintro e w3 ⟨⟨ba, bc, x, rfl, ⟨hAb, hfr⟩, hx⟩, hb3⟩
  obtain rfl : x = .nilIface := by
    rcases hx with ⟨_, e2⟩ | ⟨e1, _⟩
    · exact e2
    · exact absurd rfl e1
  have HAB : Vl (Arg w3 ba B.length bc B) := vl hAb
  have HFR : Vl (∀ g off, ba = some ⟨g, off, none⟩ → W2.heap.size ≤ g) := vl hfr
  have HC3 := vl (HC2.out.below hb3)
  have HT3 := vl (HT2.out.trans2 (Tn.of_below (S := CnF cb (.slice ra c.rest.length rc) sv) hb3) (fun _ x => Or.inl x))
  have hs3 : W2.heap.size ≤ w3.heap.size := hb3.size
  clear hb3 HRD hAb hfr hx e0 e3
  go_wp2_with (refine wpList_frstore _ rfl _ _ rfl w3.heap.size 0 0 0 k fl st (.slice none 0 0) (.slice ba B.length bc) rfl rfl (frb_new w3 0 0 0 _) rfl ?_)
  intro w4 hF4 hg4
  have hb4 : Below w3.heap.size w3 w4 := ((Below.refl _ w3).alloc (Nat.le_refl _) _).grown hg4 (by simp) (fun j hj => by cases hj; exact Nat.le_refl _)
  have hs4 : w3.heap.size < w4.heap.size := hF4.lt
  have HC4 := vl (HC3.out.below hb4)
  have HT4 := vl (HT3.out.trans2 (Tn.of_below (S := CnF cb (.slice ra c.rest.length rc) sv) hb4) (fun _ x => Or.inl x))
  have HFL2 : Vl (∀ j, CnF cb (.slice (some ⟨ga, 0, none⟩) Z.length vc) sv j → j < W2.heap.size) := vl HC2.out.flt
  have HKA : Vl (KArg w4 cb (.slice (some ⟨ga, 0, none⟩) Z.length vc) sv ba B.length bc B) := vl ⟨HAB.out.below hb4, fun g off e x => by
    have := HFR.out g off e
    have := HFL2.out g x
    omega⟩
  have HIS : Vl (Calls Tryz.prog 69 #[.nilIface, .iface 88 (.int .i64 8)] w4 fun x w' => x = .returned (.bool false) ∧ w4 = w') := vl (nis_any 0 8 (by decide) w4)
  have HHE := vl (HHH.out w4 (.slice (some ⟨ga, 0, none⟩) Z.length vc) sv ba bc HC4.out HKA.out)
  unfold evA at HHE
  obtain ⟨b0, b1, b2, b3⟩ := hF4.cells
  clear hg4 hF4 hb4 HC3 HT3 HAB
  go_wp2_with fail
  refine HIS.out.mono ?_
  rintro e w' ⟨rfl, rfl⟩
  clear HIS
  go_wp2_with fail
  refine HHE.out.mono ?_
  rintro e w5 ⟨rfl, rv5, sv5, hC5, hT5, hF5⟩
  have HC5 := vl hC5
  have HT5 := vl (HT4.out.trans2 hT5 (fun j hj => by
    rcases hj with e | e | e
    · exact Or.inl (Or.inl e)
    · exact (HF2.out j (Or.inr (Or.inl e)))
    · exact (HF2.out j (Or.inr (Or.inr e)))))
  have HF5 : Vl (∀ j, CnF cb rv5 sv5 j → CnF cb (.slice ra c.rest.length rc) sv j ∨ w.heap.size ≤ j) := vl (fun j hj => (hF5 j hj).elim (fun x => HF2.out j x) (fun x => Or.inr (by have := HT4.out.size; omega)))
  clear hC5 hT5 hF5 HHE b0 b1 b2 b3 HC4 HKA
  go_wp2_with (refine wpList_evstore _ rfl _ _ rfl w5.heap.size _ _ _ p0 q0 r0 _ _ (.slice none 0 0) (.slice none 0 0) _ false rfl rfl (evb_new w5) rfl rfl ?_)
  intro w6 hE6 hg6
  have hb6 : Below w5.heap.size w5 w6 := ((Below.refl _ w5).alloc (Nat.le_refl _) _).grown hg6 (by simp) (fun j hj => by cases hj; exact Nat.le_refl _)
  have hs6 : w5.heap.size < w6.heap.size := hE6.lt
  have HC6 := vl (HC5.out.below hb6)
  have HT6 := vl (HT5.out.trans2 (Tn.of_below (S := CnF cb (.slice ra c.rest.length rc) sv) hb6) (fun _ x => Or.inl x))
  obtain ⟨z0, z1, z2, z3, z4, z5⟩ := hE6.cells
  have HFL5 : Vl (∀ j, CnF cb rv5 sv5 j → j < w5.heap.size) := vl HC5.out.flt
  have hsw6 : w.heap.size ≤ w6.heap.size := HT6.out.size
  clear hg6 hE6 hb6 HC5 HT5
  have hsw6 : w.heap.size ≤ w6.heap.size := HT6.out.size
  go_wp2_with (at_builtin; refine wpList_evapp w6 rfl _ _ rfl w.heap.size p0 q0 r0 (.slice none 0 0) (.slice none 0 0) false rfl rfl rfl rfl hsw6 ?_)
  intro v7 w7 hO7 hb7 hv7
  have hb67 : Below w6.heap.size w6 w7 := ((Below.refl _ w6).alloc (Nat.le_refl _) _).trans (hb7.mono (Nat.le_succ _))
  have HC7 := vl (HC6.out.below hb67)
  have HT7 := vl (HT6.out.trans2 (Tn.of_below (S := CnF cb (.slice ra c.rest.length rc) sv) hb67) (fun _ x => Or.inl x))
  have HO7 := vl hO7
  have HV7 : Vl (∀ j, v7.ownBlock = some j → ¬ CnF cb rv5 sv5 j) := vl (fun j hj x => by have := hv7 j hj; have := HFL5.out j x; omega)
  obtain ⟨va7, vn7, vc7, rfl⟩ : ∃ x y z, v7 = .slice x y z := by
    obtain ⟨g, cap', cur, rfl, _⟩ := hO7
    exact ⟨_, _, _, rfl⟩
  clear hO7 hb7 hv7 hb67 HC6 HT6 z0 z1 z2 z3 z4 z5
  obtain ⟨g, o, hof, hAr⟩ : ∃ g, ∃ o, (∃ rc5, rv5 = .slice (some ⟨g, 0, none⟩) Z.length rc5 ∧ (if rc5 = Z.length then some (⟨g, 0, none⟩ : Addr) else some ⟨g, Z.length, none⟩) = some ⟨g, o, none⟩ ∧ Z.length ≤ rc5) ∧ True := by
    obtain ⟨ra5, rc5, e9, hc9, _⟩ := HC7.out.rest.slice
    rw [hr'] at e9 hc9
    have h9 := HC7.out.rest
    rw [hr', e9] at h9
    have hb10 := HC7.out.br
    rw [hr'] at hb10
    obtain ⟨g, rfl, o, hof, _⟩ := kcut_arg h9 hb10 (Nat.le_refl _) hpos
    exact ⟨g, o, ⟨rc5, e9, hof, hc9⟩, trivial⟩
  obtain ⟨rc5, rfl, hif, hc5⟩ := hof
  have g0 : w7.cell? ⟨cb, 0, none⟩ = some (.slice (some ⟨g, 0, none⟩) Z.length rc5) := HC7.out.cell 0
  have g3 : w7.cell? ⟨cb, 3, none⟩ = some (.bool false) := (HC7.out.cell 3).trans (by show some (Value.bool c'.over) = _; rw [ho'])
  have HR2 := vl (read_anyFr (some ⟨g, o, none⟩) (Z.length - Z.length) (rc5 - Z.length) [] w7 (Or.inl ⟨by omega, rfl⟩) (by simp))
  have hrd0 : rdF [] = (fr0, 0, 8) := by decide
  rw [hrd0] at HR2
  clear hAr
  go_wp2_with fail
  rw [rounds_succ]
  go_wp2_with fail
  rw [Nat.sub_self] at HR2
  refine HR2.out.mono ?_
  rintro e w8 ⟨⟨ba8, bc8, x8, rfl, _, hx8⟩, hb8⟩
  obtain rfl : x8 = .iface 88 (.int .i64 8) := by
    rcases hx8 with ⟨e1, _⟩ | ⟨_, e2⟩
    · exact absurd (show (8 : Int) = 0 from e1) (by decide)
    · exact e2
  have HC8 := vl (HC7.out.below hb8)
  have HO8 := vl (HO7.out.tn (Tn.of_below (S := fun _ => False) hb8) (fun _ _ x => x))
  have HT8 := vl (HT7.out.trans2 (Tn.of_below (S := CnF cb (.slice ra c.rest.length rc) sv) hb8) (fun _ x => Or.inl x))
  clear hb8 hx8 HR2 g0 g3 HC7 HT7
  go_wp2_with (refine wpList_frstore _ rfl _ _ rfl w8.heap.size 0 0 0 0 0 0 (.slice none 0 0) (.slice ba8 0 bc8) rfl rfl (frb_new w8 0 0 0 _) rfl ?_)
  intro w9 hF9 hg9
  have hb9 : Below w8.heap.size w8 w9 := ((Below.refl _ w8).alloc (Nat.le_refl _) _).grown hg9 (by simp) (fun j hj => by cases hj; exact Nat.le_refl _)
  have HC9 := vl (HC8.out.below hb9)
  have HO9 := vl (HO8.out.tn (Tn.of_below (S := fun _ => False) hb9) (fun _ _ x => x))
  have HT9 := vl (HT8.out.trans2 (Tn.of_below (S := CnF cb (.slice ra c.rest.length rc) sv) hb9) (fun _ x => Or.inl x))
  have HI9 : Vl (Calls Tryz.prog 69 #[.iface 88 (.int .i64 8), .iface 88 (.int .i64 8)] w9 fun x w' => x = .returned (.bool true) ∧ w9 = w') := vl (nis_any 8 8 (by decide) w9)
  have HFG := vl (kforget_some cb c' (.slice (some ⟨g, 0, none⟩) Z.length rc5) sv5 Z.length w9 HC9.out ho' hpos (by rw [hr']; exact Nat.le_refl _) (by rw [hr']; omega))
  clear hg9 hF9 hb9 HC8 HT8
  go_wp2_with fail
  refine HI9.out.mono ?_
  rintro e w' ⟨rfl, rfl⟩
  go_wp2_with fail
  refine HFG.out.mono ?_
  rintro e w10 ⟨⟨v10, rfl⟩, rv10, sv10, hC10, hT10, hF10⟩
  have hdr : c'.rest.drop Z.length = [] := by rw [hr']; simp
  rw [hdr] at hC10
  have HC10 := vl hC10
  have HT10 := vl (HT9.out.trans2 hT10 HF5.out)
  have HO10 := vl (HO9.out.tn hT10 (fun j hj => HV7.out j hj))
  have HF10 : Vl (∀ j, CnF cb rv10 sv10 j → CnF cb (.slice ra c.rest.length rc) sv j ∨ w.heap.size ≤ j) := vl (fun j hj => (hF10 j hj).elim (fun x => HF5.out j x) (fun x => Or.inr (by have := HT9.out.size; omega)))
  have HV10 : Vl (∀ j, (Value.slice va7 vn7 vc7).ownBlock = some j → ¬ CnF cb rv10 sv10 j) := vl (fun j hj x => (hF10 j x).elim (fun y => HV7.out j hj y) (fun y => by
    obtain ⟨g, cap', cur, e9, _, h9, _⟩ := HO9.out
    rw [e9] at hj
    have e8 : g = j := Option.some.inj hj
    have := (Array.getElem?_eq_some_iff.1 h9).1
    omega))
  clear hC10 hT10 hF10 HFG HI9 HC9 HT9 HO9
  go_wp2
  go_ret
  exact ⟨_, rv10, sv10, rfl, HO10.out, HC10.out, HT10.out, HF10.out, HV10.out⟩
end Go.Proofs.YtdlaaollamgplagGreatDoor
/-
  CONNBEGINS: the walk of the law. No claim by itself.
-/
namespace Go.Proofs.YtdlaaollamgplagGreatDoor
open Go Go.RowKit
set_option maxRecDepth 100000
theorem frm_len9b (f : Frm) : (frmL f).length = 9 + f.2.2.2.length := by
  obtain ⟨k, fl, st, B⟩ := f
  simp [frmL, bigL]
  omega
theorem rd_one (f : Frm) (h : frmE f = 0) : rdF (frmL f) = (f, ((frmL f).length : Int), 0) := by
  have := rd_frm f [] h
  rw [List.append_nil] at this
  rw [this, frm_len9b]
theorem FrOne.cells3 {w : World} {base : Nat} {v : Value} {a b d : Int} {bv : Value} (h : FrOne w base v a b d bv) : ∃ g cap, v = .slice (some ⟨g, 0, none⟩) 1 cap ∧ base ≤ g ∧ g < w.heap.size ∧ 1 ≤ cap ∧ w.cell? ⟨g, 0, none⟩ = some (.int .i64 a) ∧ w.cell? ⟨g, 1, none⟩ = some (.int .i64 b) ∧ w.cell? ⟨g, 3, none⟩ = some bv := by
  obtain ⟨g, cap, cur, rfl, h1, h2, h3, h4⟩ := h
  have key : ∀ j, j < 4 → w.cell? ⟨g, j, none⟩ = ([Value.int .i64 a, .int .i64 b, .int .i64 d, bv])[j]? := fun j hj => by
    rw [cell_of_row w g j cur _ _ h2, ← h4, List.getElem?_take, if_pos hj, Array.getElem?_toList]
  exact ⟨g, cap, rfl, h1, (Array.getElem?_eq_some_iff.1 h2).1, h3, key 0 (by decide), key 1 (by decide), key 3 (by decide)⟩
theorem EvOne.cells3 {w : World} {base : Nat} {v : Value} {a b d : Int} {fv bv : Value} {e : Bool} (h : EvOne w base v a b d fv bv e) : ∃ g cap, v = .slice (some ⟨g, 0, none⟩) 1 cap ∧ base ≤ g ∧ g < w.heap.size ∧ 1 ≤ cap ∧ w.cell? ⟨g, 0, none⟩ = some (.int .i64 a) ∧ w.cell? ⟨g, 2, none⟩ = some (.int .i64 d) := by
  obtain ⟨g, cap, cur, rfl, h1, h2, h3, h4⟩ := h
  have key : ∀ j, j < 6 → w.cell? ⟨g, j, none⟩ = ([Value.int .i64 a, .int .i64 b, .int .i64 d, fv, bv, .bool e])[j]? := fun j hj => by
    rw [cell_of_row w g j cur _ _ h2, ← h4, List.getElem?_take, if_pos hj, Array.getElem?_toList]
  exact ⟨g, cap, rfl, h1, (Array.getElem?_eq_some_iff.1 h2).1, h3, key 0 (by decide), key 2 (by decide)⟩
/-- Eight bytes of one's own, into which others are copied. -/
theorem kcopy8 (W : World) (a : Option Addr) (len cap : Nat) (Z : List Int) (hA : Arg W a len cap Z) (ty : TypeId) :
    ∃ v w' E, (Builtin.copy_ #[23, 23] ty #[.slice (some ⟨W.heap.size, 0, none⟩) 8 8, .slice a len cap]).run Tryz.prog (W.alloc (.cells #[.int .u8 0, .int .u8 0, .int .u8 0, .int .u8 0, .int .u8 0, .int .u8 0, .int .u8 0, .int .u8 0] 5)) = .ok v w' ∧ UOwn w' W.heap.size (.slice (some ⟨W.heap.size, 0, none⟩) 8 8) E ∧ E.length = 8 ∧ Bytes E ∧ Below W.heap.size W w' := by
  obtain ⟨W1, hW1⟩ : ∃ x, W.alloc (.cells #[.int .u8 0, .int .u8 0, .int .u8 0, .int .u8 0, .int .u8 0, .int .u8 0, .int .u8 0, .int .u8 0] 5) = x := ⟨_, rfl⟩
  have hb1 : Below W.heap.size W W1 := by rw [← hW1]; exact (Below.refl _ W).alloc (Nat.le_refl _) _
  have hrow : W1.heap[W.heap.size]? = some (.cells #[.int .u8 0, .int .u8 0, .int .u8 0, .int .u8 0, .int .u8 0, .int .u8 0, .int .u8 0, .int .u8 0] 5 (0, 0)) := by rw [← hW1]; exact heap_alloc_new W _
  have hs5 : (Tryz.prog.info? 5).map (·.size) = some 1 := by kernel_rfl
  rw [hW1]
  have hcell : ∀ j, j < 8 → W1.cell? ⟨W.heap.size, j, none⟩ = some (.int .u8 0) := fun j hj => by
    rw [cell_of_row W1 W.heap.size j _ _ _ hrow]
    match j, hj with
    | 0, _ => rfl
    | 1, _ => rfl
    | 2, _ => rfl
    | 3, _ => rfl
    | 4, _ => rfl
    | 5, _ => rfl
    | 6, _ => rfl
    | 7, _ => rfl
  have hfz : ∀ j, W1.frozen? ⟨W.heap.size, j, none⟩ = false := fun j => by unfold World.frozen?; rw [hrow]; simp
  have hlt : W.heap.size < W1.heap.size := (Array.getElem?_eq_some_iff.1 hrow).1
  rcases hA with ⟨h0, rfl⟩ | ⟨g, off, rfl, hr⟩
  · refine ⟨_, W1, [0, 0, 0, 0, 0, 0, 0, 0], run_copy_none W1 23 23 ty 5 _ _ 8 8 len cap Tryz.underlying23 hs5 (by rw [h0]; rfl), ?_, rfl, ?_, hb1⟩
    · refine Or.inr ⟨W.heap.size, 8, rfl, Nat.le_refl _, hlt, Nat.le_refl _, by decide, fun t ht => ?_, fun t ht => by rw [hcell t ht]; rfl, fun t _ => hfz t⟩
      rw [hcell t ht]
      match t, ht with
      | 0, _ => rfl
      | 1, _ => rfl
      | 2, _ => rfl
      | 3, _ => rfl
      | 4, _ => rfl
      | 5, _ => rfl
      | 6, _ => rfl
      | 7, _ => rfl
    · intro x hx
      simp at hx
      omega
  · have hgl : g < W.heap.size ∨ len = 0 := by
      rcases Nat.eq_zero_or_pos len with h | h
      · exact Or.inr h
      · exact Or.inl (blk_of_cell (hr.hcell 0 h))
    obtain ⟨m, hm⟩ : ∃ m, m = Nat.min len 8 := ⟨_, rfl⟩
    have hm8 : m ≤ 8 ∧ m ≤ len := by rw [hm]; exact ⟨Nat.min_le_right _ _, Nat.min_le_left _ _⟩
    have hzl := hr.hlen
    have hcl : ((Z.take m).map (Value.int .u8)).length = m := by simp; omega
    have hrun := run_copy_cells (P := Tryz.prog) W1 23 23 ty 5 W.heap.size 0 8 8 ⟨g, off, none⟩ len cap ((Z.take m).map (Value.int .u8)) Tryz.underlying23 hs5 (by rw [hcl, hm]) (fun j v hj => by
      have hjm : j < m := by
        rcases Nat.lt_or_ge j m with x | x
        · exact x
        · rw [List.getElem?_eq_none (by rw [hcl]; exact x)] at hj; cases hj
      rw [k_add]
      have hc := hr.hcell j (by omega)
      rw [hb1.cell (p := ⟨g, off + j, none⟩) (hgl.resolve_right (by omega)), hc]
      rw [List.getElem?_map, List.getElem?_take, if_pos hjm] at hj
      rw [List.getElem?_eq_getElem (by omega)] at hj
      rw [← hj]
      simp [List.getD, List.getElem?_eq_getElem (show j < Z.length by omega)]) (fun j hj => by rw [hcl] at hj; rw [Nat.zero_add, hcell j (by omega)]; rfl) (fun j _ => by rw [Nat.zero_add]; exact hfz j) (fun v hv => by
      obtain ⟨x, _, rfl⟩ := List.mem_map.1 hv
      rfl)
    refine ⟨_, _, Z.take m ++ List.replicate (8 - m) 0, hrun, ?_, by simp; omega, ?_, ?_⟩
    · refine Or.inr ⟨W.heap.size, 8, by congr 1; simp; omega, Nat.le_refl _, Nat.lt_of_lt_of_le hlt (setCells_size W1 _ _ _), by simp; omega, by decide, fun t ht => ?_, fun t ht => World.isSome_setCells _ _ _ W1 _ (by rw [hcell t ht]; rfl), fun t _ => by rw [World.frozen?_setCells]; exact hfz t⟩
      have ht8 : t < 8 := by simp at ht; omega
      by_cases htm : t < m
      · have h1 := World.cell?_setCells_in W.heap.size ((Z.take m).map (Value.int .u8)) 0 W1 (fun j hj => by rw [hcl] at hj; rw [Nat.zero_add, hcell j (by omega)]; rfl) t (by rw [hcl]; exact htm)
        rw [Nat.zero_add] at h1
        rw [h1]
        simp [List.getD, List.getElem?_append_left (show t < (Z.take m).length by simp; omega), htm, List.getElem?_eq_getElem (show t < Z.length by omega)]
      · rw [World.cell?_setCells_out W.heap.size _ _ W1 ⟨W.heap.size, t, none⟩ (fun _ _ => Or.inr (by rw [hcl]; simp; omega)), hcell t ht8]
        simp [List.getD, List.getElem?_append_right (show (Z.take m).length ≤ t by simp; omega), List.getElem?_replicate]
        split <;> rfl
    · refine bytes_app (bytes_take (fun x hx => ?_) m) (fun x hx => ?_)
      · exact byte_mem hr.hbyte x hx
      · have := List.eq_of_mem_replicate hx
        omega
    · have hg := setCells_grown W1 W.heap.size 0 ((Z.take m).map (Value.int .u8))
      exact hb1.grown hg (Nat.le_of_lt hlt) (fun k hk => by cases hk; exact Nat.le_refl _)
end Go.Proofs.YtdlaaollamgplagGreatDoor
