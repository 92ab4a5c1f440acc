/-
  ONE SIDE OF A CONNECTION: fail, nothing, Out, inTurn, refuse. No claim by itself.
-/
import Derived.Deep.DeepCutAuto
import Derived.Deep.RegionHeld3
import Derived.Maps.OwnIn
import Derived.Test.YtdlaaollamgplagGreatDoorBA
import Derived.Test.YtdlaaollamgplagGreatDoorDchk4
import Derived.Test.YtdlaaollamgplagGreatDoorSetc
import Derived.Test.YtdlaaollamgplagGreatDoorChain3
namespace Go.Proofs.YtdlaaollamgplagGreatDoor
open Go Go.RowKit
set_option maxRecDepth 100000
theorem evb_new (w : World) : EVB (w.alloc (.cells #[.int .i64 0, .int .i64 0, .int .i64 0, .slice none 0 0, .slice none 0 0, .bool false] 68)) w.heap.size 0 0 0 (.slice none 0 0) (.slice none 0 0) false := heap_alloc_new w _
theorem EVB.set {w : World} {x y i : Nat} {a b d : Int} {fv bv v : Value} {e : Bool} (k : EVB w x a b d fv bv e) (h : x ≠ y) : EVB (w.setCell ⟨y, i, none⟩ v) x a b d fv bv e := (Below.heap_setCell w ⟨y, i, none⟩ v x h).trans k
theorem knothing_any (w : World) : Calls Tryz.prog 135 #[] w fun e w' => e = .returned (evA 0 0 0 (.slice none 0 0) (.slice none 0 0) false) ∧ Below w.heap.size w w' := by
  have HE := vl (evb_new w)
  have HB := vl ((Below.refl _ w).alloc (Nat.le_refl _) (.cells #[.int .i64 0, .int .i64 0, .int .i64 0, .slice none 0 0, .slice none 0 0, .bool false] 68 (0, 0)))
  unfold evA
  go_enter Tryz.func135, Tryz.ntmps135
  go_wp2_with (refine wpList_evstore _ rfl _ _ rfl w.heap.size _ _ _ 0 0 0 _ _ (.slice none 0 0) (.slice none 0 0) _ false rfl rfl HE.out rfl rfl ?_)
  intro w2 hE hg
  have HB2 : Vl (Below w.heap.size w w2) := vl (HB.out.grown hg (by simp) (fun k hk => by cases hk; exact Nat.le_refl _))
  obtain ⟨z0, z1, z2, z3, z4, z5⟩ := hE.cells
  clear hE hg HB HE
  go_wp2_with fail
  refine bodyPost_ret (v := .agg #[.int .i64 0, .int .i64 0, .int .i64 0, .slice none 0 0, .slice none 0 0, .bool false]) (by simp [results, Tryz.results135, go_sem, z0, z1, z2, z3, z4, z5]; try rfl) rfl ?_
  exact ⟨rfl, HB2.out⟩
/-- What is left of a connection that failed. -/
def CnS.failed (c : CnS) (code : Int) : CnS := { c with over := true, bst := 0, bfr := 0, bend := false, bby := .slice none 0 0, said := c.said ++ byeL c.last code }
set_option maxHeartbeats 4000000 in
theorem kfail_any (cb : Nat) (c : CnS) (rv sv : Value) (code : Int) (w : World) (h : CnL w cb c rv sv) (hs : c.said.length ≤ 100000000000) (h0 : 0 ≤ code) (h1 : code ≤ 2147483647) (hbv : ∃ a n k, c.bby = .slice a n k) :
    Calls Tryz.prog 128 #[.pointer (some ⟨cb, 0, none⟩), .int .i64 code] w fun e w' => e = .returned (evA 4 0 code (.slice none 0 0) (.slice none 0 0) false) ∧ CnT w cb rv sv (c.failed code) w' := by
  obtain ⟨ba, bn, bk, hbv⟩ := hbv
  obtain ⟨W1, hW1⟩ : ∃ x, w.alloc (.cells #[.int .i64 0, .int .i64 0, .int .i64 0, .slice none 0 0, .slice none 0 0, .bool false] 68) = x := ⟨_, rfl⟩
  have hb1 : Below w.heap.size w W1 := by rw [← hW1]; exact (Below.refl _ w).alloc (Nat.le_refl _) _
  have HE1 : Vl (EVB W1 w.heap.size 0 0 0 (.slice none 0 0) (.slice none 0 0) false) := vl (by rw [← hW1]; exact evb_new w)
  have hC1 := h.below hb1
  have c3 : W1.cell? ⟨cb, 3, none⟩ = some (.bool c.over) := hC1.cell 3
  have c4 : W1.cell? ⟨cb, 4, none⟩ = some (.int .i64 c.bst) := hC1.cell 4
  have c5 : W1.cell? ⟨cb, 5, none⟩ = some (.int .i64 c.bfr) := hC1.cell 5
  have c6 : W1.cell? ⟨cb, 6, none⟩ = some (.bool c.bend) := hC1.cell 6
  have c7 : W1.cell? ⟨cb, 7, none⟩ = some (.slice ba bn bk) := (hC1.cell 7).trans (congrArg some hbv)
  have f3 := hC1.frozen 3
  have f4 := hC1.frozen 4
  have f5 := hC1.frozen 5
  have f6 := hC1.frozen 6
  have f7 := hC1.frozen 7
  obtain ⟨W2, hW2⟩ : ∃ x, x = ((((W1.setCell ⟨cb, 3, none⟩ (.bool true)).setCell ⟨cb, 4, none⟩ (.int .i64 0)).setCell ⟨cb, 5, none⟩ (.int .i64 0)).setCell ⟨cb, 6, none⟩ (.bool false)).setCell ⟨cb, 7, none⟩ (.slice none 0 0) := ⟨_, rfl⟩
  have hne : w.heap.size ≠ cb := Nat.ne_of_gt h.lt
  have HC2 : Vl (CnL W2 cb { c with over := true, bst := 0, bfr := 0, bend := false, bby := .slice none 0 0 } rv sv) := vl (by
    rw [hW2]
    exact ((((hC1.put (c' := { c with over := true }) 3 (.bool true) rfl rfl rfl rfl rfl).put (c' := { c with over := true, bst := 0 }) 4 (.int .i64 0) rfl rfl rfl rfl rfl).put (c' := { c with over := true, bst := 0, bfr := 0 }) 5 (.int .i64 0) rfl rfl rfl rfl rfl).put (c' := { c with over := true, bst := 0, bfr := 0, bend := false }) 6 (.bool false) rfl rfl rfl rfl rfl).put (c' := { c with over := true, bst := 0, bfr := 0, bend := false, bby := .slice none 0 0 }) 7 (.slice none 0 0) rfl rfl rfl rfl rfl)
  have HE2 : Vl (EVB W2 w.heap.size 0 0 0 (.slice none 0 0) (.slice none 0 0) false) := vl (by
    rw [hW2]
    exact ((((HE1.out.set hne).set hne).set hne).set hne).set hne)
  have HT2 : Vl (Tn (CnF cb rv sv) w W2) := vl (by
    rw [hW2]
    have hset : ∀ (X : World) (i : Nat) (v : Value), Tn (CnF cb rv sv) w X → Tn (CnF cb rv sv) w (X.setCell ⟨cb, i, none⟩ v) := fun X i v hX => hX.trans2 (tn_set (S := CnF cb rv sv) (a := ⟨cb, i, none⟩) (Or.inl rfl)) (fun k hk => Or.inl hk)
    exact hset _ _ _ (hset _ _ _ (hset _ _ _ (hset _ _ _ (hset _ _ _ (Tn.of_below hb1))))))
  have HBY := vl (ksaybye_any cb { c with over := true, bst := 0, bfr := 0, bend := false, bby := .slice none 0 0 } rv sv code W2 HC2.out hs h0 h1)
  have HFL := vl h.flt
  have KSB : Vl (c.sb < w.heap.size) := vl h.slt
  have hszW : w.heap.size < W2.heap.size := HE2.out.lt
  unfold evA
  clear h hC1 hb1 HE1 hbv
  go_enter Tryz.func128, Tryz.ntmps128
  go_upto_region 3 with fail
  rw [← hW2]
  clear hW2 hW1 c3 c4 c5 c6 c7 f3 f4 f5 f6 f7
  go_wp2_with fail
  refine HBY.out.mono ?_
  rintro e w3 ⟨⟨v3, rfl⟩, rv', sv', hC3, hT3, hF3⟩
  have HE3 : Vl (EVB w3 w.heap.size 0 0 0 (.slice none 0 0) (.slice none 0 0) false) := vl (HE2.out.tn hT3 (fun hk => by have := HFL.out _ hk; omega))
  have HT3 := vl (HT2.out.trans2 hT3 (fun k hk => Or.inl hk))
  have HC3 := vl hC3
  have HF3 : Vl (∀ k, CnF cb rv' sv' k → CnF cb rv sv k ∨ w.heap.size < k) := vl (fun k hk => (hF3 k hk).imp id (fun x => by omega))
  clear hC3 hT3 hF3 HBY HE2 HT2 HC2
  go_wp2_with (refine wpList_evstore _ rfl _ _ rfl w.heap.size _ _ _ 4 0 code _ _ (.slice none 0 0) (.slice none 0 0) _ false rfl rfl HE3.out rfl rfl ?_)
  intro w4 hE hg
  have hnF : ¬ CnF cb rv' sv' w.heap.size := fun hk => (HF3.out _ hk).elim (fun x => by have := HFL.out _ x; omega) (fun x => by omega)
  have HC4 := vl (HC3.out.tn (tn_grown (S := fun k => k = w.heap.size) hg (fun k hk => (Option.some.inj hk).symm)) (fun k hk e => hnF (e ▸ hk)) (Nat.ne_of_lt KSB.out))
  obtain ⟨z0, z1, z2, z3, z4, z5⟩ := hE.cells
  have HFIN : Vl (CnT w cb rv sv (c.failed code) w4) := vl ⟨rv', sv', HC4.out, HT3.out.trans2 (tn_grown (S := fun k => k = w.heap.size) hg (fun k hk => (Option.some.inj hk).symm)) (fun k hk => Or.inr (by omega)), fun k hk => (HF3.out k hk).imp id (fun x => by omega)⟩
  clear hE hg HE3 HC3 HT3 HC4
  go_wp2_with fail
  refine bodyPost_ret (v := .agg #[.int .i64 4, .int .i64 0, .int .i64 code, .slice none 0 0, .slice none 0 0, .bool false]) (by simp [results, Tryz.results128, go_sem, z0, z1, z2, z3, z4, z5]; try rfl) rfl ?_
  exact ⟨rfl, HFIN.out⟩
end Go.Proofs.YtdlaaollamgplagGreatDoor
/-
  ONE SIDE OF A CONNECTION: Out, inTurn, refuse. No claim by itself.
-/
namespace Go.Proofs.YtdlaaollamgplagGreatDoor
open Go Go.RowKit
set_option maxRecDepth 100000
theorem kout_any (cb : Nat) (c : CnS) (rv sv : Value) (w : World) (h : CnL w cb c rv sv) :
    Calls Tryz.prog 24 #[.pointer (some ⟨cb, 0, none⟩)] w fun e w' => e = .returned sv ∧ CnL w' cb { c with said := [] } rv (.slice none 0 0) ∧ Tn (fun k => k = cb) w w' ∧ UOwn w' 0 sv c.said := by
  obtain ⟨sa, sc, rfl, _⟩ := h.said.slice
  have c1 : w.cell? ⟨cb, 1, none⟩ = some (.slice sa c.said.length sc) := h.cell 1
  have f1 := h.frozen 1
  have ho : ∀ k, k ≠ cb → (w.setCell ⟨cb, 1, none⟩ (.slice none 0 0)).heap[k]? = w.heap[k]? := fun k hk => Below.heap_setCell w ⟨cb, 1, none⟩ _ k hk
  have hs : w.heap.size ≤ (w.setCell ⟨cb, 1, none⟩ (.slice none 0 0)).heap.size := by simp
  have HC : Vl (CnL (w.setCell ⟨cb, 1, none⟩ (.slice none 0 0)) cb { c with said := [] } rv (.slice none 0 0)) := vl ⟨heap_setCell_same w cb 1 _ _ _ h.row, h.rest.block hs fun k e => ho k (h.nr k e).1, Or.inl ⟨rfl, rfl⟩, h.nr, (fun k e => by cases e), (fun k _ e => by cases e), h.br, (fun x hx => by cases hx), h.sne, (World.cell?_of_block (a := ⟨c.sb, 1, none⟩) (ho _ h.sne)).trans h.scell, h.hl⟩
  have HT : Vl (Tn (fun k => k = cb) w (w.setCell ⟨cb, 1, none⟩ (.slice none 0 0))) := vl (tn_set (S := fun k => k = cb) (a := ⟨cb, 1, none⟩) rfl)
  have HU : Vl (UOwn (w.setCell ⟨cb, 1, none⟩ (.slice none 0 0)) 0 (.slice sa c.said.length sc) c.said) := vl (h.said.block hs fun k e => ho k (h.ns k e).1)
  clear h ho hs
  go_enter Tryz.func24, Tryz.ntmps24
  go_wp2
  go_ret
  exact ⟨rfl, HC.out, HT.out, HU.out⟩
/-- The cells of a frame that is boxed. -/
def FRB (w : World) (x : Nat) (k fl st : Int) (bv : Value) : Prop := w.heap[x]? = some (.cells #[.int .i64 k, .int .i64 fl, .int .i64 st, bv] 60 (0, 0))
section
variable {w w' : World} {x : Nat} {k fl st : Int} {bv : Value}
theorem FRB.lt (h : FRB w x k fl st bv) : x < w.heap.size := (Array.getElem?_eq_some_iff.1 h).1
theorem FRB.cells (h : FRB w x k fl st bv) : w.cell? ⟨x, 0, none⟩ = some (.int .i64 k) ∧ w.cell? ⟨x, 1, none⟩ = some (.int .i64 fl) ∧ w.cell? ⟨x, 2, none⟩ = some (.int .i64 st) ∧ w.cell? ⟨x, 3, none⟩ = some bv := by
  unfold FRB at h
  simp only [World.cell?, h]
  exact ⟨rfl, rfl, rfl, rfl⟩
theorem FRB.on (h : FRB w x k fl st bv) (hb : Below w.heap.size w w') : FRB w' x k fl st bv := (hb.block x h.lt).trans h
theorem FRB.tn {S : Nat → Prop} (h : FRB w x k fl st bv) (ht : Tn S w w') (hn : ¬ S x) : FRB w' x k fl st bv := (ht.block x h.lt hn).trans h
end
theorem frb_new (w : World) (k fl st : Int) (bv : Value) : FRB (w.alloc (.cells #[.int .i64 k, .int .i64 fl, .int .i64 st, bv] 60)) w.heap.size k fl st bv := heap_alloc_new w _
theorem kinturn_any (cb : Nat) (c : CnS) (rv sv : Value) (k fl st : Int) (a : Option Addr) (len cap : Nat) (w : World) (h : CnL w cb c rv sv) (hb0 : c.bfr = 0) :
    Calls Tryz.prog 186 #[.pointer (some ⟨cb, 0, none⟩), .agg #[.int .i64 k, .int .i64 fl, .int .i64 st, .slice a len cap]] w fun e w' => e = .returned (.bool (k != 2)) ∧ Below w.heap.size w w' := by
  obtain ⟨W1, hW1⟩ : ∃ x, w.alloc (.cells #[.int .i64 k, .int .i64 fl, .int .i64 st, .slice a len cap] 60) = x := ⟨_, rfl⟩
  have hb1 : Below w.heap.size w W1 := by rw [← hW1]; exact (Below.refl _ w).alloc (Nat.le_refl _) _
  have hF : FRB W1 w.heap.size k fl st (.slice a len cap) := by rw [← hW1]; exact frb_new w k fl st _
  obtain ⟨b0, b1, b2, b3⟩ := hF.cells
  have c5 : W1.cell? ⟨cb, 5, none⟩ = some (.int .i64 0) := ((h.below hb1).cell 5).trans (by show some (Value.int .i64 c.bfr) = _; rw [hb0])
  have HB1 := vl hb1
  clear h hF hb1 hb0
  go_enter Tryz.func186, Tryz.ntmps186
  go_wp2
  go_ret
  exact ⟨rfl, HB1.out⟩
/-- What is wrong with a frame whatever it says, where no head is under way. -/
def refF (begun : Bool) (k fl st : Int) (Z : List Int) (er : Int) : Int :=
  if er = 4 then 6 else if er ≠ 0 ∨ (begun = false ∧ k ≠ 4) then 1 else if chkF k st (bits .and .i64 fl 1 == 1) Z ≠ 0 then chkF k st (bits .and .i64 fl 1 == 1) Z else if k = 2 then 1 else 0
/-- Bytes that are none of the connection's own. -/
def KArg (w : World) (cb : Nat) (rv sv : Value) (a : Option Addr) (len cap : Nat) (Z : List Int) : Prop := Arg w a len cap Z ∧ ∀ g off, a = some ⟨g, off, none⟩ → ¬ CnF cb rv sv g
theorem arg_tn {S : Nat → Prop} {w w' : World} {a : Option Addr} {len cap : Nat} {Z : List Int} (hA : Arg w a len cap Z) (ht : Tn S w w') (hn : ∀ g off, a = some ⟨g, off, none⟩ → ¬ S g) : Arg w' a len cap Z := by
  rcases hA with h | ⟨g, off, rfl, hr⟩
  · exact Or.inl h
  · exact Or.inr ⟨g, off, rfl, hr.hlen, hr.hcap, hr.hmax, fun t hlt => ht.cell (hr.hcell t hlt) (hn g off rfl), hr.hbyte⟩
theorem KArg.below {w w' : World} {cb : Nat} {rv sv : Value} {a : Option Addr} {len cap : Nat} {Z : List Int} (h : KArg w cb rv sv a len cap Z) (hb : Below w.heap.size w w') : KArg w' cb rv sv a len cap Z := ⟨h.1.below hb, h.2⟩
theorem KArg.tn {w w' : World} {cb : Nat} {rv sv : Value} {a : Option Addr} {len cap : Nat} {Z : List Int} (h : KArg w cb rv sv a len cap Z) (ht : Tn (CnF cb rv sv) w w') : Arg w' a len cap Z := arg_tn h.1 ht h.2
/-- Where the connection's blocks have moved, they lie where nothing was. -/
theorem KArg.move {w w' : World} {cb : Nat} {rv sv rv' sv' : Value} {a : Option Addr} {len cap : Nat} {Z : List Int} (h : KArg w cb rv sv a len cap Z) (ht : Tn (CnF cb rv sv) w w') (hf : ∀ k, CnF cb rv' sv' k → CnF cb rv sv k ∨ w.heap.size ≤ k) (hp : 0 < len) : KArg w' cb rv' sv' a len cap Z :=
  ⟨h.tn ht, fun g off e hk => by
    rcases hf g hk with h1 | h1
    · exact h.2 g off e h1
    · rcases h.1 with ⟨h0, _⟩ | ⟨g', off', e', hr⟩
      · omega
      · rw [e] at e'
        cases e'
        have := blk_of_cell (hr.hcell 0 hp)
        omega⟩
set_option maxHeartbeats 8000000 in
theorem krefuse_any (cb : Nat) (c : CnS) (rv sv : Value) (k fl st : Int) (a : Option Addr) (len cap : Nat) (Z : List Int) (er : Int) (w : World) (h : CnL w cb c rv sv) (hA : KArg w cb rv sv a len cap Z) (hlen : len ≤ 4611686018427387904) (hb0 : c.bfr = 0) :
    Calls Tryz.prog 127 #[.pointer (some ⟨cb, 0, none⟩), .agg #[.int .i64 k, .int .i64 fl, .int .i64 st, .slice a len cap], errW er] w fun e w' => e = .returned (.int .i64 (refF c.begun k fl st Z er)) ∧ CnL w' cb { c with begun := true } rv sv ∧ Tn (CnF cb rv sv) w w' := by
  obtain ⟨W1, hW1⟩ : ∃ x, w.alloc (.cells #[.int .i64 k, .int .i64 fl, .int .i64 st, .slice a len cap] 60) = x := ⟨_, rfl⟩
  have hb1 : Below w.heap.size w W1 := by rw [← hW1]; exact (Below.refl _ w).alloc (Nat.le_refl _) _
  have hF1 : FRB W1 w.heap.size k fl st (.slice a len cap) := by rw [← hW1]; exact frb_new w k fl st _
  have hC1 := h.below hb1
  have c2 : W1.cell? ⟨cb, 2, none⟩ = some (.bool c.begun) := hC1.cell 2
  have f2 := hC1.frozen 2
  obtain ⟨W2, hW2⟩ : ∃ x, x = W1.setCell ⟨cb, 2, none⟩ (.bool true) := ⟨_, rfl⟩
  have hne : w.heap.size ≠ cb := Nat.ne_of_gt h.lt
  have HC2 : Vl (CnL W2 cb { c with begun := true } rv sv) := vl (by rw [hW2]; exact hC1.put (c' := { c with begun := true }) 2 (.bool true) rfl rfl rfl rfl rfl)
  have HF2 : Vl (FRB W2 w.heap.size k fl st (.slice a len cap)) := vl (by rw [hW2]; exact (Below.heap_setCell W1 ⟨cb, 2, none⟩ _ _ hne).trans hF1)
  have HT2 : Vl (Tn (CnF cb rv sv) w W2) := vl (by rw [hW2]; exact (Tn.of_below hb1).trans2 (tn_set (S := CnF cb rv sv) (a := ⟨cb, 2, none⟩) (Or.inl rfl)) (fun k hk => Or.inl hk))
  have HA2 := vl (hA.tn HT2.out)
  have HIS := vl (nis_any er 4 (by decide) W2)
  have HCK := vl (check_any k fl st a len cap Z W2 HA2.out HA2.out.len hlen)
  have HIN := vl (fun W (hW : Below W2.heap.size W2 W) => kinturn_any cb { c with begun := true } rv sv k fl st a len cap W (HC2.out.below hW) hb0)
  obtain ⟨b0, b1, b2, b3⟩ := HF2.out.cells
  have HFB := HF2
  have HEW : Vl ((er = 0 → errW er = .nilIface) ∧ (er ≠ 0 → errW er = .iface 88 (.int .i64 er))) := vl ⟨fun e => if_pos e, fun e => if_neg e⟩
  obtain ⟨RF, hRF⟩ : ∃ x, refF c.begun k fl st Z er = x := ⟨_, rfl⟩
  have HRF : Vl (refF c.begun k fl st Z er = RF) := vl hRF
  rw [hRF]
  clear h hC1 hb1 hF1 hA hRF
  by_cases e4 : er = 4
  · subst e4
    have hv : RF = 6 := by rw [← HRF.out]; unfold refF; rw [if_pos rfl]
    subst hv
    rw [HEW.out.2 (by decide)]
    rw [HEW.out.2 (by decide)] at HIS
    clear b0 b1 b2 b3
    go_enter Tryz.func127, Tryz.ntmps127
    go_upto_region 3 with fail
    rw [← hW2]
    clear hW2 hW1 c2 f2
    go_wp2_with fail
    refine HIS.out.mono ?_
    rintro e w' ⟨rfl, rfl⟩
    go_wp2
    go_ret
    exact ⟨rfl, HC2.out, HT2.out⟩
  · have hd4 : decide (er = 4) = false := decide_eq_false e4
    rw [hd4] at HIS
    by_cases e0 : er = 0
    case neg =>
      have hv : RF = 1 := by rw [← HRF.out]; unfold refF; rw [if_neg e4, if_pos (Or.inl e0)]
      subst hv
      rw [HEW.out.2 e0]
      rw [HEW.out.2 e0] at HIS
      clear b0 b1 b2 b3
      go_enter Tryz.func127, Tryz.ntmps127
      go_upto_region 3 with fail
      rw [← hW2]
      clear hW2 hW1 c2 f2
      go_wp2_with fail
      refine HIS.out.mono ?_
      rintro e w' ⟨rfl, rfl⟩
      go_wp2
      go_ret
      exact ⟨rfl, HC2.out, HT2.out⟩
    case pos =>
    subst e0
    rw [HEW.out.1 rfl]
    rw [HEW.out.1 rfl] at HIS
    by_cases e1 : c.begun = false ∧ k ≠ 4
    · have hv : RF = 1 := by rw [← HRF.out]; unfold refF; rw [if_neg e4, if_pos (Or.inr e1)]
      subst hv
      obtain ⟨g1, g2⟩ := e1
      rw [g1] at c2
      have g3 : (k != 4) = true := by simpa using g2
      go_enter Tryz.func127, Tryz.ntmps127
      go_upto_region 3 with fail
      rw [← hW2]
      clear hW2 hW1 c2 f2
      go_wp2_with fail
      refine HIS.out.mono ?_
      rintro e w' ⟨rfl, rfl⟩
      go_wp2
      go_ret
      exact ⟨rfl, HC2.out, HT2.out⟩
    · have hv : RF = if chkF k st (bits .and .i64 fl 1 == 1) Z ≠ 0 then chkF k st (bits .and .i64 fl 1 == 1) Z else if k = 2 then 1 else 0 := by rw [← HRF.out]; unfold refF; rw [if_neg e4, if_neg (fun x => x.elim (fun y => y rfl) e1)]
      obtain ⟨ck, hck⟩ : ∃ x, chkF k st (bits .and .i64 fl 1 == 1) Z = x := ⟨_, rfl⟩
      rw [hck] at hv HCK
      have HV := vl hv
      clear hv hck
      have key : ∀ bg : Bool, c.begun = bg → (bg = true ∨ (bg = false ∧ k = 4)) → Calls Tryz.prog 127 #[.pointer (some ⟨cb, 0, none⟩), .agg #[.int .i64 k, .int .i64 fl, .int .i64 st, .slice a len cap], .nilIface] w fun e w' => e = .returned (.int .i64 RF) ∧ CnL w' cb { c with begun := true } rv sv ∧ Tn (CnF cb rv sv) w w' := by
        intro bg hbg hor
        rw [hbg] at c2
        clear hbg e1
        rcases hor with rfl | ⟨rfl, rfl⟩
        · go_enter Tryz.func127, Tryz.ntmps127
          go_upto_region 3 with fail
          rw [← hW2]
          clear hW2 hW1 c2 f2
          go_wp2_with fail
          refine HIS.out.mono ?_
          rintro e w' ⟨rfl, rfl⟩
          go_wp2_with fail
          refine HCK.out.mono ?_
          rintro e w3 ⟨rfl, hb3⟩
          have HB3 := vl hb3
          obtain ⟨d0, d1, d2, d3⟩ := (HFB.out.on hb3).cells
          have HC3 := vl (HC2.out.below hb3)
          have HT3 := vl (HT2.out.trans2 (Tn.of_below (S := CnF cb rv sv) hb3) (fun _ x => Or.inl x))
          have HIN3 := vl (HIN.out w3 hb3)
          clear hb3 HIN HCK
          by_cases h0 : ck = 0
          · subst h0
            rw [if_neg (fun x => x rfl)] at HV
            go_wp2_with fail
            refine HIN3.out.mono ?_
            rintro e w4 ⟨rfl, hb4⟩
            have HC4 := vl (HC3.out.below hb4)
            have HT4 := vl (HT3.out.trans2 (Tn.of_below (S := CnF cb rv sv) hb4) (fun _ x => Or.inl x))
            clear hb4
            by_cases h2 : k = 2
            · subst h2
              rw [if_pos rfl] at HV
              obtain rfl := HV.out
              go_wp2
              go_ret
              exact ⟨rfl, HC4.out, HT4.out⟩
            · rw [if_neg h2] at HV
              obtain rfl := HV.out
              have h2' : (k != 2) = true := by simpa using h2
              rw [h2']
              go_wp2
              go_ret
              exact ⟨rfl, HC4.out, HT4.out⟩
          · rw [if_pos h0] at HV
            obtain rfl := HV.out
            have h0' : (RF != 0) = true := by simpa using h0
            go_wp2
            go_ret
            exact ⟨rfl, HC3.out, HT3.out⟩
        · go_enter Tryz.func127, Tryz.ntmps127
          go_upto_region 3 with fail
          rw [← hW2]
          clear hW2 hW1 c2 f2
          go_wp2_with fail
          refine HIS.out.mono ?_
          rintro e w' ⟨rfl, rfl⟩
          go_wp2_with fail
          refine HCK.out.mono ?_
          rintro e w3 ⟨rfl, hb3⟩
          have HB3 := vl hb3
          obtain ⟨d0, d1, d2, d3⟩ := (HFB.out.on hb3).cells
          have HC3 := vl (HC2.out.below hb3)
          have HT3 := vl (HT2.out.trans2 (Tn.of_below (S := CnF cb rv sv) hb3) (fun _ x => Or.inl x))
          have HIN3 := vl (HIN.out w3 hb3)
          clear hb3 HIN HCK
          by_cases h0 : ck = 0
          · subst h0
            rw [if_neg (fun x => x rfl)] at HV
            go_wp2_with fail
            refine HIN3.out.mono ?_
            rintro e w4 ⟨rfl, hb4⟩
            have HC4 := vl (HC3.out.below hb4)
            have HT4 := vl (HT3.out.trans2 (Tn.of_below (S := CnF cb rv sv) hb4) (fun _ x => Or.inl x))
            clear hb4
            rw [if_neg (by decide)] at HV
            obtain rfl := HV.out
            go_wp2
            go_ret
            exact ⟨rfl, HC4.out, HT4.out⟩
          · rw [if_pos h0] at HV
            obtain rfl := HV.out
            have h0' : (RF != 0) = true := by simpa using h0
            go_wp2
            go_ret
            exact ⟨rfl, HC3.out, HT3.out⟩
      exact key c.begun rfl (by
        cases hb : c.begun with
        | true => exact Or.inl rfl
        | false =>
          by_cases hk : k = 4
          · exact Or.inr ⟨rfl, hk⟩
          · exact absurd ⟨hb, hk⟩ e1)
end Go.Proofs.YtdlaaollamgplagGreatDoor
/-
  ONE SIDE OF A CONNECTION: hearPing, sayWaiting where nothing waits. No claim by itself.
-/
namespace Go.Proofs.YtdlaaollamgplagGreatDoor
open Go Go.RowKit
set_option maxRecDepth 100000
set_option maxHeartbeats 4000000 in
theorem khearping_any (cb : Nat) (c : CnS) (rv sv : Value) (k fl st : Int) (a : Option Addr) (len cap : Nat) (Z : List Int) (w : World) (h : CnL w cb c rv sv) (hA : KArg w cb rv sv a len cap Z) (hs : c.said.length ≤ 100000000000) (hfl : bits .and .i64 fl 1 = 0) (hz : len ≤ 1024) :
    Calls Tryz.prog 133 #[.pointer (some ⟨cb, 0, none⟩), .agg #[.int .i64 k, .int .i64 fl, .int .i64 st, .slice a len cap]] w fun e w' => e = .returned (evA 0 0 0 (.slice none 0 0) (.slice none 0 0) false) ∧ CnT w cb rv sv { c with said := c.said ++ frmL (5, 1, 0, Z) } w' := by
  obtain ⟨W1, hW1⟩ : ∃ x, w.alloc (.cells #[.int .i64 k, .int .i64 fl, .int .i64 st, .slice a len cap] 60) = x := ⟨_, rfl⟩
  obtain ⟨W2, hW2⟩ : ∃ x, W1.alloc (.cells #[.int .i64 0, .int .i64 0, .int .i64 0, .slice none 0 0, .slice none 0 0, .bool false] 68) = x := ⟨_, rfl⟩
  have hb1 : Below w.heap.size w W1 := by rw [← hW1]; exact (Below.refl _ w).alloc (Nat.le_refl _) _
  have hs1 : W1.heap.size = w.heap.size + 1 := by rw [← hW1]; simp
  have hb2 : Below W1.heap.size W1 W2 := by rw [← hW2]; exact (Below.refl _ W1).alloc (Nat.le_refl _) _
  have hF2 : FRB W2 w.heap.size k fl st (.slice a len cap) := (show FRB W1 w.heap.size k fl st (.slice a len cap) by rw [← hW1]; exact frb_new w k fl st _).on hb2
  have HE2 : Vl (EVB W2 W1.heap.size 0 0 0 (.slice none 0 0) (.slice none 0 0) false) := vl (by rw [← hW2]; exact evb_new W1)
  have HB2 : Vl (Below w.heap.size w W2) := vl (hb1.trans (hb2.mono (by omega)))
  obtain ⟨b0, b1, b2, b3⟩ := hF2.cells
  have HEN := vl (kends_any k fl st (.slice a len cap) rfl W2)
  rw [hfl] at HEN
  have HFX := vl hF2
  have HC := vl h
  have HA := vl hA
  have HN : Vl (W1.heap.size = w.heap.size + 1) := vl hs1
  clear h hA hb1 hb2 hF2 hs1
  unfold evA
  go_enter Tryz.func133, Tryz.ntmps133
  go_wp2_with fail
  clear hW1 hW2
  refine HEN.out.mono ?_
  rintro e w3 ⟨rfl, hb3⟩
  have HB3 := vl (HB2.out.trans (hb3.mono HB2.out.size))
  obtain ⟨d0, d1, d2, d3⟩ := (HFX.out.on hb3).cells
  have HE3 := vl (HE2.out.on hb3)
  have HC3 := vl (HC.out.below HB3.out)
  have HA3 := vl ((HA.out.below HB3.out).1)
  have HSA := vl (ksay_any cb c rv sv 5 1 0 a len cap Z w3 HC3.out HA3.out hs (by have h9 := HA3.out.len; unfold frmE; rw [if_neg (by simp), if_neg (by show ¬ 1024 < Z.length; omega)]))
  clear hb3 HEN b0 b1 b2 b3 HE2
  go_wp2_with fail
  refine HSA.out.mono ?_
  rintro e w4 ⟨⟨v4, rfl⟩, rv', sv', hC4, hT4, hF4⟩
  have hx4 : W1.heap.size < w3.heap.size := HE3.out.lt
  have HNC : Vl (∀ j, CnF cb rv sv j → j < w.heap.size) := vl HC.out.flt
  have HSB : Vl (c.sb < w.heap.size) := vl HC.out.slt
  have HE4 : Vl (EVB w4 W1.heap.size 0 0 0 (.slice none 0 0) (.slice none 0 0) false) := vl (HE3.out.tn hT4 (fun x => by have := HNC.out _ x; have := HN.out; omega))
  have HC4 := vl hC4
  have HT4 : Vl (Tn (CnF cb rv sv) w w4) := vl ((Tn.of_below HB3.out).trans2 hT4 (fun _ x => Or.inl x))
  have HF4 : Vl (∀ j, CnF cb rv' sv' j → CnF cb rv sv j ∨ W1.heap.size < j) := vl (fun j hj => (hF4 j hj).imp id (fun x => by omega))
  have HNO := vl (knothing_any w4)
  unfold evA at HNO
  clear hC4 hT4 hF4 HSA d0 d1 d2 d3 HE3
  go_wp2_with fail
  refine HNO.out.mono ?_
  rintro e w5 ⟨rfl, hb5⟩
  have HE5 := vl (HE4.out.on hb5)
  have HC5 := vl (HC4.out.below hb5)
  have HT5 := vl (HT4.out.trans2 (Tn.of_below (S := CnF cb rv sv) hb5) (fun _ x => Or.inl x))
  clear hb5 HNO HE4 HC4 HT4
  go_wp2_with (refine wpList_evstore _ rfl _ _ rfl W1.heap.size _ _ _ 0 0 0 _ _ (.slice none 0 0) (.slice none 0 0) _ false rfl rfl HE5.out rfl rfl ?_)
  intro w6 hE hg
  have hnF : ¬ CnF cb rv' sv' W1.heap.size := fun x => (HF4.out _ x).elim (fun y => by have := HNC.out _ y; have := HN.out; omega) (fun y => by omega)
  have HC6 := vl (HC5.out.tn (tn_grown (S := fun j => j = W1.heap.size) hg (fun j hj => (Option.some.inj hj).symm)) (fun j hj e => hnF (e ▸ hj)) (Nat.ne_of_lt (by have := HSB.out; have := HN.out; show c.sb < _; omega)))
  obtain ⟨z0, z1, z2, z3, z4, z5⟩ := hE.cells
  have HFIN : Vl (CnT w cb rv sv { c with said := c.said ++ frmL (5, 1, 0, Z) } w6) := vl ⟨rv', sv', HC6.out, HT5.out.trans2 (tn_grown (S := fun j => j = W1.heap.size) hg (fun j hj => (Option.some.inj hj).symm)) (fun j hj => Or.inr (by have := HN.out; omega)), fun j hj => (HF4.out j hj).imp id (fun x => by have := HN.out; omega)⟩
  clear hE hg HE5 HC5 HT5 HC6
  go_wp2_with fail
  refine bodyPost_ret (v := .agg #[.int .i64 0, .int .i64 0, .int .i64 0, .slice none 0 0, .slice none 0 0, .bool false]) (by simp [results, Tryz.results133, go_sem, z0, z1, z2, z3, z4, z5]; try rfl) rfl ?_
  exact ⟨rfl, HFIN.out⟩
theorem kclone_nil (w : World) : Calls Tryz.prog 237 #[.slice none 0 0] w fun e w' => e = .returned (.slice none 0 0) ∧ w = w' := by
  have q : ∀ (w : World) (a : Option Addr) (n c n' c' : Nat), (binOp .eql 78 (.slice a n c) (.slice none n' c')).run Tryz.prog w = .ok (.bool a.isNone) w := fun w a n c n' c' => Lib.run_eql_slice_nil w _ _ a n c n' c' Tryz.underlying78
  go_enter Tryz.func237, Tryz.ntmps237
  go_wp2
  go_ret
  exact ⟨rfl, rfl⟩
theorem kwaiting_nil (cb : Nat) (c : CnS) (rv sv : Value) (w : World) (h : CnL w cb c rv sv) (hq : c.queue = .slice none 0 0) : Calls Tryz.prog 196 #[.pointer (some ⟨cb, 0, none⟩)] w fun e w' => (∃ v, e = .returned v) ∧ w = w' := by
  have c14 : w.cell? ⟨cb, 14, none⟩ = some (.slice none 0 0) := (h.cell 14).trans (congrArg some hq)
  have HK := vl (kclone_nil w)
  clear h hq
  go_enter Tryz.func196, Tryz.ntmps196
  go_wp2_with fail
  refine HK.out.mono ?_
  rintro e w' ⟨rfl, rfl⟩
  go_wp2_with fail
  refine wp_loop_rounds 1 ?_
  rw [rounds_succ]
  go_wp2
  go_end0
  exact ⟨⟨_, rfl⟩, rfl⟩
end Go.Proofs.YtdlaaollamgplagGreatDoor
/-
  ONE SIDE OF A CONNECTION: hearSet, of a Set that has no setting, where nothing waits. No claim by itself.
-/
namespace Go.Proofs.YtdlaaollamgplagGreatDoor
open Go Go.RowKit Go.Shelf
set_option maxRecDepth 100000
attribute [local go_sem] Oper.semAt_some
section
variable {F : Fence} {nF : Nat} (w : World) {ops : Array Oper} {rest : List Oper} {o : Oper} {a : Act} {Q : Exit → Act → World → Prop}
theorem wpListIn_evstore (hgd : o.guard = none) (s x : Operand) (ho : o.op = .store 68 s x) (n : Nat) (p q r p' q' r' : Int) (fv bv fv' bv' : Value) (e e' : Bool) (hs : a.eval s = .pointer (some ⟨n, 0, none⟩)) (hx : a.eval x = .agg #[.int .i64 p', .int .i64 q', .int .i64 r', fv', bv', .bool e']) (hB : EVB w n p q r fv bv e) (h1 : fv'.oneCell' = true) (h2 : bv'.oneCell' = true)
    (h0 : ∀ w', EVB w' n p' q' r' fv' bv' e' → w.grownBy w' (some n) → wpListIn F nF Tryz.prog ops Q rest (a.put o.dst undef) w') : wpListIn F nF Tryz.prog ops Q (o :: rest) a w := by
  refine wpListIn_plain hgd fun K' hK' => ?_
  have hr := run_evstore (a' := p') (b' := q') (d' := r') (e' := e') hB h1 h2
  unfold Oper.wpIn
  refine ⟨by simp [Oper.about, ho], ?_⟩
  rw [Oper.semAt_plain F _ _ (by rw [ho]; intro c hc'; cases hc')]
  simp [execOp, ho, hs, hx, hr, Result.andThen]
  exact hK' _ _ (h0 _ (setRow_heap w n _ _ _ _ hB) (krow_grown w n _))
end
theorem tn_putObj (X : World) (D : Nat) (o : Obj) : Tn (fun k => k = D) X (X.putObj D o) := ⟨rfl, rfl, rfl, Nat.le_of_eq World.putObj_size.symm, fun _ _ hn => World.putObj_heap_other hn⟩
set_option maxHeartbeats 8000000 in
theorem khearset_in (cb : Nat) (c : CnS) (rv sv : Value) (k fl st : Int) (a : Option Addr) (cap : Nat) (w : World) (h : CnL w cb c rv sv) (hs : c.said.length ≤ 100000000000) (hfl : bits .and .i64 fl 1 = 0) (hq : c.queue = .slice none 0 0) :
    CallsIn Fence.wide 9 Tryz.prog 132 #[.pointer (some ⟨cb, 0, none⟩), .agg #[.int .i64 k, .int .i64 fl, .int .i64 st, .slice a 0 cap]] w fun e w' => e = .returned (evA 0 0 0 (.slice none 0 0) (.slice none 0 0) false) ∧ CnT w cb rv sv { c with said := c.said ++ frmL (4, 1, 0, []) } w' := by
  obtain ⟨W1, hW1⟩ : ∃ x, w.alloc (.cells #[.pointer (some ⟨cb, 0, none⟩)] 53) = x := ⟨_, rfl⟩
  obtain ⟨W2, hW2⟩ : ∃ x, W1.alloc (.cells #[.int .i64 k, .int .i64 fl, .int .i64 st, .slice a 0 cap] 60) = x := ⟨_, rfl⟩
  obtain ⟨W3, hW3⟩ : ∃ x, W2.alloc (.cells #[.int .i64 0, .int .i64 0, .int .i64 0, .slice none 0 0, .slice none 0 0, .bool false] 68) = x := ⟨_, rfl⟩
  have hb1 : Below w.heap.size w W1 := by rw [← hW1]; exact (Below.refl _ w).alloc (Nat.le_refl _) _
  have hb2 : Below W1.heap.size W1 W2 := by rw [← hW2]; exact (Below.refl _ W1).alloc (Nat.le_refl _) _
  have hb3 : Below W2.heap.size W2 W3 := by rw [← hW3]; exact (Below.refl _ W2).alloc (Nat.le_refl _) _
  have hs1 : W1.heap.size = w.heap.size + 1 := by rw [← hW1]; simp
  have hs2 : W2.heap.size = w.heap.size + 2 := by rw [← hW2]; simp; omega
  have hF3 : FRB W3 W1.heap.size k fl st (.slice a 0 cap) := (show FRB W2 W1.heap.size k fl st (.slice a 0 cap) by rw [← hW2]; exact frb_new W1 k fl st _).on hb3
  have HE3 : Vl (EVB W3 W2.heap.size 0 0 0 (.slice none 0 0) (.slice none 0 0) false) := vl (by rw [← hW3]; exact evb_new W2)
  have hp1 : W1.heap[w.heap.size]? = some (.cells #[.pointer (some ⟨cb, 0, none⟩)] 53 (0, 0)) := by rw [← hW1]; exact heap_alloc_new w _
  have HP3 : Vl (W3.heap[w.heap.size]? = some (.cells #[.pointer (some ⟨cb, 0, none⟩)] 53 (0, 0))) := vl ((hb3.block _ (by omega)).trans ((hb2.block _ (by omega)).trans hp1))
  have HB3 : Vl (Below w.heap.size w W3) := vl (hb1.trans ((hb2.trans (hb3.mono (by omega))).mono (by omega)))
  obtain ⟨b0, b1, b2, b3⟩ := hF3.cells
  have HEN := vl (kends_any k fl st (.slice a 0 cap) rfl W3)
  rw [hfl] at HEN
  have HFX := vl hF3
  have HC := vl h
  have HN : Vl (W1.heap.size = w.heap.size + 1 ∧ W2.heap.size = w.heap.size + 2) := vl ⟨hs1, hs2⟩
  clear h hb1 hb2 hb3 hF3 hp1 hs1 hs2
  refine callsIn_of_wp_marks Tryz.func132 rfl trivial ?_ rfl
  simp only [Tryz.ntmps132, List.size_toArray, List.length_cons, List.length_nil, Nat.reduceAdd, Nat.reduceSub, Array.replicate_succ, Array.replicate_zero, List.push_toArray, List.append_toArray, List.nil_append, List.cons_append]
  gi_wp2_with (first
    | (refine ⟨trivial, ?_⟩; gi_at_call 189; refine (callsIn_wide.2 HEN.out).mono ?_; rintro e w4 ⟨rfl, hb4⟩; obtain ⟨d0, d1, d2, d3⟩ := (HFX.out.on hb4).cells)
    | (refine ⟨trivial, ?_⟩; gi_at_call 136; refine (callsIn_wide.2 (settings_call _ _ _ _)).mono ?_; rintro e w' ⟨rfl, rfl⟩))
  have HE4 := vl (HE3.out.on hb4)
  have HP4 := vl ((hb4.block w.heap.size (by have := HB3.out.size; have := HE3.out.lt; have := HN.out; omega)).trans HP3.out)
  have HB4 := vl (HB3.out.trans (hb4.mono HB3.out.size))
  have hx4 : W2.heap.size < w4.heap.size := HE4.out.lt
  obtain ⟨W5, hW5⟩ : ∃ x, w4.alloc (.cells #[.slice a 0 cap] 23) = x := ⟨_, rfl⟩
  have hb5 : Below w4.heap.size w4 W5 := by rw [← hW5]; exact (Below.refl _ w4).alloc (Nat.le_refl _) _
  have bB : Boxed W5 w4.heap.size 23 (.slice a 0 cap) := by rw [← hW5]; exact Boxed.new w4 23 _
  have HE5 := vl (HE4.out.on hb5)
  have HP5 := vl ((hb5.block w.heap.size (by have := HN.out; omega)).trans HP4.out)
  have HB5 := vl (HB4.out.trans (hb5.mono HB4.out.size))
  have hs5 : W5.heap.size = w4.heap.size + 1 := by rw [← hW5]; simp
  rw [hW5]
  clear hW5 hW1 hW2 hW3 hb4 hb5 d0 d1 d2 d3 b0 b1 b2 b3 HE3 HE4 HP3 HP4 HEN
  refine wpIn_range_chain3 (N := (0 + 6 - 1) / 6) (m := 3) (n₀ := W5.heap.size) (w0 := W5) rfl (by decide) (gf := 197) (lb := #[.pointer (some ⟨w4.heap.size, 0, none⟩)]) rfl trivial (enters_of Tryz.func197 (by kernel_rfl) rfl)
    (encs := sEnc [] 0) (S := sAll 0) (Sp := sSome 0)
    (settings_own a 0 0 0 cap W5.heap.size w4.heap.size [] W5 (by decide) (by decide) (Or.inl rfl) (Or.inl rfl) bB (Nat.le_refl _))
    (Nat.le_refl _) (Below.refl _ _) (fun _ => rfl)
    (fun _ X => Below W5.heap.size W5 X) (fun _ _ _ => False)
    (fun s X Y row hX hgr hr => (ownFrom_below (β := Unit) (Nat.le_refl _) (Nat.le_refl _)) () X Y row hX hgr hr) (fun _ s X Y row hX _ _ => hX) (Below.refl _ _)
    (fun _ _ _ => True) (fun _ _ _ _ _ _ _ _ _ => trivial) (fun l pre x => absurd x.2 (by omega)) (fun l pre x => absurd x.2 (by omega)) ?done (fun D c pre X hD hSp hF => hF.elim)
  case done =>
    rintro D xs X hD _ hBX hX
    have HCX := vl (HC.out.below (HB5.out.trans (hBX.mono HB5.out.size)))
    have HEX := vl (HE5.out.on hBX)
    have HPX := vl ((hBX.block w.heap.size (by have := HN.out; omega)).trans HP5.out)
    have HBX := vl (HB5.out.trans (hBX.mono HB5.out.size))
    have hsX : W5.heap.size ≤ X.heap.size := hBX.size
    have hDX : D < X.heap.size := (Array.getElem?_eq_some_iff.1 hX).1
    have HNC : Vl (∀ j, CnF cb rv sv j → j < w.heap.size) := vl HC.out.flt
    have HDX := vl hX
    have p0 := cell_of_row X w.heap.size 0 _ _ _ HPX.out
    simp only [List.getElem?_toArray, List.getElem?_cons_zero] at p0
    have HSY := vl (ksay_any cb c rv sv 4 1 0 none 0 0 [] X HCX.out (Or.inl ⟨rfl, rfl⟩) hs (by decide))
    have HNN := HN
    clear hX hBX HE5 HP5 HB5
    have hwX : w.heap.size < X.heap.size := by have := HN.out; omega
    have hevX : W2.heap.size < X.heap.size := by omega
    have hevw : w.heap.size ≤ W2.heap.size := by have := HN.out; omega
    gi_wp2_with fail
    refine ⟨trivial, (callsIn_wide.2 HSY.out).mono ?_⟩
    rintro e X2 ⟨⟨v2, rfl⟩, rv', sv', hC2, hT2, hF2⟩
    have p2 := cell_of_row X2 w.heap.size 0 _ _ _ ((hT2.block w.heap.size hwX (fun x => by have := HNC.out _ x; omega)).trans HPX.out)
    simp only [List.getElem?_toArray, List.getElem?_cons_zero] at p2
    have HE2 := vl (HEX.out.tn hT2 (fun x => by have := HNC.out _ x; omega))
    have HD2 : Vl (X2.heap[D]? = some (.deferred (some []))) := vl ((hT2.block D hDX (fun x => by have := HNC.out _ x; have := HN.out; omega)).trans HDX.out)
    have HT2 : Vl (Tn (CnF cb rv sv) w X2) := vl ((Tn.of_below HBX.out).trans2 hT2 (fun _ x => Or.inl x))
    have HC2 := vl hC2
    have HF2 : Vl (∀ j, CnF cb rv' sv' j → CnF cb rv sv j ∨ X.heap.size ≤ j) := vl hF2
    have HWT := vl (kwaiting_nil cb _ rv' sv' X2 hC2 hq)
    have HNO := vl (knothing_any X2)
    unfold evA at HNO
    clear hC2 hT2 hF2 HSY p0 HCX HEX HPX HDX
    gi_wp2_with fail
    refine ⟨trivial, (callsIn_wide.2 HWT.out).mono ?_⟩
    rintro e X' ⟨⟨v3, rfl⟩, rfl⟩
    clear HWT
    gi_wp2_with fail
    refine ⟨trivial, (callsIn_wide.2 HNO.out).mono ?_⟩
    rintro e X3 ⟨rfl, hb3⟩
    have HE3 := vl (HE2.out.on hb3)
    have HD3 : Vl (X3.heap[D]? = some (.deferred (some []))) := vl ((hb3.block D (by have := HT2.out.size; have h9 := (Array.getElem?_eq_some_iff.1 HD2.out).1; exact h9)).trans HD2.out)
    have HC3 := vl (HC2.out.below hb3)
    have HT3 := vl (HT2.out.trans2 (Tn.of_below (S := CnF cb rv sv) hb3) (fun _ x => Or.inl x))
    clear hb3 HNO p2 HE2 HC2 HT2 HD2
    gi_wp2_with (refine wpListIn_evstore _ rfl _ _ rfl W2.heap.size _ _ _ 0 0 0 _ _ (.slice none 0 0) (.slice none 0 0) _ false rfl rfl HE3.out rfl rfl ?_)
    intro X4 hE hg
    have hDW : D ≠ W2.heap.size := by omega
    have HD4 : X4.heap[D]? = some (.deferred (some [])) := (hg.block D (Array.getElem?_eq_some_iff.1 HD3.out).1 (fun e => hDW (Option.some.inj e))).trans HD3.out
    have hT4 : CnL X4 cb { c with said := c.said ++ frmL (4, 1, 0, []) } rv' sv' ∧ Tn (CnF cb rv sv) w X4 := by
      have hnF : ¬ CnF cb rv' sv' W2.heap.size := fun x => (HF2.out _ x).elim (fun y => by have := HNC.out _ y; omega) (fun y => by omega)
      exact ⟨HC3.out.tn (tn_grown (S := fun j => j = W2.heap.size) hg (fun j hj => (Option.some.inj hj).symm)) (fun j hj e => hnF (e ▸ hj)) (Nat.ne_of_lt (Nat.lt_of_lt_of_le HC.out.slt hevw)), HT3.out.trans2 (tn_grown (S := fun j => j = W2.heap.size) hg (fun j hj => (Option.some.inj hj).symm)) (fun j hj => Or.inr (by omega))⟩
    have HT4 := vl hT4
    have HE4 := vl hE
    have HDD := vl HD4
    clear hT4 hE hg HE3 HC3 HT3 HD3 HD4
    gi_wp2
    refine ⟨by simp, .inl ⟨_, _, rfl, run_takeDeferred (b := D) (ds := []) HDD.out, ?_⟩⟩
    have hE5 : EVB (X4.putObj D (.deferred none)) W2.heap.size 0 0 0 (.slice none 0 0) (.slice none 0 0) false := (World.putObj_heap_other (fun e => hDW e.symm)).trans HE4.out
    obtain ⟨z0, z1, z2, z3, z4, z5⟩ := hE5.cells
    refine ⟨.agg #[.int .i64 0, .int .i64 0, .int .i64 0, .slice none 0 0, .slice none 0 0, .bool false], by simp [results, Tryz.results132, go_sem, z0, z1, z2, z3, z4, z5], rfl, ?_⟩
    obtain ⟨k1, k2⟩ := HT4.out
    have hnD : ¬ CnF cb rv' sv' D := fun x => (HF2.out _ x).elim (fun y => by have := HNC.out _ y; omega) (fun y => by omega)
    exact ⟨rv', sv', k1.tn (tn_putObj X4 D _) (fun j hj e => hnD (e ▸ hj)) (fun e => by
      have h9 := k1.scell
      have h8 : c.sb = D := e
      rw [show ({ c with said := c.said ++ frmL (4, 1, 0, []) } : CnS).sb = D from e] at h9
      simp [World.cell?, HDD.out] at h9), k2.trans2 (tn_putObj X4 D _) (fun j hj => Or.inr (by omega)), fun j hj => (HF2.out j hj).imp id (fun x => by omega)⟩
end Go.Proofs.YtdlaaollamgplagGreatDoor
/-
  ONE SIDE OF A CONNECTION: hear, of what is wrong, and of what is said of no stream. No claim by itself.
-/
namespace Go.Proofs.YtdlaaollamgplagGreatDoor
open Go Go.RowKit
set_option maxRecDepth 100000
/-- A block above all that were there is none of the connection's, and stays none. -/
theorem cnf_new {w : World} {cb n : Nat} {c : CnS} {rv sv rv' sv' : Value} {m : Nat} (h : CnL w cb c rv sv) (hn : w.heap.size ≤ n) (hf : ∀ k, CnF cb rv' sv' k → CnF cb rv sv k ∨ m ≤ k) (hm : n < m) : ¬ CnF cb rv' sv' n := fun x => by
  rcases hf n x with y | y
  · have := h.flt n y; omega
  · omega
/-- The event that is answered is stored into a block of its own. -/
theorem CnT.ev {w w5 w6 : World} {cb n m : Nat} {c c' : CnS} {rv sv rv' sv' : Value} (h : CnL w cb c rv sv) (hn : w.heap.size ≤ n) (h5 : CnL w5 cb c' rv' sv') (ht : Tn (CnF cb rv sv) w w5) (hf : ∀ k, CnF cb rv' sv' k → CnF cb rv sv k ∨ m ≤ k) (hm : n < m) (he : c'.sb = c.sb) (hg : w5.grownBy w6 (some n)) : CnT w cb rv sv c' w6 := by
  have hnF := cnf_new h hn hf hm
  refine ⟨rv', sv', h5.tn (tn_grown (S := fun j => j = n) hg (fun j hj => (Option.some.inj hj).symm)) (fun j hj e => hnF (e ▸ hj)) (by rw [he]; exact Nat.ne_of_lt (Nat.lt_of_lt_of_le h.slt hn)), ht.trans2 (tn_grown (S := fun j => j = n) hg (fun j hj => (Option.some.inj hj).symm)) (fun j hj => Or.inr (by omega)), fun j hj => (hf j hj).imp id (fun x => by omega)⟩
set_option maxHeartbeats 8000000 in
theorem khear_bad (cb : Nat) (c : CnS) (rv sv : Value) (k fl st : Int) (a : Option Addr) (len cap : Nat) (Z : List Int) (er code : Int) (w : World) (h : CnL w cb c rv sv) (hA : KArg w cb rv sv a len cap Z) (hlen : len ≤ 4611686018427387904) (hb0 : c.bfr = 0) (hbv : ∃ a n k, c.bby = .slice a n k) (hs : c.said.length ≤ 100000000000) (hr : refF c.begun k fl st Z er = code) (h0 : code ≠ 0) (h1 : 0 ≤ code) (h2 : code ≤ 2147483647) :
    Calls Tryz.prog 70 #[.pointer (some ⟨cb, 0, none⟩), .agg #[.int .i64 k, .int .i64 fl, .int .i64 st, .slice a len cap], errW er] w fun e w' => e = .returned (evA 4 0 code (.slice none 0 0) (.slice none 0 0) false) ∧ CnT w cb rv sv (CnS.failed { c with begun := true } code) w' := by
  obtain ⟨W1, hW1⟩ : ∃ x, w.alloc (.cells #[.int .i64 k, .int .i64 fl, .int .i64 st, .slice a len cap] 60) = x := ⟨_, rfl⟩
  obtain ⟨W2, hW2⟩ : ∃ x, W1.alloc (.cells #[.int .i64 0, .int .i64 0, .int .i64 0, .slice none 0 0, .slice none 0 0, .bool false] 68) = x := ⟨_, rfl⟩
  have hb1 : Below w.heap.size w W1 := by rw [← hW1]; exact (Below.refl _ w).alloc (Nat.le_refl _) _
  have hs1 : W1.heap.size = w.heap.size + 1 := by rw [← hW1]; simp
  have hb2 : Below W1.heap.size W1 W2 := by rw [← hW2]; exact (Below.refl _ W1).alloc (Nat.le_refl _) _
  have hF2 : FRB W2 w.heap.size k fl st (.slice a len cap) := (show FRB W1 w.heap.size k fl st (.slice a len cap) by rw [← hW1]; exact frb_new w k fl st _).on hb2
  have HE2 : Vl (EVB W2 W1.heap.size 0 0 0 (.slice none 0 0) (.slice none 0 0) false) := vl (by rw [← hW2]; exact evb_new W1)
  have HB2 : Vl (Below w.heap.size w W2) := vl (hb1.trans (hb2.mono (by omega)))
  obtain ⟨b0, b1, b2, b3⟩ := hF2.cells
  have HRE := vl (krefuse_any cb c rv sv k fl st a len cap Z er W2 (h.below HB2.out) (hA.below HB2.out) hlen hb0)
  rw [hr] at HRE
  have HC := vl h
  have HN : Vl (W1.heap.size = w.heap.size + 1) := vl hs1
  have hx2 : W1.heap.size < W2.heap.size := HE2.out.lt
  have HBV := vl hbv
  have hc0 : (code != 0) = true := by simpa using h0
  obtain ⟨ev, hev⟩ : ∃ x, errW er = x := ⟨_, rfl⟩
  rw [hev] at HRE ⊢
  clear h hA hb1 hb2 hF2 hs1 hr hbv hev
  unfold evA
  go_enter Tryz.func70, Tryz.ntmps70
  go_wp2_with fail
  clear hW1 hW2
  refine HRE.out.mono ?_
  rintro e w3 ⟨rfl, hC3, hT3⟩
  have HNC : Vl (∀ j, CnF cb rv sv j → j < w.heap.size) := vl HC.out.flt
  have HE3 := vl (HE2.out.tn hT3 (fun x => by have := HNC.out _ x; have := HN.out; omega))
  have HT3 : Vl (Tn (CnF cb rv sv) w w3) := vl ((Tn.of_below HB2.out).trans2 hT3 (fun _ x => Or.inl x))
  have HFA := vl (kfail_any cb { c with begun := true } rv sv code w3 hC3 hs h1 h2 HBV.out)
  have hsz3 : W2.heap.size ≤ w3.heap.size := hT3.size
  unfold evA at HFA
  clear hC3 hT3 HRE HE2 b0 b1 b2 b3
  go_wp2_with fail
  refine HFA.out.mono ?_
  rintro e w4 ⟨rfl, rv', sv', hC4, hT4, hF4⟩
  have HE4 := vl (HE3.out.tn hT4 (fun x => by have := HNC.out _ x; have := HN.out; omega))
  have HT4 := vl (HT3.out.trans2 hT4 (fun _ x => Or.inl x))
  have HC4 := vl hC4
  have HF4 : Vl (∀ j, CnF cb rv' sv' j → CnF cb rv sv j ∨ w3.heap.size ≤ j) := vl hF4
  clear hC4 hT4 hF4 HFA HE3 HT3
  go_wp2_with (refine wpList_evstore _ rfl _ _ rfl W1.heap.size _ _ _ 4 0 code _ _ (.slice none 0 0) (.slice none 0 0) _ false rfl rfl HE4.out rfl rfl ?_)
  intro w6 hE hg
  have HFIN : Vl (CnT w cb rv sv (CnS.failed { c with begun := true } code) w6) := vl (CnT.ev HC.out (by have := HN.out; omega) HC4.out HT4.out HF4.out (by omega) rfl hg)
  obtain ⟨z0, z1, z2, z3, z4, z5⟩ := hE.cells
  clear hE hg HE4 HC4 HT4 HF4
  go_wp2_with fail
  refine bodyPost_ret (v := .agg #[.int .i64 4, .int .i64 0, .int .i64 code, .slice none 0 0, .slice none 0 0, .bool false]) (by simp [results, Tryz.results70, go_sem, z0, z1, z2, z3, z4, z5]; try rfl) rfl ?_
  exact ⟨rfl, HFIN.out⟩
end Go.Proofs.YtdlaaollamgplagGreatDoor
/-
  ONE SIDE OF A CONNECTION: hear, of a Set that has no setting. No claim by itself.
-/
namespace Go.Proofs.YtdlaaollamgplagGreatDoor
open Go Go.RowKit Go.Shelf
set_option maxRecDepth 100000
set_option maxHeartbeats 8000000 in
theorem khear_set (cb : Nat) (c : CnS) (rv sv : Value) (fl st : Int) (a : Option Addr) (cap : Nat) (w : World) (h : CnL w cb c rv sv) (hA : KArg w cb rv sv a 0 cap []) (hb0 : c.bfr = 0) (hs : c.said.length ≤ 100000000000) (hr : refF c.begun 4 fl st [] 0 = 0) (hfl : bits .and .i64 fl 1 = 0) (hq : c.queue = .slice none 0 0) :
    Calls Tryz.prog 70 #[.pointer (some ⟨cb, 0, none⟩), .agg #[.int .i64 4, .int .i64 fl, .int .i64 st, .slice a 0 cap], .nilIface] w fun e w' => e = .returned (evA 0 0 0 (.slice none 0 0) (.slice none 0 0) false) ∧ CnT w cb rv sv { c with begun := true, said := c.said ++ frmL (4, 1, 0, []) } w' := by
  obtain ⟨W1, hW1⟩ : ∃ x, w.alloc (.cells #[.int .i64 4, .int .i64 fl, .int .i64 st, .slice a 0 cap] 60) = x := ⟨_, rfl⟩
  obtain ⟨W2, hW2⟩ : ∃ x, W1.alloc (.cells #[.int .i64 0, .int .i64 0, .int .i64 0, .slice none 0 0, .slice none 0 0, .bool false] 68) = x := ⟨_, rfl⟩
  have hb1 : Below w.heap.size w W1 := by rw [← hW1]; exact (Below.refl _ w).alloc (Nat.le_refl _) _
  have hs1 : W1.heap.size = w.heap.size + 1 := by rw [← hW1]; simp
  have hb2 : Below W1.heap.size W1 W2 := by rw [← hW2]; exact (Below.refl _ W1).alloc (Nat.le_refl _) _
  have hF2 : FRB W2 w.heap.size 4 fl st (.slice a 0 cap) := (show FRB W1 w.heap.size 4 fl st (.slice a 0 cap) by rw [← hW1]; exact frb_new w 4 fl st _).on hb2
  have HE2 : Vl (EVB W2 W1.heap.size 0 0 0 (.slice none 0 0) (.slice none 0 0) false) := vl (by rw [← hW2]; exact evb_new W1)
  have HB2 : Vl (Below w.heap.size w W2) := vl (hb1.trans (hb2.mono (by omega)))
  obtain ⟨b0, b1, b2, b3⟩ := hF2.cells
  have HRE := vl (krefuse_any cb c rv sv 4 fl st a 0 cap [] 0 W2 (h.below HB2.out) (hA.below HB2.out) (by decide) hb0)
  rw [hr] at HRE
  have HC := vl h
  have HN : Vl (W1.heap.size = w.heap.size + 1) := vl hs1
  have hx2 : W1.heap.size < W2.heap.size := HE2.out.lt
  rw [show errW 0 = .nilIface from rfl] at HRE
  have HFX := vl hF2
  clear h hA hb1 hb2 hF2 hs1 hr
  unfold evA
  go_enter Tryz.func70, Tryz.ntmps70
  go_wp2_with fail
  clear hW1 hW2
  refine HRE.out.mono ?_
  rintro e w3 ⟨rfl, hC3, hT3⟩
  have HNC : Vl (∀ j, CnF cb rv sv j → j < w.heap.size) := vl HC.out.flt
  have HE3 := vl (HE2.out.tn hT3 (fun x => by have := HNC.out _ x; have := HN.out; omega))
  have HT3 : Vl (Tn (CnF cb rv sv) w w3) := vl ((Tn.of_below HB2.out).trans2 hT3 (fun _ x => Or.inl x))
  obtain ⟨d0, d1, d2, d3⟩ := (HFX.out.tn hT3 (fun x => by have := HNC.out _ x; omega)).cells
  have HFA := vl (callsIn_wide.1 (khearset_in cb { c with begun := true } rv sv 4 fl st a cap w3 hC3 hs hfl hq))
  have hsz3 : W2.heap.size ≤ w3.heap.size := hT3.size
  unfold evA at HFA
  clear hC3 hT3 HRE HE2 b0 b1 b2 b3
  go_wp2_with fail
  refine HFA.out.mono ?_
  rintro e w4 ⟨rfl, rv', sv', hC4, hT4, hF4⟩
  have HE4 := vl (HE3.out.tn hT4 (fun x => by have := HNC.out _ x; have := HN.out; omega))
  have HT4 := vl (HT3.out.trans2 hT4 (fun _ x => Or.inl x))
  have HC4 := vl hC4
  have HF4 : Vl (∀ j, CnF cb rv' sv' j → CnF cb rv sv j ∨ w3.heap.size ≤ j) := vl hF4
  clear hC4 hT4 hF4 HFA HE3 HT3
  go_wp2_with (refine wpList_evstore _ rfl _ _ rfl W1.heap.size _ _ _ 0 0 0 _ _ (.slice none 0 0) (.slice none 0 0) _ false rfl rfl HE4.out rfl rfl ?_)
  intro w6 hE hg
  have HFIN : Vl (CnT w cb rv sv { c with begun := true, said := c.said ++ frmL (4, 1, 0, []) } w6) := vl (CnT.ev HC.out (by have := HN.out; omega) HC4.out HT4.out HF4.out (by omega) rfl hg)
  obtain ⟨z0, z1, z2, z3, z4, z5⟩ := hE.cells
  clear hE hg HE4 HC4 HT4 HF4
  go_wp2_with fail
  refine bodyPost_ret (v := .agg #[.int .i64 0, .int .i64 0, .int .i64 0, .slice none 0 0, .slice none 0 0, .bool false]) (by simp [results, Tryz.results70, go_sem, z0, z1, z2, z3, z4, z5]; try rfl) rfl ?_
  exact ⟨rfl, HFIN.out⟩
end Go.Proofs.YtdlaaollamgplagGreatDoor
/-
  ONE SIDE OF A CONNECTION: hear, of Ping, of Bye, of what is of no kind. No claim by itself.
-/
namespace Go.Proofs.YtdlaaollamgplagGreatDoor
open Go Go.RowKit Go.Shelf
set_option maxRecDepth 100000
set_option maxHeartbeats 8000000 in
theorem khear_ping (cb : Nat) (c : CnS) (rv sv : Value) (fl st : Int) (a : Option Addr) (len cap : Nat) (Z : List Int) (w : World) (h : CnL w cb c rv sv) (hA : KArg w cb rv sv a len cap Z) (hz : len ≤ 1024) (hb0 : c.bfr = 0) (hs : c.said.length ≤ 100000000000) (hr : refF c.begun 5 fl st Z 0 = 0) (hfl : bits .and .i64 fl 1 = 0) :
    Calls Tryz.prog 70 #[.pointer (some ⟨cb, 0, none⟩), .agg #[.int .i64 5, .int .i64 fl, .int .i64 st, .slice a len cap], .nilIface] w fun e w' => e = .returned (evA 0 0 0 (.slice none 0 0) (.slice none 0 0) false) ∧ CnT w cb rv sv { c with begun := true, said := c.said ++ frmL (5, 1, 0, Z) } w' := by
  obtain ⟨W1, hW1⟩ : ∃ x, w.alloc (.cells #[.int .i64 5, .int .i64 fl, .int .i64 st, .slice a len cap] 60) = x := ⟨_, rfl⟩
  obtain ⟨W2, hW2⟩ : ∃ x, W1.alloc (.cells #[.int .i64 0, .int .i64 0, .int .i64 0, .slice none 0 0, .slice none 0 0, .bool false] 68) = x := ⟨_, rfl⟩
  have hb1 : Below w.heap.size w W1 := by rw [← hW1]; exact (Below.refl _ w).alloc (Nat.le_refl _) _
  have hs1 : W1.heap.size = w.heap.size + 1 := by rw [← hW1]; simp
  have hb2 : Below W1.heap.size W1 W2 := by rw [← hW2]; exact (Below.refl _ W1).alloc (Nat.le_refl _) _
  have hF2 : FRB W2 w.heap.size 5 fl st (.slice a len cap) := (show FRB W1 w.heap.size 5 fl st (.slice a len cap) by rw [← hW1]; exact frb_new w 5 fl st _).on hb2
  have HE2 : Vl (EVB W2 W1.heap.size 0 0 0 (.slice none 0 0) (.slice none 0 0) false) := vl (by rw [← hW2]; exact evb_new W1)
  have HB2 : Vl (Below w.heap.size w W2) := vl (hb1.trans (hb2.mono (by omega)))
  obtain ⟨b0, b1, b2, b3⟩ := hF2.cells
  have HRE := vl (krefuse_any cb c rv sv 5 fl st a len cap Z 0 W2 (h.below HB2.out) (hA.below HB2.out) (by omega) hb0)
  rw [hr] at HRE
  have HC := vl h
  have HN : Vl (W1.heap.size = w.heap.size + 1) := vl hs1
  have hx2 : W1.heap.size < W2.heap.size := HE2.out.lt
  rw [show errW 0 = .nilIface from rfl] at HRE
  have HFX := vl hF2
  have HKA := vl hA
  clear h hA hb1 hb2 hF2 hs1 hr
  unfold evA
  go_enter Tryz.func70, Tryz.ntmps70
  go_wp2_with fail
  clear hW1 hW2
  refine HRE.out.mono ?_
  rintro e w3 ⟨rfl, hC3, hT3⟩
  have HNC : Vl (∀ j, CnF cb rv sv j → j < w.heap.size) := vl HC.out.flt
  have HE3 := vl (HE2.out.tn hT3 (fun x => by have := HNC.out _ x; have := HN.out; omega))
  have HT3 : Vl (Tn (CnF cb rv sv) w w3) := vl ((Tn.of_below HB2.out).trans2 hT3 (fun _ x => Or.inl x))
  obtain ⟨d0, d1, d2, d3⟩ := (HFX.out.tn hT3 (fun x => by have := HNC.out _ x; omega)).cells
  have HFA := vl (khearping_any cb { c with begun := true } rv sv 5 fl st a len cap Z w3 hC3 ⟨HKA.out.tn HT3.out, HKA.out.2⟩ hs hfl hz)
  have hsz3 : W2.heap.size ≤ w3.heap.size := hT3.size
  unfold evA at HFA
  clear hC3 hT3 HRE HE2 b0 b1 b2 b3
  go_wp2_with fail
  refine HFA.out.mono ?_
  rintro e w4 ⟨rfl, rv', sv', hC4, hT4, hF4⟩
  have HE4 := vl (HE3.out.tn hT4 (fun x => by have := HNC.out _ x; have := HN.out; omega))
  have HT4 := vl (HT3.out.trans2 hT4 (fun _ x => Or.inl x))
  have HC4 := vl hC4
  have HF4 : Vl (∀ j, CnF cb rv' sv' j → CnF cb rv sv j ∨ w3.heap.size ≤ j) := vl hF4
  clear hC4 hT4 hF4 HFA HE3 HT3
  go_wp2_with (refine wpList_evstore _ rfl _ _ rfl W1.heap.size _ _ _ 0 0 0 _ _ (.slice none 0 0) (.slice none 0 0) _ false rfl rfl HE4.out rfl rfl ?_)
  intro w6 hE hg
  have HFIN : Vl (CnT w cb rv sv { c with begun := true, said := c.said ++ frmL (5, 1, 0, Z) } w6) := vl (CnT.ev HC.out (by have := HN.out; omega) HC4.out HT4.out HF4.out (by omega) rfl hg)
  obtain ⟨z0, z1, z2, z3, z4, z5⟩ := hE.cells
  clear hE hg HE4 HC4 HT4 HF4
  go_wp2_with fail
  refine bodyPost_ret (v := .agg #[.int .i64 0, .int .i64 0, .int .i64 0, .slice none 0 0, .slice none 0 0, .bool false]) (by simp [results, Tryz.results70, go_sem, z0, z1, z2, z3, z4, z5]; try rfl) rfl ?_
  exact ⟨rfl, HFIN.out⟩
set_option maxHeartbeats 8000000 in
theorem khear_other (cb : Nat) (c : CnS) (rv sv : Value) (k fl st : Int) (a : Option Addr) (len cap : Nat) (Z : List Int) (w : World) (h : CnL w cb c rv sv) (hA : KArg w cb rv sv a len cap Z) (hz : len ≤ 1024) (hb0 : c.bfr = 0) (hr : refF c.begun k fl st Z 0 = 0) (hk : 7 < k) :
    Calls Tryz.prog 70 #[.pointer (some ⟨cb, 0, none⟩), .agg #[.int .i64 k, .int .i64 fl, .int .i64 st, .slice a len cap], .nilIface] w fun e w' => e = .returned (evA 0 0 0 (.slice none 0 0) (.slice none 0 0) false) ∧ CnT w cb rv sv { c with begun := true } w' := by
  obtain ⟨W1, hW1⟩ : ∃ x, w.alloc (.cells #[.int .i64 k, .int .i64 fl, .int .i64 st, .slice a len cap] 60) = x := ⟨_, rfl⟩
  obtain ⟨W2, hW2⟩ : ∃ x, W1.alloc (.cells #[.int .i64 0, .int .i64 0, .int .i64 0, .slice none 0 0, .slice none 0 0, .bool false] 68) = x := ⟨_, rfl⟩
  have hb1 : Below w.heap.size w W1 := by rw [← hW1]; exact (Below.refl _ w).alloc (Nat.le_refl _) _
  have hs1 : W1.heap.size = w.heap.size + 1 := by rw [← hW1]; simp
  have hb2 : Below W1.heap.size W1 W2 := by rw [← hW2]; exact (Below.refl _ W1).alloc (Nat.le_refl _) _
  have hF2 : FRB W2 w.heap.size k fl st (.slice a len cap) := (show FRB W1 w.heap.size k fl st (.slice a len cap) by rw [← hW1]; exact frb_new w k fl st _).on hb2
  have HE2 : Vl (EVB W2 W1.heap.size 0 0 0 (.slice none 0 0) (.slice none 0 0) false) := vl (by rw [← hW2]; exact evb_new W1)
  have HB2 : Vl (Below w.heap.size w W2) := vl (hb1.trans (hb2.mono (by omega)))
  obtain ⟨b0, b1, b2, b3⟩ := hF2.cells
  have HRE := vl (krefuse_any cb c rv sv k fl st a len cap Z 0 W2 (h.below HB2.out) (hA.below HB2.out) (by omega) hb0)
  rw [hr] at HRE
  have HC := vl h
  have HN : Vl (W1.heap.size = w.heap.size + 1) := vl hs1
  have hx2 : W1.heap.size < W2.heap.size := HE2.out.lt
  rw [show errW 0 = .nilIface from rfl] at HRE
  have n0 : (k == 0) = false := by simp; omega
  have n1 : (k == 1) = false := by simp; omega
  have n2 : (k == 2) = false := by simp; omega
  have n3 : (k == 3) = false := by simp; omega
  have n4 : (k == 4) = false := by simp; omega
  have n5 : (k == 5) = false := by simp; omega
  have n6 : (k == 6) = false := by simp; omega
  have n7 : (k == 7) = false := by simp; omega
  have HFX := vl hF2
  clear h hA hb1 hb2 hF2 hs1 hr
  unfold evA
  go_enter Tryz.func70, Tryz.ntmps70
  go_wp2_with fail
  clear hW1 hW2
  refine HRE.out.mono ?_
  rintro e w3 ⟨rfl, hC3, hT3⟩
  have HNC : Vl (∀ j, CnF cb rv sv j → j < w.heap.size) := vl HC.out.flt
  have HE3 := vl (HE2.out.tn hT3 (fun x => by have := HNC.out _ x; have := HN.out; omega))
  have HT3 : Vl (Tn (CnF cb rv sv) w w3) := vl ((Tn.of_below HB2.out).trans2 hT3 (fun _ x => Or.inl x))
  obtain ⟨d0, d1, d2, d3⟩ := (HFX.out.tn hT3 (fun x => by have := HNC.out _ x; omega)).cells
  have HFA := vl (knothing_any w3)
  have HC3 := vl hC3
  have hsz3 : W2.heap.size ≤ w3.heap.size := hT3.size
  unfold evA at HFA
  clear hC3 hT3 HRE HE2 b0 b1 b2 b3
  go_wp2_with fail
  refine HFA.out.mono ?_
  rintro e w4 ⟨rfl, hb4⟩
  have HE4 := vl (HE3.out.on hb4)
  have HT4 := vl (HT3.out.trans2 (Tn.of_below (S := CnF cb rv sv) hb4) (fun _ x => Or.inl x))
  have HC4 := vl (HC3.out.below hb4)
  have HF4 : Vl (∀ j, CnF cb rv sv j → CnF cb rv sv j ∨ w3.heap.size ≤ j) := vl (fun _ x => Or.inl x)
  clear hb4 HFA HE3 HT3 HC3
  go_wp2_with (refine wpList_evstore _ rfl _ _ rfl W1.heap.size _ _ _ 0 0 0 _ _ (.slice none 0 0) (.slice none 0 0) _ false rfl rfl HE4.out rfl rfl ?_)
  intro w6 hE hg
  have HFIN : Vl (CnT w cb rv sv { c with begun := true } w6) := vl (CnT.ev HC.out (by have := HN.out; omega) HC4.out HT4.out HF4.out (by omega) rfl hg)
  obtain ⟨z0, z1, z2, z3, z4, z5⟩ := hE.cells
  clear hE hg HE4 HC4 HT4 HF4
  go_wp2_with fail
  refine bodyPost_ret (v := .agg #[.int .i64 0, .int .i64 0, .int .i64 0, .slice none 0 0, .slice none 0 0, .bool false]) (by simp [results, Tryz.results70, go_sem, z0, z1, z2, z3, z4, z5]; try rfl) rfl ?_
  exact ⟨rfl, HFIN.out⟩
set_option maxHeartbeats 8000000 in
theorem khear_bye (cb : Nat) (c : CnS) (rv sv : Value) (fl st : Int) (a : Option Addr) (cap : Nat) (Z : List Int) (w : World) (h : CnL w cb c rv sv) (hA : KArg w cb rv sv a 8 cap Z) (hb0 : c.bfr = 0) (hr : refF c.begun 6 fl st Z 0 = 0) :
    Calls Tryz.prog 70 #[.pointer (some ⟨cb, 0, none⟩), .agg #[.int .i64 6, .int .i64 fl, .int .i64 st, .slice a 8 cap], .nilIface] w fun e w' => e = .returned (evA 5 0 (word ((Z.drop 4).take 4)) (.slice none 0 0) (.slice none 0 0) false) ∧ CnT w cb rv sv { c with begun := true } w' := by
  obtain ⟨W1, hW1⟩ : ∃ x, w.alloc (.cells #[.int .i64 6, .int .i64 fl, .int .i64 st, .slice a 8 cap] 60) = x := ⟨_, rfl⟩
  obtain ⟨W2, hW2⟩ : ∃ x, W1.alloc (.cells #[.int .i64 0, .int .i64 0, .int .i64 0, .slice none 0 0, .slice none 0 0, .bool false] 68) = x := ⟨_, rfl⟩
  have hb1 : Below w.heap.size w W1 := by rw [← hW1]; exact (Below.refl _ w).alloc (Nat.le_refl _) _
  have hs1 : W1.heap.size = w.heap.size + 1 := by rw [← hW1]; simp
  have hb2 : Below W1.heap.size W1 W2 := by rw [← hW2]; exact (Below.refl _ W1).alloc (Nat.le_refl _) _
  have hF2 : FRB W2 w.heap.size 6 fl st (.slice a 8 cap) := (show FRB W1 w.heap.size 6 fl st (.slice a 8 cap) by rw [← hW1]; exact frb_new w 6 fl st _).on hb2
  have HE2 : Vl (EVB W2 W1.heap.size 0 0 0 (.slice none 0 0) (.slice none 0 0) false) := vl (by rw [← hW2]; exact evb_new W1)
  have HB2 : Vl (Below w.heap.size w W2) := vl (hb1.trans (hb2.mono (by omega)))
  obtain ⟨b0, b1, b2, b3⟩ := hF2.cells
  have HRE := vl (krefuse_any cb c rv sv 6 fl st a 8 cap Z 0 W2 (h.below HB2.out) (hA.below HB2.out) (by decide) hb0)
  rw [hr] at HRE
  have HC := vl h
  have HN : Vl (W1.heap.size = w.heap.size + 1) := vl hs1
  have hx2 : W1.heap.size < W2.heap.size := HE2.out.lt
  rw [show errW 0 = .nilIface from rfl] at HRE
  have HFX := vl hF2
  have HKA := vl hA
  obtain ⟨g, off, ea, hrow⟩ : ∃ g off, a = some ⟨g, off, none⟩ ∧ Row w g off 8 cap Z := by
    rcases hA.1 with ⟨h9, _⟩ | x
    · cases h9
    · exact x
  have hcp := hrow.hcap
  have hmx := hrow.hmax
  unfold maxLen at hmx
  have hc8' : (8 : Int) ≤ (cap : Int) := by omega
  have hc4' : ¬ cap = 4 := by omega
  subst ea
  clear h hA hb1 hb2 hF2 hs1 hr
  obtain ⟨NV, hNV⟩ : ∃ x, word ((Z.drop 4).take 4) = x := ⟨_, rfl⟩
  have HNV : Vl (word ((Z.drop 4).take 4) = NV) := vl hNV
  rw [hNV]
  clear hNV
  unfold evA
  go_enter Tryz.func70, Tryz.ntmps70
  go_wp2_with fail
  clear hW1 hW2
  refine HRE.out.mono ?_
  rintro e w3 ⟨rfl, hC3, hT3⟩
  have HNC : Vl (∀ j, CnF cb rv sv j → j < w.heap.size) := vl HC.out.flt
  have HE3 := vl (HE2.out.tn hT3 (fun x => by have := HNC.out _ x; have := HN.out; omega))
  have HT3 : Vl (Tn (CnF cb rv sv) w w3) := vl ((Tn.of_below HB2.out).trans2 hT3 (fun _ x => Or.inl x))
  obtain ⟨d0, d1, d2, d3⟩ := (HFX.out.tn hT3 (fun x => by have := HNC.out _ x; omega)).cells
  have hA3 := HKA.out.tn HT3.out
  obtain ⟨g', off', e9, hr3⟩ : ∃ g' off', (some (⟨g, off, none⟩ : Addr)) = some ⟨g', off', none⟩ ∧ Row w3 g' off' 8 cap Z := by
    rcases hA3 with ⟨h9, _⟩ | x
    · cases h9
    · exact x
  cases e9
  have hrp : Row w3 g (off + 4) 4 (cap - 4) ((Z.drop 4).take 4) := row_part hr3 4 4 (cap - 4) (by decide) (by omega) (by unfold maxLen; omega)
  have HFA := vl (number_any g (off + 4) 4 (cap - 4) ((Z.drop 4).take 4) w3 hrp (by decide))
  have HC3 := vl hC3
  obtain ⟨nn, hnn⟩ : ∃ x, word ((Z.drop 4).take 4) = x := ⟨_, rfl⟩
  rw [hnn] at HFA
  obtain rfl : NV = nn := HNV.out.symm.trans hnn
  have hsz3 : W2.heap.size ≤ w3.heap.size := hT3.size
  clear hC3 hT3 HRE HE2 hA3 hr3 hrp hnn b0 b1 b2 b3
  go_wp2_with fail
  refine HFA.out.mono ?_
  rintro e w4 ⟨rfl, rfl⟩
  have HE4 := HE3
  have HT4 := HT3
  have HC4 := HC3
  have HF4 : Vl (∀ j, CnF cb rv sv j → CnF cb rv sv j ∨ w3.heap.size ≤ j) := vl (fun _ x => Or.inl x)
  clear HFA HE3 HT3 HC3
  go_wp2_with (refine wpList_evstore _ rfl _ _ rfl W1.heap.size _ _ _ 5 0 NV _ _ (.slice none 0 0) (.slice none 0 0) _ false rfl rfl HE4.out rfl rfl ?_)
  intro w6 hE hg
  have HFIN : Vl (CnT w cb rv sv { c with begun := true } w6) := vl (CnT.ev HC.out (by have := HN.out; omega) HC4.out HT4.out HF4.out (by omega) rfl hg)
  obtain ⟨z0, z1, z2, z3, z4, z5⟩ := hE.cells
  clear hE hg HE4 HC4 HT4 HF4
  go_wp2_with fail
  refine bodyPost_ret (v := .agg #[.int .i64 5, .int .i64 0, .int .i64 NV, .slice none 0 0, .slice none 0 0, .bool false]) (by simp [results, Tryz.results70, go_sem, z0, z1, z2, z3, z4, z5]; try rfl) rfl ?_
  exact ⟨rfl, HFIN.out⟩
end Go.Proofs.YtdlaaollamgplagGreatDoor
