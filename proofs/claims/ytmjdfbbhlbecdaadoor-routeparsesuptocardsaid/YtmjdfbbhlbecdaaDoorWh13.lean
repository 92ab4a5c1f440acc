/-
  WHERETO: the developers' Parse. No claim by itself.
-/
import Derived.Test.YtmjdfbbhlbecdaaDoorWh11
import Derived.Test.YtmjdfbbhlbecdaaDoorWh12
import Derived.BigRegion
namespace Go.Proofs.YtmjdfbbhlbecdaaDoor
open Go Go.RowKit Go.Shelf
set_option maxRecDepth 100000
attribute [local go_sem] Oper.semAt_some
theorem wothers_of_below {w w' : World} (h : Below w.heap.size w w') : KeepsOthers w w' := ⟨h.size, fun k _ hk _ => (h.block k (Array.getElem?_eq_some_iff.1 hk).1).trans hk⟩
theorem wbx_own {X Y : World} {row : Option Nat} {B b : Nat} {t : TypeId} {v : Value} (h : Boxed X B t v) (hg : X.grownBy Y row) (hr : ∀ r, row = some r → b ≤ r ∧ ∃ o : Obj, X.heap[r]? = some o ∧ o.isCells = false) : Boxed Y B t v :=
  boxed_own (β := Unit) B t (fun _ => v) () X Y row h hg (fun r e => (hr r e).2)
theorem wowns_turn {X Y : World} {row : Option Nat} {b s k : Nat} {e : TypeId} {v : Value} {xs : List Value} (hr : X.ownsRow b e s v k xs) (hg : X.grownBy Y row) (hrow : ∀ r, row = some r → ∃ o : Obj, X.heap[r]? = some o ∧ o.isCells = false) : Y.ownsRow b e s v k xs := by
  refine hr.kept hg ?_
  rcases hr.2 with ⟨rfl, _⟩ | ⟨g, cap, cur, rfl, _, hgb, _⟩
  · exact .inl rfl
  · refine .inr fun e' => ?_
    obtain ⟨o, ho, hc⟩ := hrow g (by simpa [Value.ownBlock] using e'.symm)
    rw [hgb] at ho; cases ho; cases hc
theorem wowns_others {W W' : World} {base size n : Nat} {e : TypeId} {v : Value} {xs : List Value} (hr : W.ownsRow base e size v n xs) (hg : W.grownBy W' v.ownBlock) : KeepsOthers W W' :=
  KeepsOthers.of_grownBy hg fun j o hj ho => by
    obtain ⟨_, ⟨rfl, _⟩ | ⟨g, cap, cur, rfl, _, hc, _⟩⟩ := hr
    · cases hj
    · cases hj
      rw [hc] at ho
      cases ho
      rfl
theorem wowns_base {W : World} {base size n : Nat} {e : TypeId} {v : Value} {xs : List Value} (hr : W.ownsRow base e size v n xs) (k : Nat) (hk : v.ownBlock = some k) : base ≤ k := by
  obtain ⟨_, ⟨rfl, _⟩ | ⟨g, cap, cur, rfl, hb, _⟩⟩ := hr
  · cases hk
  · cases hk; exact hb
theorem wowns_below {W W' : World} {base size n : Nat} {e : TypeId} {v : Value} {xs : List Value} (hr : W.ownsRow base e size v n xs) (hb : Below W.heap.size W W') : W'.ownsRow base e size v n xs :=
  hr.kept (row := none) ⟨hb.os, hb.tape, hb.output, hb.size, fun k hk _ => hb.block k hk⟩ (Classical.em _)
/-- What holds behind the lines pre. -/
def PaI (w : World) (pre : List Ln) (W : World) : Prop :=
  (∃ v L, Boxed W (w.heap.size + 3) 22 v ∧ ROwn W (w.heap.size + 5) v L ∧ SzL L ∧ L.length ≤ 20 ∧ ∀ rest, parseLs [] (lnsU pre ++ rest) = parseLs (rtsOf L) rest) ∧
  (Boxed W w.heap.size 22 (.slice none 0 0) ∧ Boxed W (w.heap.size + 1) 3 (.int .i64 0) ∧ Boxed W (w.heap.size + 2) 26 .nilIface) ∧ w.heap.size + 5 ≤ W.heap.size ∧ Below w.heap.size w W
/-- What holds where a line was wrong. -/
def PaX (w : World) (c : Code) (pre : List Ln) (W : World) : Prop :=
  c = .ret ∧ (∃ (er : Int) (k : Nat), er ≠ 0 ∧ (Boxed W w.heap.size 22 (.slice none 0 0) ∧ Boxed W (w.heap.size + 1) 3 (.int .i64 (k : Int)) ∧ Boxed W (w.heap.size + 2) 26 (.iface 48 (.int .i64 er))) ∧ ∀ rest, parseLs [] (lnsU pre ++ rest) = (er, [], k)) ∧ Below w.heap.size w W
def PaE (T : List Int) (e : Ending) (w' : World) : Prop :=
  ∃ (L : List Rb) (sa : Option Addr) (sc k : Nat) (er : Int), e = .returned (.tuple #[.slice sa L.length sc, .int .i64 (k : Int), errW er]) ∧ RtArg w' sa L.length sc L ∧ SzL L ∧ parseR T = (er, rtsOf L, k)
theorem parse_step {A : List Rt} {s : List Int} {ls : List (List Int)} {r : Rt} (h : lineP A s = (0, r)) : parseLs A (s :: ls) = parseLs (A ++ [r]) ls := by
  rw [parseLs, h, if_pos rfl]
theorem parse_stop {A : List Rt} {s : List Int} {ls : List (List Int)} {er : Int} {r : Rt} (h : lineP A s = (er, r)) (he : er ≠ 0) : parseLs A (s :: ls) = (er, [], A.length) := by
  rw [parseLs, h, if_neg he]
theorem paI_box {w : World} {pre : List Ln} {W : World} (h : PaI w pre W) (v : Value) : PaI w pre (W.setCell ⟨w.heap.size + 4, 0, none⟩ v) := by
  obtain ⟨⟨u, L, h1, h2, h3, h4, h5⟩, ⟨h6, h7, h8⟩, h9, h10⟩ := h
  refine ⟨⟨u, L, h1.other (by omega) _, h2.kept (grownBy_setCell' W (w.heap.size + 4) v) (.inr (fun e => ?_)), h3, h4, h5⟩, ⟨h6.other (by omega) _, h7.other (by omega) _, h8.other (by omega) _⟩, by simpa [World.setCell] using h9, h10.setCell (p := ⟨w.heap.size + 4, 0, none⟩) (by show w.heap.size ≤ w.heap.size + 4; omega) _⟩
  have := wowns_base h2 _ e
  omega
set_option maxHeartbeats 4000000 in
theorem wparse_in (T : ByteArray) (w : World) (hT : T.size ≤ 140737488351232) :
    CallsIn Fence.wide 9 Tryd.prog 16 #[.string T] w fun e w' => PaE (unums T) e w' ∧ Below w.heap.size w w' := by
  obtain ⟨i0, hi, hz0, hz1, hz2⟩ := info_parts r_info
  have HI := vl hi
  have HZ : Vl (i0.zero = some (.agg #[.string ⟨#[]⟩, .string ⟨#[]⟩, .string ⟨#[]⟩]) ∧ i0.size = 3 ∧ i0.bytes = 48) := ⟨hz0, hz1, hz2⟩
  clear hi hz0 hz1 hz2
  refine callsIn_of_wp_marks Tryd.func16 rfl trivial ?_ rfl
  simp only [Tryd.ntmps16, List.size_toArray, List.length_cons, List.length_nil, Nat.reduceAdd, Nat.reduceSub, Array.replicate_succ, Array.replicate_zero, List.push_toArray, List.append_toArray, List.nil_append, List.cons_append]
  gi_wp2_with (refine ⟨trivial, ?_⟩; gi_at_call 29; refine (callsIn_wide.2 (lines_call _ _)).mono ?_; rintro e w' ⟨rfl, rfl⟩)
  have b0 := ((((Boxed.new w 22 (.slice none 0 0)).alloc (Obj.cells #[Value.int IntKind.i64 0] 3)).alloc (Obj.cells #[Value.nilIface] 26)).alloc (Obj.cells #[Value.slice none 0 0] 22)).alloc (Obj.cells #[Value.string T] 9)
  have b1 := (((Boxed.new (w.alloc (Obj.cells #[Value.slice none 0 0] 22)) 3 (.int .i64 0)).alloc (Obj.cells #[Value.nilIface] 26)).alloc (Obj.cells #[Value.slice none 0 0] 22)).alloc (Obj.cells #[Value.string T] 9)
  have b2 := ((Boxed.new ((w.alloc (Obj.cells #[Value.slice none 0 0] 22)).alloc (Obj.cells #[Value.int IntKind.i64 0] 3)) 26 .nilIface).alloc (Obj.cells #[Value.slice none 0 0] 22)).alloc (Obj.cells #[Value.string T] 9)
  have b3 := (Boxed.new (((w.alloc (Obj.cells #[Value.slice none 0 0] 22)).alloc (Obj.cells #[Value.int IntKind.i64 0] 3)).alloc (Obj.cells #[Value.nilIface] 26)) 22 (.slice none 0 0)).alloc (Obj.cells #[Value.string T] 9)
  have bB := Boxed.new ((((w.alloc (Obj.cells #[Value.slice none 0 0] 22)).alloc (Obj.cells #[Value.int IntKind.i64 0] 3)).alloc (Obj.cells #[Value.nilIface] 26)).alloc (Obj.cells #[Value.slice none 0 0] 22)) 9 (.string T)
  have hB0 : Below w.heap.size w (((((w.alloc (Obj.cells #[Value.slice none 0 0] 22)).alloc (Obj.cells #[Value.int IntKind.i64 0] 3)).alloc (Obj.cells #[Value.nilIface] 26)).alloc (Obj.cells #[Value.slice none 0 0] 22)).alloc (Obj.cells #[Value.string T] 9)) := (((((Below.refl _ w).alloc (Nat.le_refl _) _).alloc (by simp) _).alloc (by simp; omega) _).alloc (by simp; omega) _).alloc (by simp; omega) _
  have hsz : (((((w.alloc (Obj.cells #[Value.slice none 0 0] 22)).alloc (Obj.cells #[Value.int IntKind.i64 0] 3)).alloc (Obj.cells #[Value.nilIface] 26)).alloc (Obj.cells #[Value.slice none 0 0] 22)).alloc (Obj.cells #[Value.string T] 9)).heap.size = w.heap.size + 5 := by simp
  simp only [World.size_alloc] at b1 b2 b3 bB
  obtain ⟨W0, hW0⟩ : ∃ W0, (((((w.alloc (Obj.cells #[Value.slice none 0 0] 22)).alloc (Obj.cells #[Value.int IntKind.i64 0] 3)).alloc (Obj.cells #[Value.nilIface] 26)).alloc (Obj.cells #[Value.slice none 0 0] 22)).alloc (Obj.cells #[Value.string T] 9)) = W0 := ⟨_, rfl⟩
  rw [hW0] at b0 b1 b2 b3 bB hB0 hsz ⊢
  clear hW0
  have h00 : PaI w [] W0 := ⟨⟨_, [], b3, World.ownsRow_nil _ _ _ _, szl_nil, by simp, fun rest => rfl⟩, ⟨b0, b1, b2⟩, by omega, hB0⟩
  refine wpIn_range_box (N := T.size + 1) rfl (by decide) (gf := 45) (lb := #[.pointer (some ⟨w.heap.size + 1 + 1 + 1 + 1, 0, none⟩)]) rfl trivial (enters_of Tryd.func45 (by kernel_rfl) rfl)
    (lines_stops 8 (by decide) T hT (w.heap.size + 4) W0 bB) (by omega) (Below.refl _ _) (fun _ => rfl)
    (PaI w) (PaX w) (fun pre v W1 h => paI_box h v) ?hI ?hIx h00 (fun x => { tmps := #[Value.string T, undef, Value.pointer (some ⟨w.heap.size, 0, none⟩), Value.pointer (some ⟨w.heap.size + 1, 0, none⟩), Value.pointer (some ⟨w.heap.size + 1 + 1, 0, none⟩), Value.pointer (some ⟨w.heap.size + 1 + 1 + 1, 0, none⟩), Value.string x.1, undef, undef, Value.string T, Value.func (Fn.func 45) #[] #[Value.pointer (some ⟨w.heap.size + 1 + 1 + 1 + 1, 0, none⟩)], Value.string x.1, undef, undef, undef, undef, undef, undef, undef, undef, undef, undef, undef, undef, undef, undef, undef, undef], defers := [] }) ?assign ?body ?done ?stop
  case hI =>
    rintro s X Y row ⟨⟨v, L, h1, h2, h3, h4, h5⟩, ⟨h6, h7, h8⟩, h9, hbl⟩ hgr hr
    exact ⟨⟨v, L, wbx_own h1 hgr hr, wowns_turn h2 hgr (fun r e => (hr r e).2), h3, h4, h5⟩, ⟨wbx_own h6 hgr hr, wbx_own h7 hgr hr, wbx_own h8 hgr hr⟩, Nat.le_trans h9 hgr.size, (ownFrom_below (β := Unit) (Nat.le_refl _) (by omega)) () X Y row hbl hgr hr⟩
  case hIx =>
    rintro c s X Y row ⟨hc, ⟨er, k, h1, ⟨h2, h3, h4⟩, h5⟩, hbl⟩ hgr hr
    exact ⟨hc, ⟨er, k, h1, ⟨wbx_own h2 hgr hr, wbx_own h3 hgr hr, wbx_own h4 hgr hr⟩, h5⟩, (ownFrom_below (β := Unit) (Nat.le_refl _) (by omega)) () X Y row hbl hgr hr⟩
  case assign =>
    intro l x X K hK
    dsimp only [lnV]
    gi_wp2
    exact hK
  case body =>
    rintro l pre x X ⟨⟨v, L, bL, hown, hSz, h20, hpar⟩, ⟨bV, bU, bE⟩, hX5, hBX⟩ hlt
    obtain ⟨sa, sc, hv⟩ := rown_shape hown
    subst hv
    have cL := bL.cell
    have HBV := vl bV
    have HBU := vl bU
    have HBE := vl bE
    have HBL := vl bL
    have HBX := vl hBX
    have HOWN := vl hown
    have HPAR := vl hpar
    have HSZ := vl hSz
    have HX5 := vl hX5
    have HPL := vl (wpl_any sa L.length sc L x.1 X (rown_row hown).2 (by omega) hSz x.2)
    obtain ⟨xs, hxs⟩ : ∃ xs : ByteArray, xs = x.1 := ⟨_, rfl⟩
    rw [← hxs] at HPL ⊢
    have HXS := vl hxs
    clear hxs bV bU bE hBX hown hpar hSz b0 b1 b2 b3 bB hB0 h00 hlt bL
    gi_wp2_with fail
    refine ⟨trivial, ?_⟩
    refine (CallsIn.inRound l (callsIn_wide.2 HPL.out)).mono ?_
    rintro e w1 ⟨⟨r, er, rfl, hlp, hr3⟩, hb1⟩
    obtain ⟨p, q, t⟩ := r
    have HB1 := vl hb1
    have HLP := vl hlp
    have HR3 := vl hr3
    have bb : ∀ {B : Nat} {ty : TypeId} {u : Value}, Boxed X B ty u → Boxed w1 B ty u := fun h => (HB1.out.block _ h.lt).trans h
    have HBV1 := vl (bb HBV.out)
    have HBU1 := vl (bb HBU.out)
    have HBE1 := vl (bb HBE.out)
    have HBL1 := vl (bb HBL.out)
    have HOW1 := vl (wowns_below HOWN.out HB1.out)
    have HS1 : Vl (X.heap.size ≤ w1.heap.size) := HB1.out.size
    clear hb1 hlp hr3 bb cL HPL
    by_cases he : er = 0
    · subst he
      rw [errW_zero]
      have cL1 := HBL1.out.cell
      have c2 : (w1.alloc (.cells #[.string p, .string q, .string t] 33)).cell? ⟨w.heap.size + 3, 0, none⟩ = some (.slice sa L.length sc) := (HBL1.out.alloc _).cell
      have HX51 : Vl (w.heap.size + 5 ≤ w1.heap.size) := Nat.le_trans HX5.out HS1.out
      have hlen := h20
      have h20s := (lineP_ok HLP.out).2.1
      rw [rts_len] at h20s
      gi_wp2_with (gi_at_builtin; refine wpListIn_append_own _ rfl _ _ 22 rfl (w.heap.size + 5) 33 i0 (.agg #[.string ⟨#[]⟩, .string ⟨#[]⟩, .string ⟨#[]⟩]) 3 48 Tryd.underlying22 HI.out HZ.out.1 HZ.out.2.1 HZ.out.2.2 rfl (by decide) (.slice sa L.length sc) L.length _ rfl ((HOW1.out.alloc _).alloc _) ⟨w1.heap.size + 1, 0, none⟩ 1 1 [.string p, .string q, .string t] rfl rfl ?n1 ?n2 (by unfold maxLen; omega) (by omega) (by have := HX51.out; simp; omega) ?_)
      case n1 =>
        intro j u hj
        have hh : ((w1.alloc (.cells #[.string p, .string q, .string t] 33)).alloc (.cells #[.string p, .string q, .string t] 33)).heap[w1.heap.size + 1]? = some (.cells #[.string p, .string q, .string t] 33 (0, 0)) := by
          have := heap_alloc_new (w1.alloc (.cells #[.string p, .string q, .string t] 33)) (.cells #[.string p, .string q, .string t] 33)
          rwa [World.size_alloc] at this
        rw [show (⟨w1.heap.size + 1, 0, none⟩ : Addr).add j = ⟨w1.heap.size + 1, 0 + j, none⟩ from by unfold Addr.add; split <;> simp_all]
        simp only [World.cell?, hh, Nat.zero_add]
        match j with
        | 0 => exact hj
        | 1 => exact hj
        | 2 => exact hj
        | j + 3 => simp at hj
      case n2 =>
        intro y hy
        simp at hy
        rcases hy with rfl | rfl | rfl <;> rfl
      intro v3 w3 hown3 hgrow3 _
      have hown3' : ROwn w3 (w.heap.size + 5) v3 (L ++ [(p, q, t)]) := by
        show World.ownsRow _ _ _ _ _ _ _
        rw [show (L ++ [(p, q, t)]).length = L.length + 1 by simp, rcells_app]
        exact hown3
      obtain ⟨sa3, n3, sc3, hv3⟩ : ∃ sa n sc, v3 = .slice sa n sc := by
        obtain ⟨a, c, h⟩ := rown_shape hown3'
        exact ⟨_, _, _, h⟩
      subst hv3
      have hO2 := (HOW1.out.alloc (.cells #[.string p, .string q, .string t] 33)).alloc (.cells #[.string p, .string q, .string t] 33)
      have kp : ∀ {B : Nat} {ty : TypeId} {u : Value}, ty ≠ 33 → Boxed w1 B ty u → Boxed w3 B ty u := fun hne h => ((h.alloc _).alloc _).kept hgrow3 (((h.alloc _).alloc _).not_row hne hO2)
      have bL3 := kp (by decide) HBL1.out
      have cL3 := bL3.cell
      have fL3 := bL3.frozen
      have HFIN : Vl (KeepsFrom W0.heap.size X (w3.setCell ⟨w.heap.size + 3, 0, none⟩ (.slice sa3 n3 sc3)) ∧ (w3.setCell ⟨w.heap.size + 3, 0, none⟩ (.slice sa3 n3 sc3)).heap[w.heap.size + 4]? = X.heap[w.heap.size + 4]? ∧ PaI w (pre ++ [x]) (w3.setCell ⟨w.heap.size + 3, 0, none⟩ (.slice sa3 n3 sc3))) := by
        have h5 := HX5.out
        have hs1 := HS1.out
        have hbl2 : Below X.heap.size X ((w1.alloc (.cells #[.string p, .string q, .string t] 33)).alloc (.cells #[.string p, .string q, .string t] 33)) := (HB1.out.alloc hs1 _).alloc (by simp; omega) _
        have hb3 : Below w.heap.size X w3 := wbelow_grown (hbl2.mono (by omega)) hgrow3 (by simp; omega) (fun k hk => by have := wowns_base hO2 k hk; omega)
        have hb4 := hb3.setCell (p := ⟨w.heap.size + 3, 0, none⟩) (by show w.heap.size ≤ w.heap.size + 3; omega) (.slice sa3 n3 sc3)
        refine ⟨(((wothers_of_below hbl2).trans (wowns_others hO2 hgrow3)).trans (KeepsOthers.setCell _ _ _)).from _, ?_, ⟨_, L ++ [(p, q, t)], bL3.set _, ?_, HSZ.out.app HR3.out, by simp; omega, fun rest => ?_⟩, ⟨(kp (by decide) HBV1.out).other (by omega) _, (kp (by decide) HBU1.out).other (by omega) _, (kp (by decide) HBE1.out).other (by omega) _⟩, Nat.le_trans h5 hb4.size, HBX.out.trans hb4⟩
        · rw [Below.heap_setCell _ _ _ _ (by show w.heap.size + 4 ≠ w.heap.size + 3; omega), hgrow3.block (w.heap.size + 4) (by simp; omega) (fun e => by have := wowns_base hO2 _ e.symm; omega)]
          exact hbl2.block (w.heap.size + 4) (by omega)
        · exact hown3'.kept (grownBy_setCell' w3 (w.heap.size + 3) _) (.inr (fun e => by have := wowns_base hown3' _ e; omega))
        · rw [lnsU_snoc, List.append_assoc, HPAR.out, List.singleton_append, parse_step (r := rtO (p, q, t)) (by rw [← HXS.out]; exact HLP.out), rts_app]
          rfl
      clear hO2 kp bL3 hown3 hown3' hgrow3
      gi_wp2_with fail
      exact HFIN.out
    · rw [errW_pos he]
      have cL1 : (w1.alloc (.cells #[.string p, .string q, .string t] 33)).cell? ⟨w.heap.size + 3, 0, none⟩ = some (.slice sa L.length sc) := (HBL1.out.alloc _).cell
      have cV1 := (HBV1.out.alloc (.cells #[.string p, .string q, .string t] 33)).cell
      have fV1 := (HBV1.out.alloc (.cells #[.string p, .string q, .string t] 33)).frozen
      have cU1 := (HBU1.out.alloc (.cells #[.string p, .string q, .string t] 33)).cell
      have fU1 := (HBU1.out.alloc (.cells #[.string p, .string q, .string t] 33)).frozen
      have cE1 := (HBE1.out.alloc (.cells #[.string p, .string q, .string t] 33)).cell
      have fE1 := (HBE1.out.alloc (.cells #[.string p, .string q, .string t] 33)).frozen
      obtain ⟨W2, hW2⟩ : ∃ W2, W2 = w1.alloc (.cells #[.string p, .string q, .string t] 33) := ⟨_, rfl⟩
      have HBL2 : Vl (Below X.heap.size X W2) := by rw [hW2]; exact HB1.out.alloc HS1.out _
      have HBV2 : Vl (Boxed W2 w.heap.size 22 (.slice none 0 0)) := by rw [hW2]; exact HBV1.out.alloc _
      have HBU2 : Vl (Boxed W2 (w.heap.size + 1) 3 (.int .i64 0)) := by rw [hW2]; exact HBU1.out.alloc _
      have HBE2 : Vl (Boxed W2 (w.heap.size + 2) 26 .nilIface) := by rw [hW2]; exact HBE1.out.alloc _
      rw [← hW2] at cL1 cV1 fV1 cU1 fU1 cE1 fE1
      gi_wp2_with fail
      rw [← hW2]
      clear hW2
      have HFX : Vl (KeepsFrom W0.heap.size X ((((W2.setCell ⟨w.heap.size, 0, none⟩ (.slice none 0 0)).setCell ⟨w.heap.size + 1, 0, none⟩ (.int .i64 (L.length : Int))).setCell ⟨w.heap.size + 1 + 1, 0, none⟩ (.iface 48 (.int .i64 er))).drew) ∧ PaX w .ret (pre ++ [x]) ((((W2.setCell ⟨w.heap.size, 0, none⟩ (.slice none 0 0)).setCell ⟨w.heap.size + 1, 0, none⟩ (.int .i64 (L.length : Int))).setCell ⟨w.heap.size + 1 + 1, 0, none⟩ (.iface 48 (.int .i64 er))).drew)) := by
        refine ⟨(((((wothers_of_below HBL2.out).trans (KeepsOthers.setCell _ _ _)).trans (KeepsOthers.setCell _ _ _)).trans (KeepsOthers.setCell _ _ _)).trans (KeepsOthers.drew _)).from _, rfl, ⟨er, L.length, he, ⟨((HBV2.out.set _).other (by omega) _).other (by omega) _, ((HBU2.out.other (by omega) _).set _).other (by omega) _, ((HBE2.out.other (by omega) _).other (by omega) _).set _⟩, fun rest => ?_⟩, ?_⟩
        · rw [lnsU_snoc, List.append_assoc, HPAR.out, List.singleton_append, parse_stop (r := rtO (p, q, t)) (er := er) (by rw [← HXS.out]; exact HLP.out) he, rts_len]
        · have h5 := HX5.out
          have hbm : Below w.heap.size X W2 := HBL2.out.mono (by omega)
          exact HBX.out.trans ((((hbm.setCell (p := ⟨w.heap.size, 0, none⟩) (Nat.le_refl _) _).setCell (p := ⟨w.heap.size + 1, 0, none⟩) (by show w.heap.size ≤ w.heap.size + 1; omega) _).setCell (p := ⟨w.heap.size + 1 + 1, 0, none⟩) (by show w.heap.size ≤ w.heap.size + 1 + 1; omega) _).drew)
      gi_region
      all_goals gi_wp2_with fail
      all_goals exact HFX.out
  case done =>
    rintro D xs X hD hS ⟨⟨v, L, bL, hown, hSz, h20, hpar⟩, ⟨bV, bU, bE⟩, hX5, hBX⟩ hX
    obtain ⟨sa, sc, hv⟩ := rown_shape hown
    subst hv
    have cL := bL.cell
    have cV := bV.cell
    have fV := bV.frozen
    have cU := bU.cell
    have fU := bU.frozen
    have cE := bE.cell
    have fE := bE.frozen
    have HS := vl hS
    have HPAR := vl hpar
    have HSZ := vl hSz
    have HBV := vl bV
    have HBU := vl bU
    have HBE := vl bE
    have HBX := vl hBX
    have HOWN := vl hown
    have HX := vl hX
    have HD := vl hD
    have HX5 := vl hX5
    clear hS bV bU bE hBX hown hX hD b0 b1 b2 b3 bB hB0 hpar hSz h00 bL
    gi_wp2_with fail
    obtain ⟨X6, hX6⟩ : ∃ X6, X6 = ((X.setCell ⟨w.heap.size, 0, none⟩ (.slice sa L.length sc)).setCell ⟨w.heap.size + 1, 0, none⟩ (.int .i64 0)).setCell ⟨w.heap.size + 1 + 1, 0, none⟩ .nilIface := ⟨_, rfl⟩
    have e0 : Boxed X6 w.heap.size 22 (.slice sa L.length sc) := by rw [hX6]; exact ((HBV.out.set _).other (by omega) _).other (by omega) _
    have e1 : Boxed X6 (w.heap.size + 1) 3 (.int .i64 0) := by rw [hX6]; exact ((HBU.out.other (by omega) _).set _).other (by omega) _
    have e2 : Boxed X6 (w.heap.size + 1 + 1) 26 .nilIface := by rw [hX6]; exact ((HBE.out.other (by omega) _).other (by omega) _).set _
    have hK6 : KeepsOthers X X6 := by rw [hX6]; exact ((KeepsOthers.setCell _ _ _).trans (KeepsOthers.setCell _ _ _)).trans (KeepsOthers.setCell _ _ _)
    have hB6 : Below w.heap.size w X6 := by rw [hX6]; exact ((HBX.out.setCell (p := ⟨w.heap.size, 0, none⟩) (Nat.le_refl _) _).setCell (p := ⟨w.heap.size + 1, 0, none⟩) (by show w.heap.size ≤ w.heap.size + 1; omega) _).setCell (p := ⟨w.heap.size + 1 + 1, 0, none⟩) (by show w.heap.size ≤ w.heap.size + 1 + 1; omega) _
    have hO6 : ROwn X6 (w.heap.size + 5) (.slice sa L.length sc) L := by
      have h1 := HOWN.out.kept (grownBy_setCell' X w.heap.size (.slice sa L.length sc)) (.inr (fun e => by have := wowns_base HOWN.out _ e; omega))
      have h2 := h1.kept (grownBy_setCell' _ (w.heap.size + 1) (.int .i64 0)) (.inr (fun e => by have := wowns_base h1 _ e; omega))
      have h3 := h2.kept (grownBy_setCell' _ (w.heap.size + 1 + 1) .nilIface) (.inr (fun e => by have := wowns_base h2 _ e; omega))
      rw [hX6]
      exact h3
    rw [← hX6]
    clear hX6
    have hX2 : X6.heap[D]? = some (.deferred (some [])) := hK6.same D _ HX.out rfl
    refine ⟨by simp, .inl ⟨_, _, rfl, run_takeDeferred (b := D) (ds := []) hX2, ?_⟩⟩
    have hD := HD.out
    have k0 := (show Boxed (X6.putObj D (.deferred none)) w.heap.size 22 (.slice sa L.length sc) from (World.putObj_heap_other (by omega)).trans e0).cell
    have k1 := (show Boxed (X6.putObj D (.deferred none)) (w.heap.size + 1) 3 (.int .i64 0) from (World.putObj_heap_other (by omega)).trans e1).cell
    have k2 := (show Boxed (X6.putObj D (.deferred none)) (w.heap.size + 1 + 1) 26 .nilIface from (World.putObj_heap_other (by omega)).trans e2).cell
    have hO7 := wowns_turn hO6 (grownBy_putObj' X6 D (.deferred none)) (fun r e' => by cases e'; exact ⟨_, hX2, rfl⟩)
    refine ⟨.tuple #[.slice sa L.length sc, .int .i64 0, .nilIface], by simp [results, Tryd.results16, go_sem, k0, k1, k2], ⟨L, sa, sc, 0, 0, rfl, (rown_row hO7).2, HSZ.out, ?_⟩, ?_⟩
    · unfold parseR
      have := HPAR.out []
      rw [List.append_nil, HS.out] at this
      exact this
    · exact hB6.trans (belowK_b (w := W0) (by omega) _ D _ _ hD hX2 rfl rfl)
  case stop =>
    rintro D c pre X hD ⟨rs, hsp⟩ ⟨rfl, ⟨er, k, he, ⟨b0', b1', b2'⟩, hpar⟩, hBX⟩ hX
    gi_wp2
    refine ⟨by simp, .inl ⟨_, _, rfl, run_takeDeferred (b := D) (ds := []) hX, ?_⟩⟩
    have k0 := (show Boxed (X.putObj D (.deferred none)) w.heap.size 22 (.slice none 0 0) from (World.putObj_heap_other (by omega)).trans b0').cell
    have k1 := (show Boxed (X.putObj D (.deferred none)) (w.heap.size + 1) 3 (.int .i64 (k : Int)) from (World.putObj_heap_other (by omega)).trans b1').cell
    have k2 := (show Boxed (X.putObj D (.deferred none)) (w.heap.size + 1 + 1) 26 (.iface 48 (.int .i64 er)) from (World.putObj_heap_other (by omega)).trans b2').cell
    refine ⟨.tuple #[.slice none 0 0, .int .i64 (k : Int), .iface 48 (.int .i64 er)], by simp [results, Tryd.results16, go_sem, k0, k1, k2], ⟨[], none, 0, k, er, ?_, Or.inl ⟨rfl, rfl⟩, szl_nil, ?_⟩, ?_⟩
    · rw [errW_pos he]; rfl
    · unfold parseR
      rw [← hsp]
      exact hpar rs
    · exact hBX.trans (belowK_b (w := W0) (by omega) _ D _ _ hD hX rfl rfl)
/-- route.Parse, whole. -/
theorem wparse_any (T : ByteArray) (w : World) (hT : T.size ≤ 140737488351232) : Calls Tryd.prog 16 #[.string T] w fun e w' => PaE (unums T) e w' ∧ Below w.heap.size w w' := callsIn_wide.1 (wparse_in T w hT)
end Go.Proofs.YtmjdfbbhlbecdaaDoor
