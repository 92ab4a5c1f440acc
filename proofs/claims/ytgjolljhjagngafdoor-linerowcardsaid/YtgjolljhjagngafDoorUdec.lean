/-
  CONTRACT of the Go function chunk.Decode. No claim by itself.
-/
import Derived.Test.YtgjolljhjagngafDoorUd5
import Derived.BigRegion
namespace Go.Proofs.YtgjolljhjagngafDoor
open Go Go.RowKit Go.Shelf
set_option maxRecDepth 100000
attribute [local go_sem] Oper.semAt_some
/-- What holds behind the pieces xs. -/
def UdI (w : World) (xs : List (PX w)) (W : World) : Prop :=
  (∃ v, Boxed W w.heap.size 22 v ∧ W.ownsRow (w.heap.size + 4) 5 1 v (allP xs).length ((allP xs).map (Value.int .u8))) ∧
  (Boxed W (w.heap.size + 1) 3 (.int .i64 (sumU xs : Int)) ∧ Boxed W (w.heap.size + 2) 24 .nilIface) ∧ (∀ y ∈ xs, y.1.er = .nilIface) ∧ w.heap.size + 4 ≤ W.heap.size ∧ Below w.heap.size w W
/-- What holds where an error came. -/
def UdX (w : World) (c : Code) (xs : List (PX w)) (W : World) : Prop :=
  c = .ret ∧ (∃ q y e, xs = q ++ [y] ∧ e ≠ 0 ∧ y.1.er = .iface 58 (.int .i64 e) ∧ Boxed W (w.heap.size + 2) 24 (.iface 58 (.int .i64 e))) ∧
  (Boxed W w.heap.size 22 (.slice none 0 0) ∧ Boxed W (w.heap.size + 1) 3 (.int .i64 0)) ∧ Below w.heap.size w W
theorem ubx_own {X Y : World} {row : Option Nat} {B b : Nat} {t : TypeId} {v : Value} (h : Boxed X B t v) (hg : X.grownBy Y row) (hr : ∀ r, row = some r → b ≤ r ∧ ∃ o : Obj, X.heap[r]? = some o ∧ o.isCells = false) : Boxed Y B t v :=
  boxed_own (β := Unit) B t (fun _ => v) () X Y row h hg (fun r e => (hr r e).2)
theorem uowns_turn {X Y : World} {row : Option Nat} {b s k : Nat} {e : TypeId} {v : Value} {xs : List Value} (hr : X.ownsRow b e s v k xs) (hg : X.grownBy Y row) (hrow : ∀ r, row = some r → ∃ o : Obj, X.heap[r]? = some o ∧ o.isCells = false) : Y.ownsRow b e s v k xs := by
  refine hr.kept hg ?_
  rcases hr.2 with ⟨rfl, _⟩ | ⟨g, cap, cur, rfl, _, hgb, _⟩
  · exact .inl rfl
  · refine .inr fun e' => ?_
    obtain ⟨o, ho, hc⟩ := hrow g (by simpa [Value.ownBlock] using e'.symm)
    rw [hgb] at ho; cases ho; cases hc
theorem allP_len {w : World} (l : List (PX w)) : (allP l).length ≤ 8000 * l.length := by
  induction l with
  | nil => simp [allP]
  | cons x r ih =>
    have e : allP (x :: r) = x.1.P ++ allP r := by simp [allP]
    have := x.2.small
    rw [e, List.length_append, List.length_cons]
    omega
theorem sumU_le {w : World} (l : List (PX w)) : sumU l ≤ 281474976710656 * l.length := by
  induction l with
  | nil => simp [sumU]
  | cons x r ih =>
    have := x.2.used
    rw [sumU, List.length_cons]
    omega
theorem arg_news {w : World} {o : Addr} {n c : Nat} {P : List Int} (h : Arg w (some o) n c P) : ∀ j u, (P.map (Value.int .u8))[j]? = some u → w.cell? (o.add j) = some u := by
  rcases h with ⟨_, rfl⟩ | ⟨g, off, he, hr⟩
  · intro j u hj; simp at hj
  · cases he; exact u_news hr
theorem not_row2 {W : World} {k base size n : Nat} {cs : Array Value} {t e : TypeId} {fr : Nat × Nat} {v : Value} {xs : List Value} (h : W.heap[k]? = some (.cells cs t fr)) (hte : t ≠ e) (hr : W.ownsRow base e size v n xs) : some k ≠ v.ownBlock := by
  intro he
  obtain ⟨_, ⟨rfl, _⟩ | ⟨g, cap, cur, rfl, _, hc, _⟩⟩ := hr
  · cases he
  · cases he
    rw [h] at hc
    cases hc
    exact hte rfl
theorem owns_shape {W : World} {base size n : Nat} {e : TypeId} {v : Value} {xs : List Value} (hr : W.ownsRow base e size v n xs) : ∃ a m c, v = .slice a m c := by
  obtain ⟨_, ⟨rfl, _⟩ | ⟨g, cap, cur, rfl, _, hc, _⟩⟩ := hr
  · exact ⟨_, _, _, rfl⟩
  · exact ⟨_, _, _, rfl⟩
theorem owns_others {W W' : World} {base size n : Nat} {e : TypeId} {v : Value} {xs : List Value} (hr : W.ownsRow base e size v n xs) (hg : W.grownBy W' v.ownBlock) : KeepsOthers W W' :=
  KeepsOthers.of_grownBy hg fun j o hj ho => by
    obtain ⟨_, ⟨rfl, _⟩ | ⟨g, cap, cur, rfl, _, hc, _⟩⟩ := hr
    · cases hj
    · cases hj
      rw [hc] at ho
      cases ho
      rfl
theorem owns_base {W : World} {base size n : Nat} {e : TypeId} {v : Value} {xs : List Value} (hr : W.ownsRow base e size v n xs) (k : Nat) (hk : v.ownBlock = some k) : base ≤ k := by
  obtain ⟨_, ⟨rfl, _⟩ | ⟨g, cap, cur, rfl, hb, _⟩⟩ := hr
  · cases hk
  · cases hk; exact hb
set_option maxHeartbeats 4000000 in
theorem udec_in (a : Option Addr) (len cap : Nat) (Z : List Int) (w : World) (hA : Arg w a len cap Z) (hl : len ≤ 281474976710656) :
    CallsIn Fence.wide 9 Tryd.prog 9 #[.slice a len cap] w fun e w' => ∃ v, e = .returned (.tuple #[v, .int .i64 (unchF Z).2.2, errW (unchF Z).1]) ∧ UOwn w' w.heap.size v (unchF Z).2.1 ∧ Below w.heap.size w w' := by
  obtain ⟨i0, hi, hz0, hz1, hz2⟩ := info_parts u_info5
  have HA := vl hA
  have HI := vl hi
  have HZ : Vl (i0.zero = some (.int .u8 0) ∧ i0.size = 1 ∧ i0.bytes = 1) := ⟨hz0, hz1, hz2⟩
  clear hA hi hz0 hz1 hz2
  refine callsIn_of_wp_marks Tryd.func9 rfl trivial ?_ rfl
  simp only [Tryd.ntmps9, List.size_toArray, List.length_cons, List.length_nil, Nat.reduceAdd, Nat.reduceSub, Array.replicate_succ, Array.replicate_zero, List.push_toArray, List.append_toArray, List.nil_append, List.cons_append]
  gi_wp2_with (refine ⟨trivial, ?_⟩; gi_at_call 29; refine (callsIn_wide.2 (pieces_call _ _ _ _)).mono ?_; rintro e w' ⟨rfl, rfl⟩)
  have b0 := (((Boxed.new w 22 (.slice none 0 0)).alloc (Obj.cells #[Value.int IntKind.i64 0] 3)).alloc (Obj.cells #[Value.nilIface] 24)).alloc (Obj.cells #[Value.slice a len cap] 22)
  have b1 := ((Boxed.new (w.alloc (Obj.cells #[Value.slice none 0 0] 22)) 3 (.int .i64 0)).alloc (Obj.cells #[Value.nilIface] 24)).alloc (Obj.cells #[Value.slice a len cap] 22)
  have b2 := (Boxed.new ((w.alloc (Obj.cells #[Value.slice none 0 0] 22)).alloc (Obj.cells #[Value.int IntKind.i64 0] 3)) 24 .nilIface).alloc (Obj.cells #[Value.slice a len cap] 22)
  have bB := Boxed.new (((w.alloc (Obj.cells #[Value.slice none 0 0] 22)).alloc (Obj.cells #[Value.int IntKind.i64 0] 3)).alloc (Obj.cells #[Value.nilIface] 24)) 22 (.slice a len cap)
  have hB0 : Below w.heap.size w ((((w.alloc (Obj.cells #[Value.slice none 0 0] 22)).alloc (Obj.cells #[Value.int IntKind.i64 0] 3)).alloc (Obj.cells #[Value.nilIface] 24)).alloc (Obj.cells #[Value.slice a len cap] 22)) := ((((Below.refl _ w).alloc (Nat.le_refl _) _).alloc (by simp) _).alloc (by simp; omega) _).alloc (by simp; omega) _
  have hsz : ((((w.alloc (Obj.cells #[Value.slice none 0 0] 22)).alloc (Obj.cells #[Value.int IntKind.i64 0] 3)).alloc (Obj.cells #[Value.nilIface] 24)).alloc (Obj.cells #[Value.slice a len cap] 22)).heap.size = w.heap.size + 4 := by simp
  simp only [World.size_alloc] at b1 b2 bB
  obtain ⟨W0, hW0⟩ : ∃ W0, ((((w.alloc (Obj.cells #[Value.slice none 0 0] 22)).alloc (Obj.cells #[Value.int IntKind.i64 0] 3)).alloc (Obj.cells #[Value.nilIface] 24)).alloc (Obj.cells #[Value.slice a len cap] 22)) = W0 := ⟨_, rfl⟩
  rw [hW0] at b0 b1 b2 bB hB0 hsz ⊢
  clear hW0
  refine wpIn_rangeFunc_ownH (N := 8002) rfl (by decide) (gf := 73) (lb := #[.pointer (some ⟨w.heap.size + 1 + 1 + 1, 0, none⟩)]) rfl trivial (enters_of Tryd.func73 (by kernel_rfl) rfl)
    (pieces_stops 8 (by decide) (w.heap.size + 1 + 1 + 1) w a len cap Z HA.out hl W0 hB0 bB)
    KpP.trans (fun W l o o' h1 h2 h3 h4 => KpP.put (w := W0) (by omega) W l o o' h1 h2 h3 h4) (Below.refl _ _) (fun _ => rfl)
    (UdI w) (UdX w)
    ?hI ?hIx ⟨⟨_, b0, World.ownsRow_nil _ _ _ _⟩, ⟨b1, b2⟩, (fun y hy => by cases hy), by omega, hB0⟩
    (fun x a' X => ∃ B, w.heap.size + 4 ≤ B ∧ a' = { tmps := #[Value.slice a len cap, undef, Value.pointer (some ⟨w.heap.size, 0, none⟩), Value.pointer (some ⟨w.heap.size + 1, 0, none⟩), Value.pointer (some ⟨w.heap.size + 1 + 1, 0, none⟩), Value.pointer (some ⟨B, 0, none⟩), x.1.er, Value.slice a len cap, Value.func (Fn.func 73) #[] #[Value.pointer (some ⟨w.heap.size + 1 + 1 + 1, 0, none⟩)], .agg #[x.1.sl, .int .i64 (x.1.used : Int)], x.1.er, undef, undef, undef, undef, undef, undef, undef, undef, undef, undef, undef, undef, undef], defers := [] } ∧ X.heap[B]? = some (.cells #[x.1.sl, .int .i64 (x.1.used : Int)] 67 (0, 0)))
    ?hAx ?assign ?body ?done ?stop
  case hI =>
    rintro s X Y row ⟨⟨v, h1, h2⟩, ⟨h3, h4⟩, h5, h7, hbl⟩ hgr hr
    exact ⟨⟨v, ubx_own h1 hgr hr, uowns_turn h2 hgr (fun r e => (hr r e).2)⟩, ⟨ubx_own h3 hgr hr, ubx_own h4 hgr hr⟩, h5, Nat.le_trans h7 hgr.size, (ownFrom_below (β := Unit) (Nat.le_refl _) (by omega)) () X Y row hbl hgr hr⟩
  case hIx =>
    rintro c s X Y row ⟨hc, ⟨q, y, e, h1, h2, h3, h4⟩, ⟨h5, h6⟩, hbl⟩ hgr hr
    exact ⟨hc, ⟨q, y, e, h1, h2, h3, ubx_own h4 hgr hr⟩, ⟨ubx_own h5 hgr hr, ubx_own h6 hgr hr⟩, (ownFrom_below (β := Unit) (Nat.le_refl _) (by omega)) () X Y row hbl hgr hr⟩
  case hAx =>
    rintro x a' s X Y row ⟨B, hB, ha, hT⟩ hgr hr
    refine ⟨B, hB, ha, (hgr.block B (Array.getElem?_eq_some_iff.1 hT).1 (fun e => ?_)).trans hT⟩
    obtain ⟨_, o, ho, hc⟩ := hr B e.symm
    rw [hT] at ho; cases ho; cases hc
  case assign =>
    intro l pre x X K hI hK
    have hsl : ∃ a n c, x.1.sl = .slice a n c := by
      rcases x.2.kind with ⟨_, o, c, h, _⟩ | ⟨_, _, _, h, _⟩
      · exact ⟨_, _, _, h⟩
      · exact ⟨_, _, _, h⟩
    obtain ⟨sa, sn, sc, hsl⟩ := hsl
    have HI1 := vl hI
    have HKK := vl hK
    have HXS := vl hsl
    clear hI hK
    dsimp only [pxV]
    rw [hsl]
    clear hsl
    gi_wp2
    have hal := World.grownBy_alloc X (.cells #[.slice sa sn sc, .int .i64 (x.1.used : Int)] 67) none
    have hbl : Below X.heap.size X (X.alloc (.cells #[.slice sa sn sc, .int .i64 (x.1.used : Int)] 67)) := (Below.refl _ X).alloc (Nat.le_refl _) _
    obtain ⟨⟨v, h1, h2⟩, ⟨h3, h4⟩, h5, h7, h6⟩ := HI1.out
    have h6s := h6.size
    have hlt := h4.lt
    refine HKK.out _ _ ((others_of_below hbl).from _) ⟨hbl.mono h6s, fun k a n c y hk => (hbl.block k (Array.getElem?_eq_some_iff.1 hk).1).trans hk⟩ ⟨⟨v, h1.alloc _, h2.alloc _⟩, ⟨h3.alloc _, h4.alloc _⟩, h5, by simp; omega, h6.alloc (by omega) _⟩ ⟨X.heap.size, ?_, ?_, ?_⟩
    · exact h7
    · rw [HXS.out]
    · rw [HXS.out]; exact heap_alloc_new _ _
  case body =>
    rintro l pre x a' X hl1 hl2 ⟨⟨v, bV, hown⟩, ⟨bU, bE⟩, hall, hX4, hBX⟩ ⟨B, hB, rfl, hT⟩ hlt
    have cV := bV.cell
    have fV := bV.frozen
    have cU := bU.cell
    have fU := bU.frozen
    have cE := bE.cell
    have fE := bE.frozen
    have HALL := vl hall
    have HBV := vl bV
    have HBU := vl bU
    have HBE := vl bE
    have HBX := vl hBX
    have HOWN := vl hown
    have HT := vl hT
    have HV := vl x.2
    clear hall bV bU bE hBX hown hT b0 b1 b2 bB hB0
    rcases HV.out.kind with ⟨her, o, c, hsl, hAx⟩ | ⟨e, he0, her, hsl, hP0, hu0⟩
    · have HAX := vl (arg_news (hAx.below HBX.out))
      have HER := vl her
      have HP := vl (allP_snoc pre x)
      have HS := vl (sumU_snoc pre x)
      have hpl := allP_len pre
      have hul := sumU_le pre
      have hP8 := HV.out.small
      have hU8 := HV.out.used
      obtain ⟨PL, hPL⟩ : ∃ PL, PL = allP pre := ⟨_, rfl⟩
      obtain ⟨U, hU⟩ : ∃ U, U = sumU pre := ⟨_, rfl⟩
      obtain ⟨P, hP⟩ : ∃ P, P = x.1.P := ⟨_, rfl⟩
      obtain ⟨u, hu⟩ : ∃ u, u = x.1.used := ⟨_, rfl⟩
      rw [← hPL] at HOWN HP hpl
      rw [← hU] at HBU HS hul cU
      rw [← hP] at HAX HP hP8 hsl
      rw [← hu] at HS hU8 HT ⊢
      rw [hsl] at HT ⊢
      rw [her]
      obtain ⟨t0, t1, _, _⟩ := pb_cell HT.out
      clear hPL hU hP hu hsl her hAx HA
      gi_wp2_with (gi_at_builtin; refine wpListIn_append_own _ rfl _ _ 22 rfl (w.heap.size + 4) 5 i0 (.int .u8 0) 1 1 Tryd.underlying22 HI.out HZ.out.1 HZ.out.2.1 HZ.out.2.2 rfl (by decide) v PL.length _ rfl HOWN.out o P.length c (P.map (Value.int .u8)) rfl (by simp) HAX.out (u_one P) (by unfold maxLen; omega) (by omega) hX4 ?_)
      intro v3 w3 hown3 hgrow3 _
      obtain ⟨sa, sn, sc, rfl⟩ := owns_shape hown3
      have bV3 : Boxed w3 w.heap.size 22 v := HBV.out.kept hgrow3 (HBV.out.not_row (by decide) HOWN.out)
      have bU3 : Boxed w3 (w.heap.size + 1) 3 (.int .i64 U) := HBU.out.kept hgrow3 (HBU.out.not_row (by decide) HOWN.out)
      have bE3 : Boxed w3 (w.heap.size + 2) 24 .nilIface := HBE.out.kept hgrow3 (HBE.out.not_row (by decide) HOWN.out)
      have hT3 : w3.heap[B]? = some (.cells #[.slice (some o) P.length c, .int .i64 u] 67 (0, 0)) := (hgrow3.block B (Array.getElem?_eq_some_iff.1 HT.out).1 (not_row2 HT.out (by decide) HOWN.out)).trans HT.out
      have hT4 : (w3.setCell ⟨w.heap.size, 0, none⟩ (.slice sa sn sc)).heap[B]? = some (.cells #[.slice (some o) P.length c, .int .i64 u] 67 (0, 0)) := (Below.heap_setCell _ _ _ _ (by show B ≠ w.heap.size; omega)).trans hT3
      obtain ⟨_, t3, _, _⟩ := pb_cell hT4
      have cV3 := bV3.cell
      have fV3 := bV3.frozen
      have bU4 := bU3.other (B' := w.heap.size) (by omega) (.slice sa sn sc)
      have cU4 := bU4.cell
      have fU4 := bU4.frozen
      have HFIN : Vl (KeepsFrom (w.heap.size + 4) X ((w3.setCell ⟨w.heap.size, 0, none⟩ (.slice sa sn sc)).setCell ⟨w.heap.size + 1, 0, none⟩ (.int .i64 ((U : Int) + (u : Int)))) ∧ KpP w.heap.size X ((w3.setCell ⟨w.heap.size, 0, none⟩ (.slice sa sn sc)).setCell ⟨w.heap.size + 1, 0, none⟩ (.int .i64 ((U : Int) + (u : Int)))) ∧ UdI w (pre ++ [x]) ((w3.setCell ⟨w.heap.size, 0, none⟩ (.slice sa sn sc)).setCell ⟨w.heap.size + 1, 0, none⟩ (.int .i64 ((U : Int) + (u : Int))))) := by
        have hb3 : Below w.heap.size X w3 := u_below_grown (Below.refl _ _) hgrow3 (by omega) (fun k hk => by have := owns_base HOWN.out k hk; omega)
        have hb5 : Below w.heap.size X ((w3.setCell ⟨w.heap.size, 0, none⟩ (.slice sa sn sc)).setCell ⟨w.heap.size + 1, 0, none⟩ (.int .i64 ((U : Int) + (u : Int)))) := (hb3.setCell (p := ⟨w.heap.size, 0, none⟩) (Nat.le_refl _) _).setCell (p := ⟨w.heap.size + 1, 0, none⟩) (by show w.heap.size ≤ w.heap.size + 1; omega) _
        refine ⟨(((owns_others HOWN.out hgrow3).trans (KeepsOthers.setCell _ _ _)).trans (KeepsOthers.setCell _ _ _)).from _, ⟨hb5, fun k a n c y hk => ?_⟩, ⟨_, (bV3.set _).other (by omega) _, ?_⟩, ⟨?_, (bE3.other (by omega) _).other (by omega) _⟩, fun y hy => ?_, Nat.le_trans hX4 hb5.size, HBX.out.trans hb5⟩
        · have hk3 : w3.heap[k]? = some (.cells #[.slice a n c, y] 67 (0, 0)) := (hgrow3.block k (Array.getElem?_eq_some_iff.1 hk).1 (not_row2 hk (by decide) HOWN.out)).trans hk
          have k0 : k ≠ w.heap.size := by
            rintro rfl
            rw [show w3.heap[w.heap.size]? = _ from bV3] at hk3
            simp at hk3
          have k1 : k ≠ w.heap.size + 1 := by
            rintro rfl
            rw [show w3.heap[w.heap.size + 1]? = _ from bU3] at hk3
            simp at hk3
          rw [Below.heap_setCell _ _ _ _ (by exact k1), Below.heap_setCell _ _ _ _ (by exact k0)]
          exact hk3
        · rw [HP.out, List.length_append, List.map_append]
          have h1 := hown3.kept (grownBy_setCell' w3 w.heap.size (.slice sa sn sc)) (.inr (bV3.not_row (by decide) hown3).symm)
          exact h1.kept (grownBy_setCell' _ (w.heap.size + 1) _) (.inr (bU4.not_row (by decide) h1).symm)
        · rw [HS.out]
          have := bU4.set (.int .i64 ((U : Int) + (u : Int)))
          simpa using this
        · rcases List.mem_append.1 hy with h | h
          · exact HALL.out y h
          · rw [List.mem_singleton.1 h]; exact HER.out
      clear hown3 hgrow3 bV3 bU3 bE3 hT3 hT4 bU4
      gi_wp2
      obtain ⟨z1, z2, z3⟩ := HFIN.out
      exact ⟨by rw [hsz]; exact z1, z2, z3⟩
    · rw [her]
      have HER := vl her
      gi_wp2
      refine ⟨(((KeepsOthers.setCell _ _ _).trans (KeepsOthers.setCell _ _ _)).trans (KeepsOthers.setCell _ _ _)).from _, rfl, ⟨pre, x, e, rfl, he0, HER.out, ((HBE.out.other (by omega) _).other (by omega) _).set _⟩, ⟨((HBV.out.set _).other (by omega) _).other (by omega) _, ((HBU.out.other (by omega) _).set _).other (by omega) _⟩, ((HBX.out.setCell (Nat.le_refl _) _).setCell (by show w.heap.size ≤ w.heap.size + 1; omega) _).setCell (by show w.heap.size ≤ w.heap.size + 1 + 1; omega) _⟩
  case done =>
    rintro D xs X hD hS ⟨⟨v, bV, hown⟩, ⟨bU, bE⟩, hall, hX4, hBX⟩ hX
    obtain ⟨sa, sn, sc, rfl⟩ := owns_shape hown
    have cV := bV.cell
    have fV := bV.frozen
    have cU := bU.cell
    have fU := bU.frozen
    have cE := bE.cell
    have fE := bE.frozen
    have HS := vl hS
    have HALL := vl hall
    have HBV := vl bV
    have HBU := vl bU
    have HBE := vl bE
    have HBX := vl hBX
    have HOWN := vl hown
    have HX := vl hX
    have HD := vl hD
    clear hS hall bV bU bE hBX hown hX hD b0 b1 b2 bB hB0
    gi_wp2_with fail
    refine wpIn_wide.2 ?_
    go_region
    obtain ⟨X6, hX6⟩ : ∃ X6, X6 = (((X.setCell ⟨w.heap.size, 0, none⟩ (.slice sa sn sc)).setCell ⟨w.heap.size + 1, 0, none⟩ (.int .i64 (sumU xs : Int))).setCell ⟨w.heap.size + 1 + 1, 0, none⟩ .nilIface).drew := ⟨_, rfl⟩
    have e0 : Boxed X6 w.heap.size 22 (.slice sa sn sc) := by rw [hX6]; exact ((HBV.out.set _).other (by omega) _).other (by omega) _
    have e1 : Boxed X6 (w.heap.size + 1) 3 (.int .i64 (sumU xs : Int)) := by rw [hX6]; exact ((HBU.out.other (by omega) _).set _).other (by omega) _
    have e2 : Boxed X6 (w.heap.size + 1 + 1) 24 .nilIface := by rw [hX6]; exact ((HBE.out.other (by omega) _).other (by omega) _).set _
    have hK6 : KeepsOthers X X6 := by rw [hX6]; exact (((KeepsOthers.setCell _ _ _).trans (KeepsOthers.setCell _ _ _)).trans (KeepsOthers.setCell _ _ _)).trans (KeepsOthers.drew _)
    have hB6 : Below w.heap.size w X6 := by rw [hX6]; exact (((HBX.out.setCell (p := ⟨w.heap.size, 0, none⟩) (Nat.le_refl _) _).setCell (p := ⟨w.heap.size + 1, 0, none⟩) (by show w.heap.size ≤ w.heap.size + 1; omega) _).setCell (p := ⟨w.heap.size + 1 + 1, 0, none⟩) (by show w.heap.size ≤ w.heap.size + 1 + 1; omega) _).drew
    have hO6 : X6.ownsRow (w.heap.size + 4) 5 1 (.slice sa sn sc) (allP xs).length ((allP xs).map (Value.int .u8)) := by
      have h1 := HOWN.out.kept (grownBy_setCell' X w.heap.size (.slice sa sn sc)) (.inr (HBV.out.not_row (by decide) HOWN.out).symm)
      have h2 := h1.kept (grownBy_setCell' _ (w.heap.size + 1) (.int .i64 (sumU xs : Int))) (.inr ((HBU.out.other (by omega) _).not_row (by decide) h1).symm)
      have h3 := h2.kept (grownBy_setCell' _ (w.heap.size + 1 + 1) .nilIface) (.inr (((HBE.out.other (by omega) _).other (by omega) _).not_row (by decide) h2).symm)
      rw [hX6]
      exact uowns_turn h3 (grown_drew _) (fun r e => by cases e)
    rw [← hX6]
    clear hX6
    gi_wp2
    have hX2 : X6.heap[D]? = some (.deferred (some [])) := hK6.same D _ HX.out rfl
    refine ⟨by simp, .inl ⟨_, _, rfl, run_takeDeferred (b := D) (ds := []) hX2, ?_⟩⟩
    have hD := HD.out
    have k0 := (show Boxed (X6.putObj D (.deferred none)) w.heap.size 22 (.slice sa sn sc) from (World.putObj_heap_other (by omega)).trans e0).cell
    have k1 := (show Boxed (X6.putObj D (.deferred none)) (w.heap.size + 1) 3 (.int .i64 (sumU xs : Int)) from (World.putObj_heap_other (by omega)).trans e1).cell
    have k2 := (show Boxed (X6.putObj D (.deferred none)) (w.heap.size + 1 + 1) 24 .nilIface from (World.putObj_heap_other (by omega)).trans e2).cell
    have hun : unchF Z = (0, allP xs, (sumU xs : Int)) := by
      obtain ⟨q, y, hq, ⟨_, h⟩ | ⟨e, he0, hy, _⟩⟩ := HS.out
      · exact h
      · have := HALL.out y (by rw [hq]; simp)
        rw [hy] at this
        cases this
    refine ⟨.tuple #[.slice sa sn sc, .int .i64 (sumU xs : Int), .nilIface], by simp [results, Tryd.results9, go_sem, k0, k1, k2], .slice sa sn sc, ?_, ?_, ?_⟩
    · rw [hun]; rfl
    · rw [hun]
      refine UOwn.mono (UOwn.of (uowns_turn hO6 (grownBy_putObj' _ D _) (fun r e' => ?_))) (b := w.heap.size) (by omega)
      cases e'
      exact ⟨_, hX2, rfl⟩
    · exact hB6.trans (belowK_b (w := W0) (by omega) _ D _ _ hD hX2 rfl rfl)
  case stop =>
    rintro D c pre X hD ⟨q', y', hq', hsp⟩ ⟨rfl, ⟨q, y, e, rfl, he0, hy, b2'⟩, ⟨b0', b1'⟩, hBX⟩ hX
    gi_wp2
    refine ⟨by simp, .inl ⟨_, _, rfl, run_takeDeferred (b := D) (ds := []) hX, ?_⟩⟩
    have k0 := (show Boxed (X.putObj D (.deferred none)) w.heap.size 22 (.slice none 0 0) from (World.putObj_heap_other (by omega)).trans b0').cell
    have k1 := (show Boxed (X.putObj D (.deferred none)) (w.heap.size + 1) 3 (.int .i64 0) from (World.putObj_heap_other (by omega)).trans b1').cell
    have k2 := (show Boxed (X.putObj D (.deferred none)) (w.heap.size + 1 + 1) 24 (.iface 58 (.int .i64 e)) from (World.putObj_heap_other (by omega)).trans b2').cell
    obtain ⟨rfl, hy'⟩ := List.append_inj' hq' rfl
    cases hy'
    have hun := hsp e he0 hy
    refine ⟨.tuple #[.slice none 0 0, .int .i64 0, .iface 58 (.int .i64 e)], by simp [results, Tryd.results9, go_sem, k0, k1, k2], .slice none 0 0, ?_, ?_, ?_⟩
    · rw [hun]; unfold errW; rw [if_neg he0]
    · rw [hun]; exact Or.inl ⟨rfl, rfl⟩
    · exact hBX.trans (belowK_b (w := W0) (by omega) _ D _ _ hD hX rfl rfl)
/-- chunk.Decode, whole. -/
theorem udec_any : UDecSaid := fun a len cap Z w hA hl => callsIn_wide.1 (udec_in a len cap Z w hA hl)
end Go.Proofs.YtgjolljhjagngafDoor
