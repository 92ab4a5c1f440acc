/-
  WHAT WAS ANSWERED: the developers' namesOf. No claim by itself.
-/
import Derived.Maps.OwnSet
import Derived.Maps.OwnOps
import Derived.Maps.OwnIn
import Derived.Maps.Views
import Derived.WalkArith
import Derived.RangeFuncWrites
import Derived.Test.YtibipnipeaeonaaGreatDoorZy1X
import Derived.Test.YtibipnipeaeonaaGreatDoorZy2X
import Derived.Test.YtibipnipeaeonaaGreatDoorML
namespace Go.Proofs.YtibipnipeaeonaaGreatDoor
open Go Go.RowKit Go.Maps Go.Shelf
set_option maxRecDepth 100000
attribute [local go_sem] Oper.semAt_some
/- the names, counted in a map -/
theorem skl : Keyed Tryz.prog 9 := string_keyed Tryz.underlying9
theorem szero (w : World) : (zeroValue 3).run Tryz.prog w = .ok (.int .i64 0) w := by kernel_rfl
abbrev SDat := DataW Unit
def kyS (s : ByteArray) : Lit := .string s.data.toList
theorem ky_ok {s : ByteArray} (h : s.size ≤ 140737488351232) : keyOf Tryz.prog 9 (.string s) = some (kyS s) := Go.WideMaps.keyOf_string_mk Tryz.underlying9 (by unfold maxLen; omega)
theorem ky_inj {s t : ByteArray} (h : kyS s = kyS t) : unums s = unums t := by
  have : s.data.toList = t.data.toList := by unfold kyS at h; injection h
  unfold unums
  rw [this]
theorem nums_inj : ∀ {x y : List UInt8}, (x.map fun c => (c.toNat : Int)) = y.map (fun c => (c.toNat : Int)) → x = y
  | [], [], _ => rfl
  | [], _ :: _, h => by simp at h
  | _ :: _, [], h => by simp at h
  | a :: x, b :: y, h => by
    simp only [List.map_cons, List.cons.injEq] at h
    rw [byte_ne h.1, nums_inj h.2]
theorem ky_of {s t : ByteArray} (h : unums s = unums t) : kyS s = kyS t := by
  unfold kyS
  rw [nums_inj h]
structure Cnt (D : SDat) (nm : List (List Int)) : Prop where
  map : IsMap D
  at_ : ∀ s : ByteArray, D.atKey (kyS s) (.lit (.int .i64 0)) = .lit (.int .i64 (nm.count (unums s) : Nat))
theorem cnt_nil : Cnt (.map []) [] := ⟨⟨[], rfl⟩, fun _ => rfl⟩
theorem cnt_put {D : SDat} {nm : List (List Int)} (h : Cnt D nm) (s : ByteArray) : Cnt (D.put (kyS s) (.lit (.int .i64 ((nm.count (unums s) : Nat) + 1)))) (nm ++ [unums s]) := by
  refine ⟨?_, fun t => ?_⟩
  · obtain ⟨es, rfl⟩ := h.map
    exact ⟨_, rfl⟩
  · by_cases e : unums t = unums s
    · rw [ky_of e, atKey_put_same h.map (by unfold kyS; trivial), e, List.count_append]
      simp
    · rw [atKey_put_other (fun k => e (ky_inj k)), h.at_ t, List.count_append]
      have : List.count (unums t) [unums s] = 0 := List.count_eq_zero.2 (by simpa using e)
      rw [this, Nat.add_zero]
/-- The map in memory. -/
abbrev MOwn (w : World) (mb c : Nat) (D : SDat) : Prop := w.ownsMap Tryz.prog 9 (plainElem Tryz.prog 3) mb c D
theorem mown_below {w w' : World} {mb c : Nat} {D : SDat} (h : MOwn w mb c D) (hb : Below w.heap.size w w') : MOwn w' mb c D := by
  have hlt := h.lt
  obtain ⟨es, clock, h1, r⟩ := h
  exact ⟨es, clock, (hb.block mb hlt).trans h1, r⟩
theorem mown_look {w : World} {mb c : Nat} {D : SDat} {nm : List (List Int)} (h : MOwn w mb c D) (hc : Cnt D nm) {s : ByteArray} (hs : s.size ≤ 140737488351232) :
    (Instr.lookup 96 (.map (some mb)) (.string s) false).run Tryz.prog w = .ok (.int .i64 (nm.count (unums s) : Nat)) w := by
  obtain ⟨x, hrun, hat, _⟩ := h.lookup_int skl Tryz.underlying96 Tryz.underlying3 (szero _) (ky_ok hs)
  rw [hc.at_ s] at hat
  injection hat with e
  injection e with _ e
  rw [hrun, ← e]
def varyN : List Int := [118, 97, 114, 121]
/-- The names that a reply's vary says. -/
def namesL (l : List Fd) : List (List Int) := (cut2 44 32 (fstV l varyN)).filter tokL
/-- What holds behind the pieces pre. -/
def NmI (w : World) (b : Nat) (pre : List Ln) (W : World) : Prop :=
  (∃ D, MOwn W (w.heap.size + 1) ((lnsU pre).filter tokL).length D ∧ Cnt D ((lnsU pre).filter tokL)) ∧ Boxed W (w.heap.size + 2) 96 (.map (some (w.heap.size + 1))) ∧ b + 3 ≤ W.heap.size ∧ Below w.heap.size w W
theorem mown_same {w w' : World} {mb c : Nat} {D : SDat} (h : MOwn w mb c D) (hb : w'.heap[mb]? = w.heap[mb]?) : MOwn w' mb c D := by
  obtain ⟨es, clock, h1, r⟩ := h
  exact ⟨es, clock, hb.trans h1, r⟩
theorem zothers_of_below {w w' : World} (h : Below w.heap.size w w') : KeepsOthers w w' := ⟨h.size, fun k _ hk _ => (h.block k (Array.getElem?_eq_some_iff.1 hk).1).trans hk⟩
theorem nmI_box {w : World} {b : Nat} {pre : List Ln} {W : World} (hb : w.heap.size + 3 ≤ b) (h : NmI w b pre W) (u : Value) : NmI w b pre (W.setCell ⟨b, 0, none⟩ u) := by
  obtain ⟨⟨D, h1, h2⟩, h3, h4, h5⟩ := h
  exact ⟨⟨D, mown_same h1 (Below.heap_setCell _ _ _ _ (by show w.heap.size + 1 ≠ b; omega)), h2⟩, h3.other (by omega) _, by simpa [World.setCell] using h4, h5.setCell (p := ⟨b, 0, none⟩) (by show w.heap.size ≤ b; omega) _⟩
set_option maxHeartbeats 4000000 in
theorem znames_in (code : Int) (fa : Option Addr) (fl fc : Nat) (bv : Value) (L : List FB) (w : World) (hA : FArg w fa fl fc L) (hl : fl ≤ 4398046511104) (hs : ∀ t, (L.getD t fnone).1.size ≤ 140737488351232) (hm : mxP w) (hv : (fstV (fdsOf L) varyN).length < 4294967281) (hbv : ∃ p n c, bv = .slice p n c) :
    CallsIn Fence.wide 9 Tryz.prog 49 #[.agg #[.int .i64 code, .slice fa fl fc, bv]] w fun e w' => (∃ mb c D, e = .returned (.map (some mb)) ∧ w.heap.size ≤ mb ∧ MOwn w' mb c D ∧ Cnt D (namesL (fdsOf L))) ∧ Below w.heap.size w w' := by
  obtain ⟨bp, bn, bc, rfl⟩ := hbv
  have hmm := @run_makeMap Tryz.prog
  have HFV := vl (fun W (hb : Below w.heap.size w W) => zfv_any fa fl fc L ⟨#[118, 97, 114, 121]⟩ W (hA.below hb) hl hs)
  have HM := vl hm
  have HV := vl hv
  clear hA hs hm hv
  refine callsIn_of_wp_marks Tryz.func49 rfl trivial ?_ rfl
  simp only [Tryz.ntmps49, List.size_toArray, List.length_cons, List.length_nil, Nat.reduceAdd, Nat.reduceSub, Array.replicate_succ, Array.replicate_zero, List.push_toArray, List.append_toArray, List.nil_append, List.cons_append]
  gi_wp2_with fail
  obtain ⟨W1, hW1⟩ : ∃ x, (((w.alloc (.cells #[.int .i64 code, .slice fa fl fc, .slice bp bn bc] 38)).alloc (.map #[] 0)).alloc (.cells #[.map (some (w.heap.size + 1))] 96)) = x := ⟨_, rfl⟩
  have hB1 : Below w.heap.size w W1 := by rw [← hW1]; exact (((Below.refl _ w).alloc (Nat.le_refl _) _).alloc (by simp) _).alloc (by simp; omega) _
  have hO1 : MOwn W1 (w.heap.size + 1) 0 (.map []) := by
    rw [← hW1]
    have := World.ownsMap_made (H := Unit) (P := Tryz.prog) (w.alloc (.cells #[.int .i64 code, .slice fa fl fc, .slice bp bn bc] 38)) 9 (plainElem Tryz.prog 3)
    rw [World.size_alloc] at this
    exact this.alloc _
  have hX1 : Boxed W1 (w.heap.size + 2) 96 (.map (some (w.heap.size + 1))) := by
    rw [← hW1]
    have := Boxed.new ((w.alloc (.cells #[.int .i64 code, .slice fa fl fc, .slice bp bn bc] 38)).alloc (.map #[] 0)) 96 (.map (some (w.heap.size + 1)))
    simpa using this
  have hs1 : W1.heap.size = w.heap.size + 3 := by rw [← hW1]; simp
  rw [hW1]
  clear hW1 hmm
  refine ⟨trivial, ?_⟩
  refine (callsIn_wide.2 (HFV.out W1 hB1)).mono ?_
  rintro e w2 ⟨v, rfl, hv, hvs, hb2⟩
  have HB2 : Vl (Below w.heap.size w w2) := hB1.trans (hb2.mono hB1.size)
  have hO2 := mown_below hO1 hb2
  have hX2 : Boxed w2 (w.heap.size + 2) 96 (.map (some (w.heap.size + 1))) := (hb2.block _ hX1.lt).trans hX1
  have hs2 : w.heap.size + 3 ≤ w2.heap.size := by have := hb2.size; omega
  have HVV : Vl (unums v = fstV (fdsOf L) varyN) := hv
  have hvl : v.size < 4294967281 := by have := HV.out; rw [← HVV.out, unums_len] at this; exact this
  have hm2 := HM.out.below HB2.out
  have hgl : 3 < w.heap.size := by
    obtain ⟨m, hm⟩ := HM.out
    exact blk_of_cell hm
  clear hv hvs hb2 hO1 hX1 hB1 HFV hs1
  have HSP := vl (zsplit_any v w2)
  gi_wp2_with fail
  refine ⟨trivial, ?_⟩
  refine (callsIn_wide.2 HSP.out).mono ?_
  rintro e w3 ⟨rfl, hw3⟩
  have hB3 : Below w.heap.size w w3 := by rw [hw3]; exact ((HB2.out.alloc HB2.out.size _).alloc (by simp; omega) _).alloc (by simp; omega) _
  have hO3 : MOwn w3 (w.heap.size + 1) 0 (.map []) := by rw [hw3]; exact ((hO2.alloc _).alloc _).alloc _
  have hX3 : Boxed w3 (w.heap.size + 2) 96 (.map (some (w.heap.size + 1))) := by rw [hw3]; exact ((hX2.alloc _).alloc _).alloc _
  have hs3 : w3.heap.size = w2.heap.size + 3 := by rw [hw3]; simp
  have hSP : SpB w3 w2.heap.size v := by
    have q1 := ((Boxed.new w2 9 (.string v)).alloc (.cells #[.string ⟨#[44, 32]⟩] 9)).alloc (.cells #[.int .i64 0] 3)
    have q2 := (Boxed.new (w2.alloc (.cells #[.string v] 9)) 9 (.string ⟨#[44, 32]⟩)).alloc (.cells #[.int .i64 0] 3)
    have q3 := Boxed.new ((w2.alloc (.cells #[.string v] 9)).alloc (.cells #[.string ⟨#[44, 32]⟩] 9)) 3 (.int .i64 0)
    simp only [World.size_alloc] at q2 q3
    rw [hw3]
    refine ⟨q1, q2, q3, ?_⟩
    rw [← hw3]
    exact HM.out.below hB3
  clear hw3 HSP hO2 hX2 hm2
  obtain ⟨b, hb⟩ : ∃ b, w2.heap.size = b := ⟨_, rfl⟩
  rw [hb] at hs2 hs3 hSP
  have h00 : NmI w b [] w3 := ⟨⟨_, hO3, cnt_nil⟩, hX3, by omega, hB3⟩
  gi_wp2_with fail
  refine wpIn_range_bx2 (N := v.size + 1) (K := SpK b) rfl (by decide) (gf := 91) (lb := #[.pointer (some ⟨b + 1, 0, none⟩), .pointer (some ⟨b, 0, none⟩), .pointer (some ⟨b + 2, 0, none⟩)]) rfl trivial (enters_of Tryz.func91 (by kernel_rfl) rfl)
    (split_stops 8 (by decide) v hvl b (by omega) w3 hSP) (by omega) (fun k hk => by rcases hk with h | h | h | h <;> omega) (Below.refl _ _) (fun _ => rfl)
    (NmI w b) (fun _ _ _ => False) (fun pre u W1 h => nmI_box (by omega) h u) ?hI (fun c s X Y row h _ _ => h) h00 (fun x => { tmps := #[.agg #[.int .i64 code, .slice fa fl fc, .slice bp bn bc], .pointer (some ⟨w.heap.size, 0, none⟩), .map none, .pointer (some ⟨w.heap.size + 1 + 1, 0, none⟩), .string x.1, .map (some (w.heap.size + 1)), .pointer (some ⟨w.heap.size, 1, none⟩), .slice fa fl fc, .string v, .func (.func 91) #[] #[.pointer (some ⟨b + 1, 0, none⟩), .pointer (some ⟨b, 0, none⟩), .pointer (some ⟨b + 2, 0, none⟩)], .string x.1, undef, undef, undef, undef, undef, undef, undef], defers := [] }) ?assign ?body ?done ?stop
  case hI =>
    rintro s X Y row ⟨⟨D, h1, h2⟩, h3, h4, h5⟩ hgr hr
    have hne : ∀ k, k < w3.heap.size → k < X.heap.size → Y.heap[k]? = X.heap[k]? := fun k hk hk2 => hgr.block k hk2 (fun e => by have := (hr k e.symm).1; omega)
    exact ⟨⟨D, mown_same h1 (hne _ (by omega) (by omega)), h2⟩, (hne _ (by omega) h3.lt).trans h3, Nat.le_trans h4 hgr.size, ⟨hgr.os.trans h5.os, hgr.tape.trans h5.tape, hgr.output.trans h5.output, Nat.le_trans h5.size hgr.size, fun k hk => (hne k (by omega) (by omega)).trans (h5.block k hk)⟩⟩
  case assign =>
    intro l x X K hK
    dsimp only [lnV]
    gi_wp2
    exact hK
  case body =>
    rintro l pre x X ⟨⟨D, hO, hC⟩, hBx, hsz, hBl⟩ hlt
    have HO := vl hO
    have HC := vl hC
    have HBX := vl hBx
    have HSZ := vl hsz
    have HBL := vl hBl
    have HTK := vl (ntoken_any x.1 X x.2)
    have hcl : ((lnsU pre).filter tokL).length ≤ 4294967281 := by
      have h1 : ((lnsU pre).filter tokL).length ≤ (lnsU pre).length := List.length_filter_le _ _
      have h2 : (lnsU pre).length = pre.length := by simp [lnsU]
      omega
    have HSN : Vl ((lnsU (pre ++ [x])).filter tokL = (lnsU pre).filter tokL ++ if tokL (unums x.1) = true then [unums x.1] else []) := vl (by
      rw [lnsU_snoc, List.filter_append]
      congr 1
      rw [List.filter_cons, List.filter_nil])
    have hx2 := x.2
    obtain ⟨xs, hxs⟩ : ∃ xs : ByteArray, xs = x.1 := ⟨_, rfl⟩
    rw [← hxs] at HTK HSN hx2 ⊢
    obtain ⟨nm2, hnm2⟩ : ∃ y, (lnsU (pre ++ [x])).filter tokL = y := ⟨_, rfl⟩
    have HN2 := vl hnm2
    rw [hnm2] at HSN
    obtain ⟨nm, hnm⟩ : ∃ y, (lnsU pre).filter tokL = y := ⟨_, rfl⟩
    rw [hnm] at HO HC HSN hcl
    obtain ⟨t, ht⟩ : ∃ t, tokL (unums xs) = t := ⟨_, rfl⟩
    rw [ht] at HTK HSN
    clear hO hC hBx hsz hBl hxs hnm hnm2 ht h00 hO3 hX3 hB3 hSP hlt
    gi_wp2_with fail
    refine ⟨trivial, ?_⟩
    refine (CallsIn.inRound l (callsIn_wide.2 HTK.out)).mono ?_
    rintro e w5 ⟨rfl, hb5⟩
    have HB5 := vl hb5
    have hXs := HSZ.out
    have HBL5 : Vl (Below w.heap.size w w5) := HBL.out.trans (hb5.mono (by have := HBL.out.size; omega))
    have HO5 := vl (mown_below HO.out hb5)
    have HBX5 : Vl (Boxed w5 (w.heap.size + 2) 96 (.map (some (w.heap.size + 1)))) := (hb5.block _ HBX.out.lt).trans HBX.out
    have hs5 : X.heap.size ≤ w5.heap.size := hb5.size
    have HK5 : Vl (KeepsFrom w3.heap.size X w5) := vl ((zothers_of_below hb5).from _)
    clear hb5 HTK HO HBL
    cases t with
    | false =>
      have HE : Vl (nm2 = nm) := vl (by rw [HSN.out]; simp)
      gi_wp2_with fail
      exact ⟨HK5.out, fun k hk => HB5.out.block k (by rcases hk with h | h | h | h <;> omega), ⟨D, by rw [HN2.out, HE.out]; exact HO5.out, by rw [HN2.out, HE.out]; exact HC.out⟩, HBX5.out, by omega, HBL5.out⟩
    | true =>
      have HE : Vl (nm2 = nm ++ [unums xs]) := vl (by rw [HSN.out]; simp)
      have cM := HBX5.out.cell
      have hrun := mown_look HO5.out HC.out hx2
      have HKY := vl (ky_ok hx2)
      have HPT := vl (cnt_put HC.out xs)
      have hcn : nm.count (unums xs) ≤ nm.length := List.count_le_length
      generalize nm.count (unums xs) = cn at *
      have HWF : Vl ((Lit.int .i64 ((cn : Int) + 1)).wf = true) := vl (WalkArith.wf_i64 (by omega))
      clear HSN
      gi_wp2_with (gi_at_mapUpdate; refine wpListIn_mapUpdate_own _ rfl _ _ _ 96 rfl 9 3 skl Tryz.underlying96 _ (w.heap.size + 1) nm.length D rfl HO5.out (by unfold maxLen; omega) _ _ _ rfl rfl HKY.out (.lit (.int .i64 ((cn : Nat) + 1))) [] (plainElem_int Tryz.underlying3 HWF.out) ?_)
      intro w6 hown6 hg6
      have HFIN : Vl (KeepsFrom w3.heap.size X w6 ∧ (∀ k, SpK b k → w6.heap[k]? = X.heap[k]?) ∧ NmI w b (pre ++ [x]) w6) := vl (by
        have hblk : ∀ k, k < w5.heap.size → k ≠ w.heap.size + 1 → w6.heap[k]? = w5.heap[k]? := fun k hk hne => hg6.block k hk (fun e => hne (Option.some.inj e))
        refine ⟨HK5.out.trans (KeepsFrom.of_grownBy hg6 (fun j e => by cases e; omega)), fun k hk => ?_, ⟨D.put (kyS xs) (.lit (.int .i64 ((cn : Nat) + 1))), ?_, ?_⟩, (hblk _ HBX5.out.lt (by omega)).trans HBX5.out, ?_, ⟨hg6.os.trans HBL5.out.os, hg6.tape.trans HBL5.out.tape, hg6.output.trans HBL5.out.output, Nat.le_trans HBL5.out.size hg6.size, fun k hk => (hblk k (by have := HBL5.out.size; omega) (by omega)).trans (HBL5.out.block k hk)⟩⟩
        · have hkb : k < X.heap.size ∧ k ≠ w.heap.size + 1 := by rcases hk with h | h | h | h <;> omega
          exact (hblk k (by omega) hkb.2).trans (HB5.out.block k hkb.1)
        · rw [HN2.out, HE.out, List.length_append]; exact hown6
        · rw [HN2.out, HE.out]; exact HPT.out
        · have := hg6.size; omega)
      clear hown6 hg6 hrun cM
      gi_wp2_with fail
      exact HFIN.out
  case done =>
    rintro Db xs X hD hS ⟨⟨D, hO, hC⟩, hBx, hsz, hBl⟩ hX
    have cM := hBx.cell
    have HS := vl hS
    have HO := vl hO
    have HC := vl hC
    have HBL := vl hBl
    have HX := vl hX
    have HD := vl hD
    have HSZ := vl hsz
    clear hS hO hC hBl hX hD hsz h00 hO3 hX3 hB3 hSP
    gi_wp2_with fail
    refine ⟨by simp, .inl ⟨_, _, rfl, run_takeDeferred (b := Db) (ds := []) HX.out, ?_⟩⟩
    have hD := HD.out
    refine ⟨.map (some (w.heap.size + 1)), by simp [results, Tryz.results49, go_sem], ⟨w.heap.size + 1, _, D, rfl, by omega, mown_same HO.out (World.putObj_heap_other (by omega)), ?_⟩, ?_⟩
    · unfold namesL
      rw [← HVV.out, ← HS.out]
      exact HC.out
    · have g := grownBy_putObj' X Db (.deferred none)
      exact ⟨g.os.trans HBL.out.os, g.tape.trans HBL.out.tape, g.output.trans HBL.out.output, Nat.le_trans HBL.out.size g.size, fun k hk => (World.putObj_heap_other (by omega)).trans (HBL.out.block k hk)⟩
  case stop =>
    rintro Db c pre X hD hsp h hX
    exact h.elim
theorem znames_any (code : Int) (fa : Option Addr) (fl fc : Nat) (bv : Value) (L : List FB) (w : World) (hA : FArg w fa fl fc L) (hl : fl ≤ 4398046511104) (hs : ∀ t, (L.getD t fnone).1.size ≤ 140737488351232) (hm : mxP w) (hv : (fstV (fdsOf L) varyN).length < 4294967281) (hbv : ∃ p n c, bv = .slice p n c) :
    Calls Tryz.prog 49 #[.agg #[.int .i64 code, .slice fa fl fc, bv]] w fun e w' => (∃ mb c D, e = .returned (.map (some mb)) ∧ w.heap.size ≤ mb ∧ MOwn w' mb c D ∧ Cnt D (namesL (fdsOf L))) ∧ Below w.heap.size w w' := callsIn_wide.1 (znames_in code fa fl fc bv L w hA hl hs hm hv hbv)
end Go.Proofs.YtibipnipeaeonaaGreatDoor
