/-
  CONNFAULTS: the walk of the law. No claim by itself.
-/
import Derived.Deep.CutBlock
import Derived.Test.YtdlaaollamgplagGreatDoorKC
import Derived.Test.YtdlaaollamgplagGreatDoorKA
import Derived.Test.YtdlaaollamgplagGreatDoorTold
namespace Go.Proofs.YtdlaaollamgplagGreatDoor
open Go Go.RowKit
set_option maxRecDepth 100000
theorem sets_range : ∀ (m : Nat) (Z : List Int), 0 ≤ setsF m Z ∧ setsF m Z ≤ 9
  | 0, _ => by simp [setsF]
  | m + 1, Z => by
    unfold setsF
    split
    · omega
    · split
      · omega
      · exact sets_range m _
theorem chk_range (k st : Int) (e : Bool) (Z : List Int) : 0 ≤ chkF k st e Z ∧ chkF k st e Z ≤ 9 := by
  unfold chkF
  have := sets_range (Z.length / 6) Z
  repeat' split
  all_goals omega
theorem frm_len9 (f : Frm) : (frmL f).length = 9 + f.2.2.2.length := by
  obtain ⟨k, fl, st, B⟩ := f
  simp [frmL, bigL]
  omega
theorem frmE_len {f : Frm} (h : frmE f = 0) : f.2.2.2.length ≤ 1024 := by
  unfold frmE at h
  split at h
  · omega
  · split at h <;> omega
theorem bye_rd (last code : Int) : rdF (byeL last code) = ((6, 0, 0, bigL 4 last ++ bigL 4 code), ((byeL last code).length : Int), 0) := by
  have h := rd_frm (6, 0, 0, bigL 4 last ++ bigL 4 code) [] (bye_ok last code)
  rw [List.append_nil] at h
  unfold byeL
  rw [h, frm_len9]
/-- The first event's cells. -/
theorem EvOne.cells {w : World} {base : Nat} {v : Value} {a b d : Int} {fv bv : Value} {e : Bool} (h : EvOne w base v a b d fv bv e) : ∃ g cap, v = .slice (some ⟨g, 0, none⟩) 1 cap ∧ base ≤ g ∧ g < w.heap.size ∧ 1 ≤ cap ∧ w.cell? ⟨g, 0, none⟩ = some (.int .i64 a) ∧ w.cell? ⟨g, 2, none⟩ = some (.int .i64 d) := by
  obtain ⟨g, cap, cur, rfl, h1, h2, h3, h4⟩ := h
  have key : ∀ j, j < 6 → w.cell? ⟨g, j, none⟩ = ([Value.int .i64 a, .int .i64 b, .int .i64 d, fv, bv, .bool e])[j]? := fun j hj => by
    rw [cell_of_row w g j cur _ _ h2, ← h4, List.getElem?_take, if_pos hj, Array.getElem?_toList]
  exact ⟨g, cap, rfl, h1, (Array.getElem?_eq_some_iff.1 h2).1, h3, key 0 (by decide), key 2 (by decide)⟩
theorem FrOne.cells {w : World} {base : Nat} {v : Value} {a b d : Int} {bv : Value} (h : FrOne w base v a b d bv) : ∃ g cap, v = .slice (some ⟨g, 0, none⟩) 1 cap ∧ base ≤ g ∧ g < w.heap.size ∧ 1 ≤ cap ∧ w.cell? ⟨g, 0, none⟩ = some (.int .i64 a) ∧ w.cell? ⟨g, 3, none⟩ = some bv := by
  obtain ⟨g, cap, cur, rfl, h1, h2, h3, h4⟩ := h
  have key : ∀ j, j < 4 → w.cell? ⟨g, j, none⟩ = ([Value.int .i64 a, .int .i64 b, .int .i64 d, bv])[j]? := fun j hj => by
    rw [cell_of_row w g j cur _ _ h2, ← h4, List.getElem?_take, if_pos hj, Array.getElem?_toList]
  exact ⟨g, cap, rfl, h1, (Array.getElem?_eq_some_iff.1 h2).1, h3, key 0 (by decide), key 3 (by decide)⟩
set_option maxHeartbeats 16000000 in
theorem kfaults_ok (k fl st : Int) (a : Option Addr) (len cap : Nat) (Z : List Int) (b : Option Addr) (lb cbb : Nat) (Y : List Int) (w : World) (hg : Laid w) (hA : Arg w a len cap Z) (hZ : Z.length = len) (hlen : len ≤ 140737488351232) (hB : Arg w b lb cbb Y) (hY : Y.length = lb) (hbn : b = none → cbb = 0) (hlb : lb ≤ 140737488351232) :
    Calls Tryz.prog 6 #[.agg #[.int .i64 k, .int .i64 fl, .int .i64 st, .slice a len cap], .slice b lb cbb] w fun e w' => e = .returned (.bool true) ∧ Below w.heap.size w w' := by
  obtain ⟨W1, hW1⟩ : ∃ x, w.alloc (.cells #[.int .i64 k, .int .i64 fl, .int .i64 st, .slice a len cap] 60) = x := ⟨_, rfl⟩
  have hb1 : Below w.heap.size w W1 := by rw [← hW1]; exact (Below.refl _ w).alloc (Nat.le_refl _) _
  have hF1 : FRB W1 w.heap.size k fl st (.slice a len cap) := by rw [← hW1]; exact frb_new w k fl st _
  obtain ⟨b0, b1, b2, b3⟩ := hF1.cells
  have HCK0 := vl (check_any 5 0 0 none 0 0 [] W1 (Or.inl ⟨rfl, rfl⟩) rfl (by decide))
  have h6 : chkF 5 0 (bits .and .i64 0 1 == 1) [] = 6 := by decide
  rw [h6] at HCK0
  have HFX := vl hF1
  have HB1 := vl hb1
  have HG := vl hg
  have HA := vl hA
  have HY := vl hB
  have HZ := vl hZ
  have HYL := vl hY
  have HBN := vl hbn
  have hs1 : W1.heap.size = w.heap.size + 1 := by rw [← hW1]; simp
  have HS1 : Vl (W1.heap.size = w.heap.size + 1) := vl hs1
  clear hg hA hB hZ hY hbn hF1 hb1 h6 hs1
  go_enter Tryz.func6, Tryz.ntmps6
  go_wp2_with fail
  clear hW1
  refine HCK0.out.mono ?_
  rintro e w2 ⟨rfl, hb2⟩
  have HF2 := vl (HFX.out.on hb2)
  have HB2 := vl (HB1.out.trans (hb2.mono HB1.out.size))
  have HEN := vl (encode_any k fl st a len cap Z w2 (HA.out.below HB2.out) HZ.out)
  obtain ⟨d0, d1, d2, d3⟩ := HF2.out.cells
  clear hb2 HCK0 b0 b1 b2 b3
  go_wp2_with fail
  refine HEN.out.mono ?_
  rintro e w3 ⟨⟨v3, x3, rfl, hm⟩, hb3⟩
  have HF3 := vl (HF2.out.on hb3)
  have HB3 := vl (HB2.out.trans (hb3.mono HB2.out.size))
  have hs23 : w2.heap.size ≤ w3.heap.size := hb3.size
  have hsw2 : w.heap.size < w2.heap.size := HF2.out.lt
  obtain ⟨q0, q1, q2, q3⟩ := HF3.out.cells
  clear hb3 HEN d0 d1 d2 d3
  rcases hm with ⟨hE, rfl, ho3⟩ | ⟨hne, rfl, rfl⟩
  case inr =>
    go_wp2
    go_ret
    exact ⟨rfl, HB3.out⟩
  case inl =>
  have HCK := vl (check_any k fl st a len cap Z w3 (HA.out.below HB3.out) HZ.out (by omega))
  obtain ⟨code, hcode⟩ : ∃ x, chkF k st (bits .and .i64 fl 1 == 1) Z = x := ⟨_, rfl⟩
  have hrg := chk_range k st (bits .and .i64 fl 1 == 1) Z
  rw [hcode] at HCK hrg
  have HCD : Vl (chkF k st (bits .and .i64 fl 1 == 1) Z = code) := vl hcode
  have hZl : Z.length ≤ 1024 := frmE_len hE
  have hU3 := UOwn.of ho3
  have hBX : Bytes (frmL (k, fl, st, Z)) := bytes_frm hE (HA.out.bytes)
  obtain ⟨xa, xc, rfl, hAX, hxn⟩ := uarg hU3 hBX
  have HU3 := vl hU3
  have HAX := vl hAX
  have HXN : Vl (xa = none → xc = 0) := vl hxn
  have HXB : Vl (∀ j, (Value.slice xa (frmL (k, fl, st, Z)).length xc).ownBlock = some j → w2.heap.size ≤ j ∧ j < w3.heap.size) := vl (fun j hj => hU3.base j hj)
  have HE := vl hE
  have HBX := vl hBX
  have HXL : Vl ((frmL (k, fl, st, Z)).length = 9 + Z.length) := vl (frm_len9 _)
  clear hcode ho3 hU3 hAX hxn hE hBX
  go_wp2_with fail
  refine HCK.out.mono ?_
  rintro e w4 ⟨rfl, hb4⟩
  have HB4 := vl (HB3.out.trans (hb4.mono HB3.out.size))
  have HF4 := vl (HF3.out.on hb4)
  have HU4 := vl (HU3.out.below hb4)
  have hs34 : w3.heap.size ≤ w4.heap.size := hb4.size
  have HBG := vl (kbegun_any w4)
  clear hb4 HCK HF3 HU3 HAX q0 q1 q2 q3
  go_wp2_with fail
  refine HBG.out.mono ?_
  rintro e w5 ⟨cc, c, rv, rfl, hC5, hCB, hb5, hf5, hsb5⟩
  have HB5 := vl (HB4.out.trans (hb5.mono HB4.out.size))
  have HF5 := vl (HF4.out.on hb5)
  have HU5 := vl (HU4.out.below hb5)
  have HC5 := vl hC5
  have HCB := vl hCB
  have HFC : Vl (∀ j, CnF cc rv (.slice none 0 0) j → w4.heap.size ≤ j ∧ j < w5.heap.size) := vl (fun j hj => ⟨hf5 j hj, hC5.flt j hj⟩)
  have HSB : Vl (w4.heap.size ≤ c.sb ∧ c.sb < w5.heap.size) := vl ⟨hsb5, hC5.slt⟩
  have hs45 : w4.heap.size ≤ w5.heap.size := hb5.size
  have HNW := vl (knew_any w5)
  clear hC5 hCB hb5 hf5 hsb5 HBG HB4 HF4 HU4
  go_wp2_with fail
  refine HNW.out.mono ?_
  rintro e w6 ⟨ce, c', rve, sve, rfl, hC6, hN6, hsd6, hb6, hf6, hsb6⟩
  have HB6 := vl (HB5.out.trans (hb6.mono HB5.out.size))
  have HF6 := vl (HF5.out.on hb6)
  have HU6 := vl (HU5.out.below hb6)
  have HC6 := vl (HC5.out.below hb6)
  have HN6 := vl hN6
  have hs56 : w5.heap.size ≤ w6.heap.size := hb6.size
  have HFE : Vl (∀ j, CnF ce rve sve j → w5.heap.size ≤ j) := vl hf6
  have HOU := vl (kout_any ce c' rve sve w6 hC6)
  clear hC6 hN6 hsd6 hb6 hf6 hsb6 HNW HB5 HF5 HU5 HC5
  go_wp2_with fail
  refine HOU.out.mono ?_
  rintro e w7 ⟨rfl, hC7e, hT7, _⟩
  have hce : w5.heap.size ≤ ce := HFE.out ce (Or.inl rfl)
  have HB7 : Vl (Below w.heap.size w w7) := vl (hT7.below HB6.out HB6.out.size (fun i hi => by have hi' : i = ce := hi; omega))
  have HF7 := vl (HF6.out.tn hT7 (fun hi => by have hi' : w.heap.size = ce := hi; omega))
  have HU7 : Vl (UOwn w7 w2.heap.size (.slice xa (frmL (k, fl, st, Z)).length xc) (frmL (k, fl, st, Z))) := vl (HU6.out.block hT7.size (fun j hj => hT7.block j (HU6.out.base j hj).2 (fun hi => by have hi' : j = ce := hi; have := HXB.out j hj; omega)))
  have HC7 := vl (HC6.out.tn hT7 (fun j hj hi => by have hi' : j = ce := hi; have := HFC.out j hj; omega) (fun hi => by have hi' : c.sb = ce := hi; have := HSB.out; omega))
  have HE7 := vl hC7e
  have hs67 : w6.heap.size ≤ w7.heap.size := hT7.size
  obtain ⟨r0, r1, r2, r3⟩ := HF7.out.cells
  clear hC7e hT7 HOU HB6 HF6 HU6 HC6
  go_upto_if 42 with fail
  go_cut [11] (fun _ wz => Vl (CnL wz cc c rv (.slice none 0 0)) ∧ Vl (Below w.heap.size w wz) ∧ Vl (UOwn wz w2.heap.size (.slice xa (frmL (k, fl, st, Z)).length xc) (frmL (k, fl, st, Z))) ∧ w7.heap.size ≤ wz.heap.size)
  case first =>
    by_cases hk4 : k = 4
    · subst hk4
      go_wp2
      go_meet
      exact ⟨HC7, HB7, HU7, Nat.le_refl _⟩
    · have hk4' : (k != 4) = true := by simpa using hk4
      have hrd : rdF (frmL (k, fl, st, Z)) = ((k, fl, st, Z), ((9 + Z.length : Nat) : Int), 0) := by
        have h := rd_frm (k, fl, st, Z) [] HE.out
        rw [List.append_nil] at h
        exact h
      have hrf : refF ({ c' with said := [] } : CnS).begun k fl st Z 0 = 1 := by
        have hb : ({ c' with said := [] } : CnS).begun = false := HN6.out.begun
        rw [hb]
        unfold refF
        rw [if_neg (by decide), if_pos (Or.inr ⟨rfl, hk4⟩)]
      have hkE : KArg w7 ce rve (.slice none 0 0) xa (frmL (k, fl, st, Z)).length xc (frmL (k, fl, st, Z)) := ⟨UOwn.arg HU7.out HBX.out, fun g off e x => by
        have h1 := (HXB.out g (by rw [e]; rfl)).2
        have h2 : w5.heap.size ≤ g := by
          rcases x with e1 | e1 | e1
          · omega
          · exact HFE.out g (Or.inr (Or.inl e1))
          · cases e1
        omega⟩
      have HFD := vl (kfeed_fail ce { c' with said := [] } rve (.slice none 0 0) xa (frmL (k, fl, st, Z)).length xc (frmL (k, fl, st, Z)) k fl st Z _ 0 1 w7 HE7.out hkE HXN.out (by have := HXL.out; omega) HN6.out.over HN6.out.rest HN6.out.bfr HN6.out.bby (by simp) hrd (by decide) hrf (by decide) (by decide) (by decide) (by have := HXL.out; omega) (by omega) (by omega))
      clear hkE hrd hrf hk4
      go_wp2_with fail
      refine HFD.out.mono ?_
      rintro e w8 ⟨v8, rv8, sv8, rfl, hO8, hC8, hT8, hF8, _⟩
      have HB8 : Vl (Below w.heap.size w w8) := vl (hT8.below HB7.out HB7.out.size (fun i hi => by
        rcases hi with e1 | e1 | e1
        · omega
        · have := HFE.out i (Or.inr (Or.inl e1)); omega
        · cases e1))
      have hnE : ∀ i, CnF ce rve (.slice none 0 0) i → w5.heap.size ≤ i := fun i hi => by
        rcases hi with e1 | e1 | e1
        · omega
        · exact HFE.out i (Or.inr (Or.inl e1))
        · cases e1
      have HC8 := vl (HC7.out.tn hT8 (fun j hj hi => by have := HFC.out j hj; have := hnE j hi; omega) (fun hi => by have := hnE _ hi; have := HSB.out; omega))
      have HU8 : Vl (UOwn w8 w2.heap.size (.slice xa (frmL (k, fl, st, Z)).length xc) (frmL (k, fl, st, Z))) := vl (HU7.out.block hT8.size (fun j hj => hT8.block j (HU7.out.base j hj).2 (fun hi => by have := HXB.out j hj; have := hnE j hi; omega)))
      obtain ⟨ge, gc, rfl, _, _, hgc, z0, z2⟩ := hO8.cells
      have HOV := vl (kover_any ce _ rv8 sv8 w8 hC8)
      have hs78 : w7.heap.size ≤ w8.heap.size := hT8.size
      clear hO8 hC8 hT8 hF8 HFD hnE
      go_wp2_with fail
      refine HOV.out.mono ?_
      rintro e w' ⟨rfl, rfl⟩
      go_wp2
      go_meet
      exact ⟨HC8, HB8, HU8, hs78⟩
  case rest =>
  obtain ⟨HC8, HB8, HU8, hs78⟩ := hcut
  obtain ⟨w8, hw8⟩ : ∃ x, x = wc := ⟨_, rfl⟩
  subst hw8
  clear HC7 HB7 HU7 HE7 HF7 r0 r1 r2 r3 HFE HN6
  by_cases h0 : code = 0
  · subst h0
    go_wp2
    go_ret
    exact ⟨rfl, HB8.out⟩
  have h0' : (code == 0) = false := by simpa using h0
  have HY8 := vl (HY.out.below HB8.out)
  have hsx : w2.heap.size ≤ w8.heap.size := by omega
  go_wp2_with (at_builtin; refine wpList_uapp _ rfl _ _ rfl w2.heap.size _ (frmL (k, fl, st, Z)) rfl HU8.out b lb cbb Y rfl HY8.out HBN.out (by have := HXL.out; omega) hsx ?_)
  intro v9 w9 hu9 hg9 hv9
  obtain ⟨XY, hXY⟩ : ∃ x, frmL (k, fl, st, Z) ++ Y = x := ⟨_, rfl⟩
  have hrd9 : rdF XY = ((k, fl, st, Z), ((9 + Z.length : Nat) : Int), 0) := by rw [← hXY]; exact rd_frm (k, fl, st, Z) Y HE.out
  have hXYl : XY.length = 9 + Z.length + lb := by rw [← hXY, List.length_append, HXL.out, HYL.out]
  have hXYb : Bytes XY := by rw [← hXY]; exact bytes_app HBX.out HY8.out.bytes
  rw [hXY] at hu9
  obtain ⟨va, vc, rfl, _⟩ := hu9.slice
  have hT9 : Tn (fun j => (Value.slice xa (frmL (k, fl, st, Z)).length xc).ownBlock = some j) w8 w9 := tn_grown hg9 (fun j hj => hj)
  have HB9 : Vl (Below w.heap.size w w9) := vl (hT9.below HB8.out HB8.out.size (fun j hj => by have := HXB.out j hj; omega))
  have HC9 := vl (HC8.out.tn hT9 (fun j hj hi => by have := HXB.out j hi; have := HFC.out j hj; omega) (fun hi => by have := HXB.out _ hi; have := HSB.out; omega))
  have hk9 : KArg w9 cc rv (.slice none 0 0) va XY.length vc XY := ⟨UOwn.arg hu9 hXYb, fun g off e x => by
    have h1 := HFC.out g x
    rcases hv9 g (by rw [e]; rfl) with h2 | h2
    · have := HXB.out g h2; omega
    · omega⟩
  have hn9 : va = none → vc = 0 := fun e => by
    subst e
    rcases hu9 with ⟨hv, _⟩ | ⟨g, c9, hv, _⟩
    · injection hv
    · injection hv with h9; cases h9
  have hrf9 : refF c.begun k fl st Z 0 = code := by
    rw [HCB.out.begun]
    unfold refF
    rw [if_neg (by decide), if_neg (by simp), HCD.out, if_pos h0]
  have HFD := vl (kfeed_fail cc c rv (.slice none 0 0) va XY.length vc XY k fl st Z _ 0 code w9 HC9.out hk9 hn9 (by omega) HCB.out.over HCB.out.rest HCB.out.bfr HCB.out.bby (by rw [HCB.out.said]; simp) hrd9 (by decide) hrf9 h0 hrg.1 (by omega) (by omega) (by omega) (by omega))
  have hXYL : Vl (XY.length = 9 + Z.length + lb) := vl hXYl
  have hs89 : w8.heap.size ≤ w9.heap.size := hT9.size
  clear hu9 hg9 hv9 hXY hrd9 hXYl hXYb hT9 hk9 hn9 hrf9 HC8 HB8 HU8 HY8
  go_wp2_with fail
  refine HFD.out.mono ?_
  rintro e w10 ⟨v10, rv10, sv10, rfl, hO10, hC10, hT10, hF10, hV10⟩
  have hlc : ∀ j, CnF cc rv (.slice none 0 0) j → w4.heap.size ≤ j := fun j hj => (HFC.out j hj).1
  have HB10 : Vl (Below w.heap.size w w10) := vl (hT10.below HB9.out HB9.out.size (fun j hj => by have := hlc j hj; omega))
  have hsd10 : (CnS.failed { c with begun := true, rest := [] } code).said = byeL 0 code := by
    show c.said ++ byeL c.last code = _
    rw [HCB.out.said, HCB.out.last]
    rfl
  have HOU := vl (kout_any cc _ rv10 sv10 w10 hC10)
  rw [hsd10] at HOU
  have hsv := hC10.said
  rw [hsd10] at hsv
  obtain ⟨sa, sc, rfl, _⟩ := hsv.slice
  have HO10 := vl hO10
  have HV10 : Vl (∀ j, v10.ownBlock = some j → j ≠ cc) := vl (fun j hj e => hV10 j hj (Or.inl e))
  have hcc : w4.heap.size ≤ cc := hlc cc (Or.inl rfl)
  clear hO10 hC10 hT10 hF10 hV10 HFD HB9 HC9 hsv hlc
  obtain ⟨ge, gc, hve, hge1, hge2, hgc, y0, y2⟩ := HO10.out.cells
  subst hve
  have hl17 : (byeL 0 code).length = 17 := bye_len 0 code
  rw [hl17] at HOU
  go_wp2_with fail
  refine HOU.out.mono ?_
  rintro e w11 ⟨rfl, hC11, hT11, hU11⟩
  have HB11 : Vl (Below w.heap.size w w11) := vl (hT11.below HB10.out HB10.out.size (fun j hj => by have hj' : j = cc := hj; omega))
  have HO11 := vl (HO10.out.tn hT11 (fun j hj e => HV10.out j hj e))
  have HC11 := vl hC11
  have hA11 : Arg w11 sa 17 sc (byeL 0 code) := by
    have h' : UOwn w11 0 (.slice sa (byeL 0 code).length sc) (byeL 0 code) := by rw [hl17]; exact hU11
    have := UOwn.arg h' (bytes_frm (bye_ok 0 code) (bytes_app (bytes_big _) (bytes_big _)))
    rw [hl17] at this
    exact this
  have hrd11 : rdF (byeL 0 code) = ((6, 0, 0, bigL 4 0 ++ bigL 4 code), ((17 : Nat) : Int), 0) := by rw [bye_rd, hl17]
  have HFS := vl (kframes_one sa 17 sc (byeL 0 code) 6 0 0 (bigL 4 0 ++ bigL 4 code) w11 hA11 hrd11 (by decide) (by decide))
  have hl8 : (bigL 4 0 ++ bigL 4 code).length = 8 := by rw [List.length_append, big_len, big_len]
  rw [hl8] at HFS
  clear hC11 hT11 hU11 hA11 hrd11 HOU HO10 HB10 y0 y2
  go_wp2_with fail
  refine HFS.out.mono ?_
  rintro e w12 ⟨v12, ba, bc, rfl, hO12, hA12, hb12⟩
  have HB12 := vl (HB11.out.trans (hb12.mono HB11.out.size))
  have HC12 := vl (HC11.out.below hb12)
  have hE12 := HO11.out.tn (Tn.of_below (S := fun _ => False) hb12) (fun _ _ x => x)
  obtain ⟨ge', gc', hve', _, _, hgc', y0, y2⟩ := hE12.cells
  injection hve' with e1 _ e2
  injection e1 with e1
  injection e1 with e1
  subst e1 e2
  obtain ⟨gf, gfc, rfl, _, _, hgfc, t0, t3⟩ := hO12.cells
  obtain ⟨gb, ob, hba, hrb⟩ : ∃ gb ob, ba = some ⟨gb, ob, none⟩ ∧ Row w12 gb ob 8 bc (bigL 4 0 ++ bigL 4 code) := by
    rcases hA12 with ⟨h9, _⟩ | x
    · cases h9
    · exact x
  subst hba
  have hbc8 := hrb.hcap
  have hbcm := hrb.hmax
  unfold maxLen at hbcm
  have hbc4 : ¬ bc = 4 := by omega
  have hr4 : Row w12 gb (ob + 4) 4 (bc - 4) (bigL 4 code) := ⟨big_len code, by omega, by unfold maxLen; omega, fun t ht => by
    have := hrb.hcell (4 + t) (by omega)
    rw [← Nat.add_assoc] at this
    rw [this]
    congr 2
    simp [List.getD, List.getElem?_append_right, big_len], bytes_getD (bytes_big code)⟩
  have HRW := vl (read_whole gb (ob + 4) 4 (bc - 4) (bigL 4 code) 4 w12 hr4 (by decide) (by decide) (by decide))
  have hrr : readF (bigL 4 code) ((4 : Nat) : Int) = (code, 0) := by
    have hw : word (bigL 4 code) = code := word_big4 code hrg.1 (by omega)
    unfold readF
    rw [if_neg (by decide), if_neg (by rw [big_len]; decide)]
    have ht : (bigL 4 code).take (((4 : Nat) : Int)).toNat = bigL 4 code := List.take_of_length_le (by rw [big_len]; decide)
    rw [ht, hw, if_neg (by omega)]
  have HRR : Vl (readF (bigL 4 code) ((4 : Nat) : Int) = (code, 0)) := vl hrr
  have HOV := vl (kover_any cc _ rv10 (.slice none 0 0) w12 HC12.out)
  have hov : ({ CnS.failed { c with begun := true, rest := [] } code with said := [] } : CnS).over = true := rfl
  rw [hov] at HOV
  clear hO12 hA12 hb12 hrb hr4 HFS HO11 HB11 HC11 hE12 hrr hov
  go_wp2_with fail
  refine HOV.out.mono ?_
  rintro e w' ⟨rfl, rfl⟩
  clear HOV
  go_wp2_with fail
  refine HRW.out.mono ?_
  rintro e w' ⟨⟨n, x, rfl, ht⟩, rfl⟩
  obtain ⟨hn9, rfl⟩ : n = code ∧ x = .nilIface := by
    unfold Told2 at ht
    rw [HRR.out] at ht
    rcases ht with ⟨h1, h2⟩ | ⟨k', hk, h1, _⟩
    · exact ⟨(congrArg Prod.fst h1).symm, h2⟩
    · exact absurd (congrArg Prod.snd h1).symm hk
  subst hn9
  have HFO := vl (kfeed_over cc _ rv10 (.slice none 0 0) b lb cbb w12 HC12.out rfl)
  have HAN := vl (kanswer_over cc _ rv10 (.slice none 0 0) w12 HC12.out rfl 1 none 0 0 true)
  clear HRW HRR y0 y2 t0 t3 ht
  go_wp2_with fail
  refine HFO.out.mono ?_
  rintro e w' ⟨rfl, rfl⟩
  clear HFO
  go_wp2_with fail
  refine HAN.out.mono ?_
  rintro e w13 ⟨rfl, hb13⟩
  clear HAN
  have HB13 := vl (HB12.out.trans (hb13.mono HB12.out.size))
  have HC13 := vl (HC12.out.below hb13)
  clear hb13 HB12 HC12
  have HX1 := vl (ksend_over cc _ rv10 (.slice none 0 0) w13 HC13.out rfl 1 none 0 0 true)
  go_wp2_with fail
  refine HX1.out.mono ?_
  rintro e w14 ⟨rfl, hb14⟩
  clear HX1
  have HB14 := vl (HB13.out.trans (hb14.mono HB13.out.size))
  have HC14 := vl (HC13.out.below hb14)
  clear hb14 HB13 HC13
  have HX2 := vl (kstop_over cc _ rv10 (.slice none 0 0) w14 HC14.out rfl 1 0)
  go_wp2_with fail
  refine HX2.out.mono ?_
  rintro e w15 ⟨rfl, hb15⟩
  clear HX2
  have HB15 := vl (HB14.out.trans (hb15.mono HB14.out.size))
  have HC15 := vl (HC14.out.below hb15)
  clear hb15 HB14 HC14
  have HX3 := vl (kbye_over cc _ rv10 (.slice none 0 0) w15 HC15.out rfl 0)
  go_wp2_with fail
  refine HX3.out.mono ?_
  rintro e w16 ⟨rfl, hb16⟩
  clear HX3
  have HB16 := vl (HB15.out.trans (hb16.mono HB15.out.size))
  have HC16 := vl (HC15.out.below hb16)
  clear hb16 HB15 HC15
  have HX4 := vl (kused_over cc _ rv10 (.slice none 0 0) w16 HC16.out rfl 1 0)
  go_wp2_with fail
  refine HX4.out.mono ?_
  rintro e w17 ⟨rfl, hb17⟩
  clear HX4
  have HB17 := vl (HB16.out.trans (hb17.mono HB16.out.size))
  have HC17 := vl (HC16.out.below hb17)
  clear hb17 HB16 HC16
  have HR17 := vl (error_hit 6 6 w17 (HG.out.below HB17.out))
  go_wp2_with fail
  refine HR17.out.mono ?_
  rintro e w18 ⟨rfl, hb18⟩
  clear HR17
  have HB18 := vl (HB17.out.trans (hb18.mono HB17.out.size))
  have HC18 := vl (HC17.out.below hb18)
  clear hb18 HB17 HC17
  have HR18 := vl (error_hit 6 6 w18 (HG.out.below HB18.out))
  go_wp2_with fail
  refine HR18.out.mono ?_
  rintro e w19 ⟨rfl, hb19⟩
  clear HR18
  have HB19 := vl (HB18.out.trans (hb19.mono HB18.out.size))
  have HC19 := vl (HC18.out.below hb19)
  clear hb19 HB18 HC18
  have HR19 := vl (error_hit 6 6 w19 (HG.out.below HB19.out))
  go_wp2_with fail
  refine HR19.out.mono ?_
  rintro e w20 ⟨rfl, hb20⟩
  clear HR19
  have HB20 := vl (HB19.out.trans (hb20.mono HB19.out.size))
  have HC20 := vl (HC19.out.below hb20)
  clear hb20 HB19 HC19
  have HR20 := vl (error_hit 6 6 w20 (HG.out.below HB20.out))
  go_wp2_with fail
  refine HR20.out.mono ?_
  rintro e w21 ⟨rfl, hb21⟩
  clear HR20
  have HB21 := vl (HB20.out.trans (hb21.mono HB20.out.size))
  have HC21 := vl (HC20.out.below hb21)
  clear hb21 HB20 HC20
  have HR21 := vl (error_hit 6 6 w21 (HG.out.below HB21.out))
  go_wp2_with fail
  refine HR21.out.mono ?_
  rintro e w22 ⟨rfl, hb22⟩
  clear HR21
  have HB22 := vl (HB21.out.trans (hb22.mono HB21.out.size))
  have HC22 := vl (HC21.out.below hb22)
  have HOU2 := vl (kout_any cc _ rv10 (.slice none 0 0) w22 HC22.out)
  clear hb22 HB21 HC21
  have e66 : ((6 : Int) == 6) = true := by decide
  go_wp2_with fail
  refine HOU2.out.mono ?_
  rintro e w23 ⟨rfl, _, hT23, _⟩
  have HB23 : Vl (Below w.heap.size w w23) := vl (hT23.below HB22.out HB22.out.size (fun j hj => by have hj' : j = cc := hj; omega))
  clear hT23
  go_wp2
  go_ret
  exact ⟨rfl, HB23.out⟩
end Go.Proofs.YtdlaaollamgplagGreatDoor
