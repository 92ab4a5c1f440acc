/-
  CONNBEGINS: the walk of the law, whole. No claim by itself.
-/
import Derived.Deep.CutBlock
import Derived.Test.YtdlaaollamgplagGreatDoorBC
namespace Go.Proofs.YtdlaaollamgplagGreatDoor
open Go Go.RowKit
set_option maxRecDepth 100000
theorem lword_any (n : Int) (w : World) (h0 : 0 ≤ n) (h1 : n ≤ 2147483647) :
    Calls Tryz.prog 28 #[.int .i64 n] w fun e w' => ∃ g, e = .returned (.slice (some ⟨g, 0, none⟩) 4 4) ∧ UOwn w' w.heap.size (.slice (some ⟨g, 0, none⟩) 4 4) (bigL 4 n) ∧ Below w.heap.size w w' := by
  have HB := vl (big_4 n w h0 (by have : most 4 = 2147483647 := by decide
                                  omega))
  go_enter Tryz.func28, Tryz.ntmps28
  go_wp2_with fail
  refine HB.out.mono ?_
  rintro e w1 ⟨rfl, rfl⟩
  go_wp2
  go_ret
  refine ⟨_, rfl, ?_, (Below.refl _ w).alloc (Nat.le_refl _) _⟩
  refine UOwn.of (L := bigL 4 n) ⟨by simp [bigL], Or.inr ⟨w.heap.size, 4, _, rfl, Nat.le_refl _, heap_alloc_new w _, by simp [bigL], by decide, rfl, ?_⟩⟩
  simp [bigL]
theorem belowN (w : World) : ∀ n, Below w.heap.size w (w.drewN n) := fun _ => ⟨rfl, rfl, rfl, Nat.le_refl _, fun _ _ => rfl⟩
theorem uown_arg' {w : World} {base n cap : Nat} {a : Option Addr} {L : List Int} (h : UOwn w base (.slice a n cap) L) (hb : Bytes L) (hn : L.length = n) : Arg w a n cap L := by
  subst hn
  exact UOwn.arg h hb
theorem uown_nil' {w : World} {base n cap : Nat} {a : Option Addr} {L : List Int} (h : UOwn w base (.slice a n cap) L) : a = none → cap = 0 := fun e => by
  subst e
  rcases h with ⟨hv, _⟩ | ⟨g, c, hv, _⟩
  · injection hv
  · injection hv with h1
    cases h1
theorem chk_other {k st : Int} {e : Bool} {Z : List Int} (h : 7 < k) : chkF k st e Z = 0 := by
  unfold chkF
  repeat' split
  all_goals first | rfl | omega
theorem ref_other {b : Bool} {k fl st : Int} {Z : List Int} (hb : b = true) (h : 7 < k) : refF b k fl st Z 0 = 0 := by
  subst hb
  unfold refF
  rw [if_neg (by decide), if_neg (by simp), chk_other h, if_neg (by simp), if_neg (by omega)]
theorem ref_ping {b : Bool} {Z : List Int} (hb : b = true) (h : Z.length = 8) : refF b 5 0 0 Z 0 = 0 := by
  subst hb
  have hc : chkF 5 0 (bits .and .i64 0 1 == 1) Z = 0 := by
    unfold chkF
    repeat' split
    all_goals first | rfl | omega
  unfold refF
  rw [if_neg (by decide), if_neg (by simp), hc, if_neg (by simp), if_neg (by decide)]
theorem ref_bye {b : Bool} {Z : List Int} (hb : b = true) (h : Z.length = 8) : refF b 6 0 0 Z 0 = 0 := by
  subst hb
  have hc : chkF 6 0 (bits .and .i64 0 1 == 1) Z = 0 := by
    unfold chkF
    repeat' split
    all_goals first | rfl | omega
  unfold refF
  rw [if_neg (by decide), if_neg (by simp), hc, if_neg (by simp), if_neg (by decide)]
set_option maxHeartbeats 16000000 in
theorem kbegins_ok (kind flags stream code : Int) (a : Option Addr) (len cap : Nat) (Z : List Int) (w : World) (hA : Arg w a len cap Z) (hlen : len ≤ 140737488351232) :
    Calls Tryz.prog 5 #[.int .i64 kind, .int .i64 flags, .int .i64 stream, .slice a len cap, .int .i64 code] w fun e w' => e = .returned (.bool true) ∧ Below w.heap.size w w' := by
  have HA := vl hA
  have HZ := vl hA.len
  have hl9 : (frmL (4, 0, 0, [])).length = 9 := by decide
  have hl9' : (frmL (4, 1, 0, [])).length = 9 := by decide
  clear hA
  go_enter Tryz.func5, Tryz.ntmps5
  go_wp2_with fail
  refine (knew_any w).mono ?_
  rintro e w1 ⟨cb, c, rv, sv, rfl, hC1, hN1, hs1, hb1, hf1, _⟩
  have HB1 := vl hb1
  have HN := vl hN1
  have hcb : w.heap.size ≤ cb := hf1 cb (Or.inl rfl)
  have HF1 : Vl (∀ k, CnF cb rv (.slice none 0 0) k → w.heap.size ≤ k) := vl (fun k hk => by
    rcases hk with e | e | e
    · omega
    · exact hf1 k (Or.inr (Or.inl e))
    · cases e)
  have HOU := vl (kout_any cb c rv sv w1 hC1)
  have hsd := hC1.said
  rw [hs1] at HOU hsd
  obtain ⟨sa, sc, rfl, _⟩ := hsd.slice
  rw [hl9] at HOU
  clear hC1 hN1 hs1 hb1 hf1 hsd
  go_wp2_with fail
  refine HOU.out.mono ?_
  rintro e w2 ⟨rfl, hC2, hT2, hU2⟩
  have HC2 := vl hC2
  have HB2 : Vl (Below w.heap.size w w2) := vl (hT2.below HB1.out HB1.out.size (fun j hj => by have hj' : j = cb := hj; omega))
  have hr2 := rd_one (4, 0, 0, []) (by decide)
  rw [hl9] at hr2
  have HFS := vl (kframes_one sa 9 sc (frmL (4, 0, 0, [])) 4 0 0 [] w2 (uown_arg' hU2 (bytes_frm (f := (4, 0, 0, [])) (by decide) (fun x hx => by cases hx)) hl9) hr2 (by decide) (by decide))
  clear hC2 hT2 hU2 HOU hr2 HB1
  go_wp2_with fail
  refine HFS.out.mono ?_
  rintro e w3 ⟨v3, ba3, bc3, rfl, hO3, _, hb3⟩
  have HB3 := vl (HB2.out.trans (hb3.mono HB2.out.size))
  have HC3 := vl (HC2.out.below hb3)
  obtain ⟨g3, gc3, rfl, _, _, hgc3, y0, y1, y3⟩ := hO3.cells3
  have HOV3 := vl (kover_any cb _ rv (.slice none 0 0) w3 HC3.out)
  have hov3 : ({ c with said := [] } : CnS).over = false := HN.out.over
  rw [hov3] at HOV3
  have HOU3 := vl (kout_any cb _ rv (.slice none 0 0) w3 HC3.out)
  clear hO3 hb3 HFS HC2 HB2
  go_wp2_with fail
  refine HOV3.out.mono ?_
  rintro e w' ⟨rfl, rfl⟩
  go_wp2_with fail
  refine HOU3.out.mono ?_
  rintro e w4 ⟨rfl, hC4, hT4, _⟩
  have HC4 := vl hC4
  have HB4 : Vl (Below w.heap.size w w4) := vl (hT4.below HB3.out HB3.out.size (fun j hj => by have hj' : j = cb := hj; omega))
  have HE4 := vl (encode_any 4 0 0 none 0 0 [] w4 (Or.inl ⟨rfl, rfl⟩) rfl)
  clear hC4 hT4 HOU3 HOV3 HC3 HB3 y0 y1 y3
  go_wp2_with fail
  refine HE4.out.mono ?_
  rintro e w5 ⟨⟨v5, x5, rfl, hm⟩, hb5⟩
  rcases hm with ⟨_, rfl, ho5⟩ | ⟨hne, _⟩
  case inr => exact absurd (show frmE (4, 0, 0, []) = 0 by decide) hne
  have hu5 := UOwn.of ho5
  obtain ⟨ua, uc, rfl, _⟩ := hu5.slice
  have HC5 := vl (HC4.out.below hb5)
  have HB5 := vl (HB4.out.trans (hb5.mono HB4.out.size))
  have hk5 := karg_new HC4.out hu5 (bytes_frm (f := (4, 0, 0, [])) (by decide) (fun x hx => by cases hx)) (Nat.le_refl _)
  rw [hl9] at hk5
  have HFD := vl (kfeed_set cb _ rv (.slice none 0 0) ua uc w5 HC5.out hk5 (uown_nil' hu5) HN.out.over HN.out.rest HN.out.bfr HN.out.queue (by simp))
  clear ho5 hu5 hb5 hk5 HE4 HC4 HB4
  go_wp2_with fail
  refine HFD.out.mono ?_
  rintro e w6 ⟨rfl, rv6, sv6, hC6, hT6, hF6⟩
  have HB6 : Vl (Below w.heap.size w w6) := vl (hT6.below HB5.out HB5.out.size HF1.out)
  have HF6 : Vl (∀ k, CnF cb rv6 (.slice none 0 0) k → w.heap.size ≤ k) := vl (fun k hk => by
    have h9 : CnF cb rv6 sv6 k := by
      rcases hk with e | e | e
      · exact Or.inl e
      · exact Or.inr (Or.inl e)
      · cases e
    exact (hF6 k h9).elim (fun x => HF1.out k x) (fun x => by have := HB5.out.size; omega))
  have HOU6 := vl (kout_any cb _ rv6 sv6 w6 hC6)
  have hsd := hC6.said
  have hsde : ({ ({ ({ c with said := [] } : CnS) with said := [] } : CnS) with begun := true, said := [] ++ frmL (4, 1, 0, []), rest := [] } : CnS).said = frmL (4, 1, 0, []) := rfl
  rw [hsde] at HOU6 hsd
  obtain ⟨sa6, sc6, rfl, _⟩ := hsd.slice
  rw [hl9'] at HOU6
  clear hC6 hT6 hF6 HFD hsd hsde HC5 HB5
  go_wp2_with fail
  refine HOU6.out.mono ?_
  rintro e w7 ⟨rfl, hC7, hT7, hU7⟩
  obtain ⟨c7, hC7', hCB⟩ : ∃ c7, CnL w7 cb c7 rv6 (.slice none 0 0) ∧ CnBeg c7 := ⟨_, hC7, ⟨rfl, rfl, rfl, HN.out.over, HN.out.bfr, HN.out.bby, HN.out.queue, HN.out.last⟩⟩
  have HCB := vl hCB
  have HC7 := vl hC7'
  have HB7 : Vl (Below w.heap.size w w7) := vl (hT7.below HB6.out HB6.out.size (fun j hj => by have hj' : j = cb := hj; omega))
  have hr7 := rd_one (4, 1, 0, []) (by decide)
  rw [hl9'] at hr7
  have HFS7 := vl (kframes_one sa6 9 sc6 (frmL (4, 1, 0, [])) 4 1 0 [] w7 (uown_arg' hU7 (bytes_frm (f := (4, 1, 0, [])) (by decide) (fun x hx => by cases hx)) hl9') hr7 (by decide) (by decide))
  clear hC7 hC7' hCB hT7 hU7 hr7 HOU6 HB6 HN HF1
  go_wp2_with fail
  refine HFS7.out.mono ?_
  rintro e w8 ⟨v8, ba8, bc8, rfl, hO8, _, hb8⟩
  have HB8 := vl (HB7.out.trans (hb8.mono HB7.out.size))
  have HC8 := vl (HC7.out.below hb8)
  obtain ⟨g8, gc8, rfl, _, _, hgc8, y0, y1, y3⟩ := hO8.cells3
  have HA8 := vl (HA.out.below HB8.out)
  clear hO8 hb8 HFS7 HC7 HB7
  by_cases q1 : (1024 : Int) < (len : Int)
  · go_wp2
    go_ret
    exact ⟨rfl, HB8.out⟩
  by_cases q2 : code < 0
  · go_wp2
    go_ret
    exact ⟨rfl, HB8.out⟩
  by_cases q3 : 2147483647 < code
  · go_wp2
    go_ret
    exact ⟨rfl, HB8.out⟩
  have hmk : ∀ w, (Instr.makeSlice 23 (.int .i64 8) (.int .i64 8)).run Tryz.prog w = .ok (.slice (some ⟨w.heap.size, 0, none⟩) 8 8) (w.alloc (.cells #[.int .u8 0, .int .u8 0, .int .u8 0, .int .u8 0, .int .u8 0, .int .u8 0, .int .u8 0, .int .u8 0] 5)) := fun _ => by kernel_rfl
  obtain ⟨vcp, w9, E, hcp, hUE, hEl, hEb, hb9⟩ := kcopy8 w8 a len cap Z HA8.out 3
  have HUE := vl hUE
  have HEL := vl hEl
  have HEB := vl hEb
  have HB9 := vl (HB8.out.trans (hb9.mono HB8.out.size))
  have HC9 := vl (HC8.out.below hb9)
  have HCP := vl hcp
  have HFC8 : Vl (∀ k, CnF cb rv6 (.slice none 0 0) k → k < w8.heap.size) := vl HC8.out.flt
  have HEN := vl (encode_any 5 0 0 (some ⟨w8.heap.size, 0, none⟩) 8 8 E w9 (uown_arg' hUE hEb hEl) hEl)
  clear hcp hUE hEl hEb hb9
  have hcp' := HCP.out
  go_wp2_with fail
  clear y0 y1 y3 hmk HCP hcp'
  refine HEN.out.mono ?_
  rintro e w10 ⟨⟨v10, x10, rfl, hm⟩, hb10⟩
  have hE8 : E.length = 8 := HEL.out
  have hPE : frmE (5, 0, 0, E) = 0 := by unfold frmE; rw [if_neg (by simp), if_neg (by show ¬ 1024 < E.length; omega)]
  have hPE1 : frmE (5, 1, 0, E) = 0 := by unfold frmE; rw [if_neg (by simp), if_neg (by show ¬ 1024 < E.length; omega)]
  rcases hm with ⟨_, rfl, ho10⟩ | ⟨hne, _⟩
  case inr => exact absurd hPE hne
  obtain ⟨X, hX⟩ : ∃ x, frmL (5, 0, 0, E) = x := ⟨_, rfl⟩
  have hXl : X.length = 17 := by rw [← hX, frm_len9b]; show 9 + E.length = 17; omega
  have hXb : Bytes X := by rw [← hX]; exact bytes_frm hPE HEB.out
  have hXr : rdF X = ((5, 0, 0, E), (X.length : Int), 0) := by rw [← hX]; exact rd_one _ hPE
  rw [hX] at ho10
  have hu10 := UOwn.of ho10
  obtain ⟨ua10, uc10, rfl, _⟩ := hu10.slice
  have HC10 := vl (HC9.out.below hb10)
  have HB10 := vl (HB9.out.trans (hb10.mono HB9.out.size))
  have HUE10 := vl (HUE.out.below hb10)
  have hk10 := karg_new HC9.out hu10 hXb (Nat.le_refl _)
  have HFD10 := vl (kfeed_quiet cb c7 { c7 with begun := true, said := c7.said ++ frmL (5, 1, 0, E), rest := X } rv6 (.slice none 0 0) ua10 X.length uc10 X 5 0 0 E w10 HC10.out hk10 (uown_nil' hu10) (by omega) HCB.out.over HCB.out.rest hXr (by omega) HCB.out.over rfl
    (fun W rv' sv' ba bc hC hK => khear_ping cb { c7 with rest := X } rv' sv' 0 0 ba E.length bc E W hC hK (by omega) HCB.out.bfr (by show c7.said.length ≤ _; rw [HCB.out.said]; simp) (ref_ping HCB.out.begun hE8) (by decide)))
  rw [hXl] at HFD10
  rw [hXl]
  clear ho10 hu10 hb10 hk10 HEN HC9 HB9 HUE hX hXb hXr hXl
  go_wp2_with fail
  refine HFD10.out.mono ?_
  rintro e w11 ⟨rfl, rv11, sv11, hC11, hT11, hF11⟩
  have HB11 : Vl (Below w.heap.size w w11) := vl (hT11.below HB10.out HB10.out.size HF6.out)
  have HUE11 : Vl (UOwn w11 w8.heap.size (.slice (some ⟨w8.heap.size, 0, none⟩) 8 8) E) := vl (HUE10.out.block hT11.size (fun j hj => hT11.block j (HUE10.out.base j hj).2 (fun x => by have := HFC8.out j x; have := (HUE10.out.base j hj).1; omega)))
  have HF11 : Vl (∀ k, CnF cb rv11 (.slice none 0 0) k → w.heap.size ≤ k) := vl (fun k hk => by
    have h9 : CnF cb rv11 sv11 k := by
      rcases hk with e | e | e
      · exact Or.inl e
      · exact Or.inr (Or.inl e)
      · cases e
    exact (hF11 k h9).elim (fun x => HF6.out k x) (fun x => by have := HB10.out.size; omega))
  have hcb8 : cb < w8.heap.size := HFC8.out cb (Or.inl rfl)
  have HOU11 := vl (kout_any cb _ rv11 sv11 w11 hC11)
  have hsd := hC11.said
  have hsde : ({ ({ c7 with begun := true, said := c7.said ++ frmL (5, 1, 0, E), rest := X } : CnS) with rest := [] } : CnS).said = frmL (5, 1, 0, E) := by
    show c7.said ++ frmL (5, 1, 0, E) = _
    rw [HCB.out.said, List.nil_append]
  rw [hsde] at HOU11 hsd
  obtain ⟨sa11, sc11, rfl, _⟩ := hsd.slice
  have hl17 : (frmL (5, 1, 0, E)).length = 17 := by rw [frm_len9b]; show 9 + E.length = 17; omega
  rw [hl17] at HOU11
  have hr11 := rd_one (5, 1, 0, E) hPE1
  rw [hl17] at hr11
  have HR11 := vl hr11
  have HL17 := vl hl17
  clear hC11 hT11 hF11 HFD10 hsd hsde HC10 HB10 HUE10 hr11 hl17
  go_wp2_with fail
  refine HOU11.out.mono ?_
  rintro e w12 ⟨rfl, hC12, hT12, hU12⟩
  obtain ⟨c12, hC12', hCB12⟩ : ∃ c12, CnL w12 cb c12 rv11 (.slice none 0 0) ∧ CnBeg c12 := ⟨_, hC12, ⟨rfl, rfl, rfl, HCB.out.over, HCB.out.bfr, HCB.out.bby, HCB.out.queue, HCB.out.last⟩⟩
  have HCB12 := vl hCB12
  have HC12 := vl hC12'
  have HB12 : Vl (Below w.heap.size w w12) := vl (hT12.below HB11.out HB11.out.size (fun j hj => by have hj' : j = cb := hj; omega))
  have HUE12 : Vl (UOwn w12 w8.heap.size (.slice (some ⟨w8.heap.size, 0, none⟩) 8 8) E) := vl (HUE11.out.block hT12.size (fun j hj => hT12.block j (HUE11.out.base j hj).2 (fun x => by have hj' : j = cb := x; have := (HUE11.out.base j hj).1; omega)))
  have HFS12 := vl (kframes_one sa11 17 sc11 (frmL (5, 1, 0, E)) 5 1 0 E w12 (uown_arg' hU12 (bytes_frm hPE1 HEB.out) HL17.out) HR11.out (by decide) (by decide))
  rw [hE8] at HFS12
  clear hC12 hC12' hCB12 hT12 hU12 HOU11 HB11 HUE11 HCB
  go_wp2_with fail
  refine HFS12.out.mono ?_
  rintro e w13 ⟨v13, ba13, bc13, rfl, hO13, hA13, hb13⟩
  have HB13 := vl (HB12.out.trans (hb13.mono HB12.out.size))
  have HC13 := vl (HC12.out.below hb13)
  have HUE13 := vl (HUE12.out.below hb13)
  obtain ⟨g13, gc13, rfl, _, _, hgc13, y0, y1, y3⟩ := hO13.cells3
  have t1 : ∀ n, (convert 23 9 (.slice (some ⟨w8.heap.size, 0, none⟩) 8 8)).run Tryz.prog (w13.drewN n) = .ok (.string (strOfNums E)) (w13.drewN n) := fun n => UOwn.text (HUE13.out.below (belowN w13 n))
  have t2 : ∀ n, (convert 23 9 (.slice ba13 8 bc13)).run Tryz.prog (w13.drewN n) = .ok (.string (strOfNums E)) (w13.drewN n) := fun n => by
    have hA' := hA13.below (belowN w13 n)
    rcases hA' with ⟨h9, _⟩ | ⟨g, off, rfl, hr⟩
    · cases h9
    · exact run_convert_bytes_arg (w13.drewN n) 23 5 Tryz.underlying23 Tryz.underlying5 g off 8 bc13 E hE8 hr.hcell 9 Tryz.underlying9
  clear hO13 hA13 hb13 HFS12 HC12 HB12 HUE12
  go_upto_region 17 with fail
  go_quiet (fail)
  obtain ⟨w14, hw14⟩ : ∃ x, x = w13.drewN nq := ⟨_, rfl⟩
  have hb14 : Below w13.heap.size w13 w14 := by rw [hw14]; exact belowN w13 nq
  have HB14 := vl (HB13.out.trans (hb14.mono HB13.out.size))
  have HC14 := vl (HC13.out.below hb14)
  have HA14 := vl (HA.out.below HB14.out)
  rw [← hw14]
  clear hw14 hb14 t1 t2 y0 y1 y3 HC13 HB13 HUE13
  go_upto_if 177 with fail
  go_cut [16, 20, 21] (fun _ _ _ wz => ∃ cz rvz, Vl (CnL wz cb cz rvz (.slice none 0 0)) ∧ Vl (CnBeg cz) ∧ Vl (Below w.heap.size w wz) ∧ Vl (∀ k, CnF cb rvz (.slice none 0 0) k → w.heap.size ≤ k))
  case first =>
    by_cases hk7 : 7 < kind
    · have HEN := vl (encode_any kind flags stream a len cap Z w14 HA14.out HZ.out)
      go_wp2_with fail
      refine HEN.out.mono ?_
      rintro e w15 ⟨⟨v15, x15, rfl, hm⟩, hb15⟩
      have HB15 := vl (HB14.out.trans (hb15.mono HB14.out.size))
      have HC15 := vl (HC14.out.below hb15)
      rcases hm with ⟨hE, rfl, ho15⟩ | ⟨hne, rfl, rfl⟩
      case inr =>
        clear hb15 HEN
        go_wp2
        go_meet
        exact ⟨c12, rv11, HC15, HCB12, HB15, HF11⟩
      obtain ⟨X, hX⟩ : ∃ x, frmL (kind, flags, stream, Z) = x := ⟨_, rfl⟩
      have hZl : Z.length = len := HZ.out
      have hXl : X.length = 9 + len := by rw [← hX, frm_len9b]; show 9 + Z.length = 9 + len; omega
      have hXb : Bytes X := by rw [← hX]; exact bytes_frm hE HA14.out.bytes
      have hXr : rdF X = ((kind, flags, stream, Z), (X.length : Int), 0) := by rw [← hX]; exact rd_one _ hE
      rw [hX] at ho15
      have hu15 := UOwn.of ho15
      obtain ⟨ua15, uc15, rfl, _⟩ := hu15.slice
      have hk15 := karg_new HC14.out hu15 hXb (Nat.le_refl _)
      have HFD := vl (kfeed_quiet cb c12 { c12 with begun := true, rest := X } rv11 (.slice none 0 0) ua15 X.length uc15 X kind flags stream Z w15 HC15.out hk15 (uown_nil' hu15) (by omega) HCB12.out.over HCB12.out.rest hXr (by omega) HCB12.out.over rfl
        (fun W rv' sv' ba bc hC hK => khear_other cb { c12 with rest := X } rv' sv' kind flags stream ba Z.length bc Z W hC hK (by omega) HCB12.out.bfr (ref_other HCB12.out.begun hk7) hk7))
      clear ho15 hu15 hb15 hk15 HEN hX hXb hXr hXl hZl hE
      go_wp2_with fail
      refine HFD.out.mono ?_
      rintro e w16 ⟨rfl, rv16, sv16, hC16, hT16, hF16⟩
      have HB16 : Vl (Below w.heap.size w w16) := vl (hT16.below HB15.out HB15.out.size HF11.out)
      have HF16 : Vl (∀ k, CnF cb rv16 (.slice none 0 0) k → w.heap.size ≤ k) := vl (fun k hk => by
        have h9 : CnF cb rv16 sv16 k := by
          rcases hk with e | e | e
          · exact Or.inl e
          · exact Or.inr (Or.inl e)
          · cases e
        exact (hF16 k h9).elim (fun x => HF11.out k x) (fun x => by have := HB15.out.size; omega))
      have HOU16 := vl (kout_any cb _ rv16 sv16 w16 hC16)
      have hsd := hC16.said
      have hsde : ({ ({ c12 with begun := true, rest := X } : CnS) with rest := [] } : CnS).said = [] := HCB12.out.said
      rw [hsde] at HOU16 hsd
      obtain ⟨sa16, sc16, rfl, _⟩ := hsd.slice
      clear hC16 hT16 hF16 HFD hsd hsde HC15 HB15
      go_wp2_with fail
      refine HOU16.out.mono ?_
      rintro e w17 ⟨rfl, hC17, hT17, _⟩
      have HB17 : Vl (Below w.heap.size w w17) := vl (hT17.below HB16.out HB16.out.size (fun j hj => by have hj' : j = cb := hj; omega))
      obtain ⟨c17, hC17', hCB17⟩ : ∃ c17, CnL w17 cb c17 rv16 (.slice none 0 0) ∧ CnBeg c17 := ⟨_, hC17, ⟨rfl, rfl, rfl, HCB12.out.over, HCB12.out.bfr, HCB12.out.bby, HCB12.out.queue, HCB12.out.last⟩⟩
      have HC17 := vl hC17'
      have HCB17 := vl hCB17
      have HOV := vl (kover_any cb c17 rv16 (.slice none 0 0) w17 hC17')
      rw [hCB17.over] at HOV
      clear hC17 hT17 hC17' hCB17 HOU16 HB16
      go_wp2_with fail
      refine HOV.out.mono ?_
      rintro e w' ⟨rfl, rfl⟩
      clear HOV
      go_wp2
      go_meet
      exact ⟨c17, rv16, HC17, HCB17, HB17, HF16⟩
    · go_wp2
      go_meet
      exact ⟨c12, rv11, HC14, HCB12, HB14, HF11⟩
  case rest =>
  obtain ⟨cz, rvz, HCZ, HCBZ, HBZ, HFZ⟩ := hcut
  obtain ⟨w18, hw18⟩ : ∃ x, x = wc := ⟨_, rfl⟩
  subst hw18
  have HW0 := vl (lword_any 0 w18 (by decide) (by decide))
  clear HC14 HB14 HCB12 HF11 HA14
  go_wp2_with fail
  refine HW0.out.mono ?_
  rintro e w19 ⟨g19, rfl, hu19, hb19⟩
  have HU19 := vl hu19
  have HB19 := vl hb19
  have HW1 := vl (lword_any code w19 (by omega) (by omega))
  have hs19 : w18.heap.size ≤ w19.heap.size := hb19.size
  have HLN := vl (big_len (0 : Int))
  have HLM := vl (big_len code)
  clear hu19 hb19 HW0
  go_wp2_with fail
  refine HW1.out.mono ?_
  rintro e w20 ⟨g20, rfl, hu20, hb20⟩
  have HU19' := vl (HU19.out.below hb20)
  have HB20 := vl (HB19.out.trans (hb20.mono hs19))
  have hs20 : w18.heap.size ≤ w20.heap.size := HB20.out.size
  have HA20 : Vl (Arg w20 (some ⟨g20, 0, none⟩) 4 4 (bigL 4 code)) := vl (uown_arg' hu20 (bytes_big code) HLM.out)
  clear hu20 hb20 HW1 HU19 HB19
  go_wp2_with (at_builtin; refine wpList_uapp _ rfl _ _ rfl w18.heap.size _ (bigL 4 0) rfl HU19'.out (some ⟨g20, 0, none⟩) 4 4 (bigL 4 code) rfl HA20.out (fun h => by cases h) (by rw [HLN.out]; decide) hs20 ?_)
  intro v21 w21 hu21 hg21 _
  obtain ⟨BB, hBB⟩ : ∃ x, bigL 4 0 ++ bigL 4 code = x := ⟨_, rfl⟩
  have hBl : BB.length = 8 := by rw [← hBB, List.length_append, HLN.out, HLM.out]
  have hBy : Bytes BB := by rw [← hBB]; exact bytes_app (bytes_big _) (bytes_big _)
  have hBw : word ((BB.drop 4).take 4) = code := by
    have h1 : (BB.drop 4).take 4 = bigL 4 code := by
      rw [← hBB]
      have h2 : (bigL 4 0 ++ bigL 4 code).drop 4 = bigL 4 code := by
        have h3 := List.drop_left (l₁ := bigL 4 0) (l₂ := bigL 4 code)
        rw [HLN.out] at h3
        exact h3
      rw [h2]
      exact List.take_of_length_le (by rw [HLM.out]; decide)
    rw [h1]
    exact word_big4 code (by omega) (by omega)
  rw [hBB] at hu21
  obtain ⟨va, vc, rfl, _⟩ := hu21.slice
  have HB21 : Vl (Below w18.heap.size w18 w21) := vl (HB20.out.grown hg21 hs20 (fun k hk => (HU19'.out.base k hk).1))
  have HC21 := vl (HCZ.out.below HB21.out)
  have HBW21 := vl (HBZ.out.trans (HB21.out.mono HBZ.out.size))
  have hA21 : Arg w21 va BB.length vc BB := UOwn.arg hu21 hBy
  rw [hBl] at hA21
  have HEN := vl (encode_any 6 0 0 va 8 vc BB w21 hA21 hBl)
  rw [hBl]
  have HBL := vl hBl
  have HBY := vl hBy
  have HBW := vl hBw
  clear hu21 hg21 hA21 hBB hBl hBy hBw HU19' HA20 HB20
  go_wp2_with fail
  refine HEN.out.mono ?_
  rintro e w22 ⟨⟨v22, x22, rfl, hm⟩, hb22⟩
  have hB8 : BB.length = 8 := HBL.out
  have hPE : frmE (6, 0, 0, BB) = 0 := by unfold frmE; rw [if_neg (by simp), if_neg (by show ¬ 1024 < BB.length; omega)]
  rcases hm with ⟨_, rfl, ho22⟩ | ⟨hne, _⟩
  case inr => exact absurd hPE hne
  obtain ⟨X, hX⟩ : ∃ x, frmL (6, 0, 0, BB) = x := ⟨_, rfl⟩
  have hXl : X.length = 17 := by rw [← hX, frm_len9b]; show 9 + BB.length = 17; omega
  have hXb : Bytes X := by rw [← hX]; exact bytes_frm hPE HBY.out
  have hXr : rdF X = ((6, 0, 0, BB), (X.length : Int), 0) := by rw [← hX]; exact rd_one _ hPE
  rw [hX] at ho22
  have hu22 := UOwn.of ho22
  obtain ⟨ua22, uc22, rfl, _⟩ := hu22.slice
  have HC22 := vl (HC21.out.below hb22)
  have HB22 := vl (HBW21.out.trans (hb22.mono HBW21.out.size))
  have hk22 := karg_new HC21.out hu22 hXb (Nat.le_refl _)
  have HFD22 := vl (kfeed_event 5 0 code (by decide) cb cz { cz with begun := true, rest := X } rvz (.slice none 0 0) ua22 X.length uc22 X 6 0 0 BB w22 HC22.out hk22 (uown_nil' hu22) (by omega) HCBZ.out.over HCBZ.out.rest hXr (by omega) HCBZ.out.over rfl
    (fun W rv' sv' ba bc hC hK => by
      have hK8 := hK
      rw [hB8] at hK8 ⊢
      have h9 := khear_bye cb { cz with rest := X } rv' sv' 0 0 ba bc BB W hC hK8 HCBZ.out.bfr (ref_bye HCBZ.out.begun hB8)
      rw [HBW.out] at h9
      exact h9))
  rw [hXl] at HFD22
  rw [hXl]
  clear ho22 hu22 hb22 hk22 HEN hX hXb hXr hXl HC21 HBW21 HB21 hB8
  go_wp2_with fail
  refine HFD22.out.mono ?_
  rintro e w23 ⟨v23, rv23, sv23, rfl, hO23, hC23, hT23, hF23, _⟩
  have HB23 : Vl (Below w.heap.size w w23) := vl (hT23.below HB22.out HB22.out.size HFZ.out)
  obtain ⟨g23, gc23, rfl, _, _, hgc23, y0, y2⟩ := hO23.cells3
  have HOV := vl (kover_any cb _ rv23 sv23 w23 hC23)
  have hov : ({ ({ cz with begun := true, rest := X } : CnS) with rest := [] } : CnS).over = false := HCBZ.out.over
  rw [hov] at HOV
  clear hO23 hC23 hT23 hF23 HFD22 hov
  go_wp2_with fail
  refine HOV.out.mono ?_
  rintro e w' ⟨rfl, rfl⟩
  go_wp2
  go_ret
  exact ⟨rfl, HB23.out⟩
end Go.Proofs.YtdlaaollamgplagGreatDoor
