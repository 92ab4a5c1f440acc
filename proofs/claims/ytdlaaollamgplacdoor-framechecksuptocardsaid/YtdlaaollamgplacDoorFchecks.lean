/-
  THE WALK of the law FrameChecks. No claim by itself.
-/
import Derived.Test.YtdlaaollamgplacDoorDchk4
import Derived.Test.YtdlaaollamgplacDoorDsets
import Derived.Test.YtdlaaollamgplacDoorDsets2
import Derived.Test.YtdlaaollamgplacDoorRsplit
import Derived.Test.YtdlaaollamgplacDoorFchk2
import Derived.Test.YtdlaaollamgplacDoorRcheck5
import Derived.Test.YtdlaaollamgplacDoorSfr
import Derived.Deep.RegionHeld3
import Derived.Deep.QuietTactic
import Derived.Laws.AppendOwnNone
import Derived.Deep.DeepCutAuto
import Derived.Deep.CutBlock
import Derived.BigQuiet
namespace Go.Proofs.YtdlaaollamgplacDoor
open Go Go.RowKit
set_option maxRecDepth 100000
/-- A number as bytes, as the document says, whether it may be or not. -/
theorem rbig_both (n s : Int) (w : World) : Calls Tryd.prog 24 #[.int .i64 n, .int .i64 s] w fun e w' => (∃ v x, e = .returned (.tuple #[v, .int .i64 x]) ∧
    ((bigOk n s ∧ x = 0 ∧ ∃ g cap, v = .slice (some ⟨g, 0, none⟩) (bigL s.toNat n).length cap ∧ w'.ownsRow w.heap.size 5 1 (.slice (some ⟨g, 0, none⟩) (bigL s.toNat n).length cap) (bigL s.toNat n).length ((bigL s.toNat n).map (Value.int .u8))) ∨ (¬ bigOk n s ∧ x = 1 ∧ v = .slice none 0 0))) ∧ Below w.heap.size w w' := by
  by_cases h : bigOk n s
  · refine (rbig_row n s w h).mono ?_
    rintro e w' ⟨g, cap, rfl, ho, hb⟩
    exact ⟨⟨_, _, rfl, Or.inl ⟨h, rfl, g, cap, rfl, ho⟩⟩, hb⟩
  · refine (rbig_no n s w h).mono ?_
    rintro e w' ⟨rfl, rfl⟩
    exact ⟨⟨_, _, rfl, Or.inr ⟨h, rfl, rfl⟩⟩, Below.refl _ _⟩
set_option maxHeartbeats 8000000 in
theorem fchecks_ok (k fl st : Int) (fa : Option Addr) (fn fc : Nat) (FZ : List Int) (sm : Int) (a : Option Addr) (len cap : Nat) (Z : List Int) (e : Bool) (pa : Option Addr) (pl pcp : Nat) (P : Nat → Int × Int) (w : World)
    (hg : Laid w) (hF : Arg w fa fn fc FZ) (hFZ : FZ.length = fn) (hA : Arg w a len cap Z) (hZ : Z.length = len) (hcz : len = 0 → cap ≤ maxLen) (hP : PArg w pa pl pcp P)
    (hfl : fn ≤ 1048576) (hll : len ≤ 1048576) (hpl : pl ≤ 1048576) :
    Calls Tryd.prog 6 #[.agg #[.int .i64 k, .int .i64 fl, .int .i64 st, .slice fa fn fc], .int .i64 sm, .slice a len cap, .bool e, .slice pa pl pcp] w fun r w' => r = .returned (.bool true) ∧ Below w.heap.size w w' := by
  obtain ⟨w0, hw0⟩ : ∃ w0, w0 = w.alloc (.cells #[.int .i64 k, .int .i64 fl, .int .i64 st, .slice fa fn fc] 43) := ⟨_, rfl⟩
  have hb0 : Below w.heap.size w w0 := by rw [hw0]; exact (Below.refl _ _).alloc (Nat.le_refl _) _
  have hsz0 : w0.heap.size = w.heap.size + 1 := by rw [hw0]; simp
  have hx : w0.heap[w.heap.size]? = some (.cells #[.int .i64 k, .int .i64 fl, .int .i64 st, .slice fa fn fc] 43 (0, 0)) := by rw [hw0]; exact Array.getElem?_push_size
  have HX : Hid (∀ wx, Below w0.heap.size w0 wx → (wx.cell? ⟨w.heap.size, 0, none⟩ = some (.int .i64 k) ∧ wx.cell? ⟨w.heap.size, 1, none⟩ = some (.int .i64 fl)) ∧ (wx.cell? ⟨w.heap.size, 2, none⟩ = some (.int .i64 st) ∧ wx.cell? ⟨w.heap.size, 3, none⟩ = some (.slice fa fn fc))) := fun wx hb => by
    have g : ∀ i, wx.cell? ⟨w.heap.size, i, none⟩ = (#[Value.int .i64 k, .int .i64 fl, .int .i64 st, .slice fa fn fc] : Array Value)[i]? := fun i => by
      rw [hb.cell (p := ⟨w.heap.size, i, none⟩) (by show w.heap.size < _; omega), cell_of_row w0 w.heap.size i _ _ _ hx]
    exact ⟨⟨g 0, g 1⟩, g 2, g 3⟩
  have HF : Hid (∀ wx, Below w0.heap.size w0 wx → Arg wx fa fn fc FZ) := fun wx hb => hF.below (hb0.trans (hb.mono (by omega)))
  have HA : Hid (∀ wx, Below w0.heap.size w0 wx → Arg wx a len cap Z) := fun wx hb => hA.below (hb0.trans (hb.mono (by omega)))
  have HP : Hid (∀ wx, Below w0.heap.size w0 wx → PArg wx pa pl pcp P) := fun wx hb => hP.below (hb0.trans (hb.mono (by omega)))
  have HG : Hid (∀ wx, Below w0.heap.size w0 wx → Laid wx) := fun wx hb => hg.below (hb0.trans (hb.mono (by omega)))
  have HB0 := hide hb0
  have HW0 := hide hw0
  have HFZ := hide hFZ
  have HZ := hide hZ
  have HCZ := hide hcz
  have HSZ0 := hide hsz0
  have HC1 : Hid (∀ wx, Below w0.heap.size w0 wx → Calls Tryd.prog 20 #[.agg #[.int .i64 k, .int .i64 fl, .int .i64 st, .slice fa fn fc]] wx fun e w' => e = .returned (.int .i64 (chkF k st (bits .and .i64 fl 1 == 1) FZ)) ∧ Below wx.heap.size wx w') := fun wx hb => check_any k fl st fa fn fc FZ wx (HF.out wx hb) hFZ (by omega)
  have HC2 : Hid (∀ wx, Below w0.heap.size w0 wx → Calls Tryd.prog 21 #[.agg #[.int .i64 k, .int .i64 fl, .int .i64 st, .slice fa fn fc]] wx fun e w' => e = .returned (.int .i64 (chkF k st (bits .and .i64 fl 1 == 1) FZ)) ∧ Below wx.heap.size wx w') := fun wx hb => rcheck_any k fl st fa fn fc FZ wx (HF.out wx hb) hFZ
  generalize chkF k st (bits .and .i64 fl 1 == 1) FZ = R at HC1 HC2
  clear hg hF hFZ hA hZ hcz hP hb0 hw0 hx hsz0
  go_enter Tryd.func6, Tryd.ntmps6
  go_wp2_with fail
  rw [← HW0.out]
  have HXD := hide (HX.out w0.drew ((Below.refl _ _).drew))
  have HD := hide ((Below.refl w0.heap.size w0).drew)
  obtain ⟨⟨x0, x1⟩, x2, x3⟩ := HX.out w0 (Below.refl _ _)
  have HC1d := hide (HC1.out w0.drew HD.out)
  have HC2d : Hid (∀ wx, Below w0.drew.heap.size w0.drew wx → Calls Tryd.prog 21 #[.agg #[.int .i64 k, .int .i64 fl, .int .i64 st, .slice fa fn fc]] wx fun e w' => e = .returned (.int .i64 R) ∧ Below wx.heap.size wx w') := fun wx hb => HC2.out wx (HD.out.trans hb)
  have HXS : Hid (∀ wx, Below w0.drew.heap.size w0.drew wx → (wx.cell? ⟨w.heap.size, 0, none⟩ = some (.int .i64 k) ∧ wx.cell? ⟨w.heap.size, 1, none⟩ = some (.int .i64 fl)) ∧ (wx.cell? ⟨w.heap.size, 2, none⟩ = some (.int .i64 st) ∧ wx.cell? ⟨w.heap.size, 3, none⟩ = some (.slice fa fn fc))) := fun wx hb => HX.out wx (HD.out.trans hb)
  have HTR : Hid (∀ wx wy, Below w0.drew.heap.size w0.drew wx → Below wx.heap.size wx wy → Below w0.drew.heap.size w0.drew wy) := fun wx wy h1 h2 => h1.trans (h2.mono h1.size)
  go_region_held3 (fun wx => ((wx.cell? ⟨w.heap.size, 0, none⟩ = some (.int .i64 k) ∧ wx.cell? ⟨w.heap.size, 1, none⟩ = some (.int .i64 fl)) ∧ (wx.cell? ⟨w.heap.size, 2, none⟩ = some (.int .i64 st) ∧ wx.cell? ⟨w.heap.size, 3, none⟩ = some (.slice fa fn fc))))
    (first | (with_reducible exact HXD.out) | (with_reducible exact HXS.out w1 hb1) | (with_reducible exact HXS.out w2 (HTR.out w1 w2 hb1 hb2)))
    (first | (go_at_call 20; refine HC1d.out.mono ?_; rintro e' w1 ⟨rfl, hb1⟩) | (go_at_call 21; refine (HC2d.out w1 hb1).mono ?_; rintro e' w2 ⟨rfl, hb2⟩))
  have B2 := hide (HD.out.trans (HTR.out w1 w2 hb1 hb2))
  have s2 := B2.out.size
  have HRS := hide (rsplit_any sm a len cap Z e w2 (HA.out w2 B2.out) HZ.out (by omega) HCZ.out)
  clear hb1 hb2 HC1 HC2 HC1d HC2d HXD HXS HTR HD x0 x1 x2 x3
  go_wp2_with fail
  refine HRS.out.mono ?_
  rintro e' w3 ⟨g3, c3, A3, C3, rfl, hR3, hb3⟩
  have B3 := hide (B2.out.trans (hb3.mono s2))
  have s3 := B3.out.size
  have HR3 := hide hR3
  have HFS := hide (split_any sm a len cap Z e w3 (HA.out w3 B3.out) HZ.out (by omega))
  clear HRS hR3 hb3 B2 s2
  go_wp2_with fail
  refine HFS.out.mono ?_
  rintro e' w4 ⟨g4, c4, A4, C4, rfl, hR4, hb4⟩
  have B4 := hide (B3.out.trans (hb4.mono s3))
  have s4 := B4.out.size
  have HR4 : Hid (∀ wx, Below w4.heap.size w4 wx → FrRow wx g4 0 (nP len) c4 (sfr sm Z e (nP len)) A4 C4) := fun wx hb => hR4.below hb
  have HR3' : Hid (∀ wx, Below w4.heap.size w4 wx → FrRow wx g3 0 (nP len) c3 (sfr sm Z e (nP len)) A3 C3) := fun wx hb => (HR3.out.below hb4).below hb
  have hc3 := HR3.out.hcap
  have hm3 := HR3.out.hmax
  have hc4 := hR4.hcap
  have hm4 := hR4.hmax
  unfold maxLen at hm3 hm4
  clear HFS hR4 hb4 HR3 B3 s3
  generalize hn : nP len = n at *
  clear hn
  go_wp2
  go_loopw [13] (fun i wr => ∃ j : Nat, i = .int .i64 j ∧ j ≤ n ∧ Hid (Below w4.heap.size w4 wr)) (fun i _ => n - (intOf i).toNat)
  case atStart => exact ⟨0, rfl, by omega, Below.refl _ _⟩
  case round =>
    obtain ⟨j, rfl, hj, HBR⟩ := hrel
    have sr := HBR.out.size
    by_cases hlt : j < n
    · have p1 : (j : Int) < (n : Int) := by omega
      have p0 : (0 : Int) ≤ (j : Int) := by omega
      obtain ⟨⟨⟨fk, ff, fs, FL⟩, hfr⟩⟩ : Nonempty { q : Frm // sfr sm Z e n j = q } := ⟨⟨_, rfl⟩⟩
      have HS : Hid (∀ wx, Below w4.heap.size w4 wx → ((wx.cell? ⟨g4, j * 4, none⟩ = some (.int .i64 fk) ∧ wx.cell? ⟨g4, j * 4 + 1, none⟩ = some (.int .i64 ff)) ∧ (wx.cell? ⟨g4, j * 4 + 2, none⟩ = some (.int .i64 fs) ∧ wx.cell? ⟨g4, j * 4 + 3, none⟩ = some (.slice (A4 j) FL.length (C4 j)))) ∧
          ((wx.cell? ⟨g3, j * 4, none⟩ = some (.int .i64 fk) ∧ wx.cell? ⟨g3, j * 4 + 1, none⟩ = some (.int .i64 ff)) ∧ (wx.cell? ⟨g3, j * 4 + 2, none⟩ = some (.int .i64 fs) ∧ wx.cell? ⟨g3, j * 4 + 3, none⟩ = some (.slice (A3 j) FL.length (C3 j))))) := fun wx hb => by
        have h4 := (HR4.out wx hb).hel j hlt
        have h3 := (HR3'.out wx hb).hel j hlt
        simp only [Nat.zero_add, hfr] at h3 h4
        exact ⟨⟨h4.1, h4.2.1⟩, h3.1, h3.2.1⟩
      have HSF : Hid (Calls Tryd.prog 19 #[.agg #[.int .i64 fk, .int .i64 ff, .int .i64 fs, .slice (A4 j) FL.length (C4 j)], .agg #[.int .i64 fk, .int .i64 ff, .int .i64 fs, .slice (A3 j) FL.length (C3 j)]] wr.drew fun e w' => e = .returned (.bool true) ∧ Below wr.drew.heap.size wr.drew w') := by
        have hbd : Below w4.heap.size w4 wr.drew := HBR.out.drew
        have h4 := ((HR4.out _ hbd).hel j hlt).2.2
        have h3 := ((HR3'.out _ hbd).hel j hlt).2.2
        rw [hfr] at h3 h4
        exact sframe_same fk ff fs (A4 j) FL.length (C4 j) (A3 j) FL.length (C3 j) FL wr.drew h4 h3
      have QD := hide (HS.out wr.drew HBR.out.drew)
      have HSD : Hid (∀ wx, Below wr.drew.heap.size wr.drew wx → Below w4.heap.size w4 wx) := fun wx hb => HBR.out.drew.trans (hb.mono (by show w4.heap.size ≤ wr.heap.size; omega))
      obtain ⟨⟨⟨y1, y2⟩, y3, y4⟩, ⟨y5, y6⟩, y7, y8⟩ := HS.out wr HBR.out
      generalize A4 j = a4 at *
      generalize A3 j = a3 at *
      generalize C4 j = cc4 at *
      generalize C3 j = cc3 at *
      clear hfr
      go_wp2_with fail
      go_region_held3 (fun wx => ((wx.cell? ⟨g4, j * 4, none⟩ = some (.int .i64 fk) ∧ wx.cell? ⟨g4, j * 4 + 1, none⟩ = some (.int .i64 ff)) ∧ (wx.cell? ⟨g4, j * 4 + 2, none⟩ = some (.int .i64 fs) ∧ wx.cell? ⟨g4, j * 4 + 3, none⟩ = some (.slice a4 FL.length cc4))) ∧ ((wx.cell? ⟨g3, j * 4, none⟩ = some (.int .i64 fk) ∧ wx.cell? ⟨g3, j * 4 + 1, none⟩ = some (.int .i64 ff)) ∧ (wx.cell? ⟨g3, j * 4 + 2, none⟩ = some (.int .i64 fs) ∧ wx.cell? ⟨g3, j * 4 + 3, none⟩ = some (.slice a3 FL.length cc3))))
        (first | (with_reducible exact QD.out) | (with_reducible exact HS.out w5 (HSD.out w5 hb5)))
        ((go_at_call 19; refine HSF.out.mono ?_; rintro e' w5 ⟨rfl, hb5⟩))
      have B5 := hide (HSD.out w5 hb5)
      clear hb5 HSF QD HS HSD y1 y2 y3 y4 y5 y6 y7 y8 HBR
      go_wp2
      go_roundw
      case rel => exact ⟨j + 1, by go_num, by omega, B5.out⟩
      case measure => simp [intOf]; omega
    · have p1 : ¬ ((j : Int) < (n : Int)) := by omega
      have BR := hide (B4.out.trans (HBR.out.mono s4))
      have sBR := BR.out.size
      clear HBR HR4 HR3' B4 hc3 hm3 hc4 hm4
      obtain ⟨i0, hi, hz0, hz1, hz2⟩ := info_parts info5
      go_upto_block 2 with fail
      clear hlt p1 sr s4 hj
      go_cut [15, 16, 17, 18, 19, 20, 21] (fun ev bv _ _ _ _ _ wx => ∃ ep : Int, ev = .int .i64 ep ∧ Hid (L2 P pl pl w0.heap.size wx ep bv) ∧ Hid (Below w0.heap.size w0 wx))
      case first =>
        as_aux_lemma =>
          go_wp2_with fail
          go_loopw [15, 16, 17] (fun ev bv i wr => ∃ (k : Nat) (ep : Int), i = .int .i64 k ∧ ev = .int .i64 ep ∧ k ≤ pl ∧ Hid (L2 P pl k w0.heap.size wr ep bv) ∧ Hid (Below w0.heap.size w0 wr)) (fun _ _ i _ => pl - (intOf i).toNat)
          case atStart => exact ⟨0, 0, rfl, rfl, by omega, Or.inl ⟨rfl, fun t ht => by omega, World.ownsRow_nil _ _ _ _⟩, BR.out⟩
          case round =>
            obtain ⟨q, ep, rfl, rfl, hq, HL, HBq⟩ := hrel
            have sq := HBq.out.size
            by_cases hlq : q < pl
            case neg =>
              have p1 : ¬ ((q : Int) < (pl : Int)) := by omega
              have hqe : q = pl := by omega
              subst hqe
              clear hlq hq
              go_wp2_with fail
              go_meet
              exact ⟨ep, rfl, HL.out, HBq.out⟩
            have p1 : (q : Int) < (pl : Int) := by omega
            rcases HL.out with ⟨hep, hall, hown⟩ | ⟨hep, hbad⟩
            case inr =>
              subst hep
              have HBD := hide hbad
              clear hbad HL
              go_wp2_with fail
              go_meet
              exact ⟨1, rfl, Or.inr ⟨rfl, HBD.out⟩, HBq.out⟩
            subst hep
            have HALL := hide hall
            have HO := hide hown
            clear hall hown HL
            obtain ⟨pg, po, rfl, hc1, hc2, hcx, hcy⟩ : ∃ g off, pa = some ⟨g, off, none⟩ ∧ pl ≤ pcp ∧ pcp ≤ maxLen ∧ wr.cell? ⟨g, off + q * 2, none⟩ = some (.int .i64 (P q).1) ∧ wr.cell? ⟨g, off + q * 2 + 1, none⟩ = some (.int .i64 (P q).2) := by
              rcases HP.out wr HBq.out with h | ⟨g, off, ha, h1, h2, h3⟩
              · omega
              · exact ⟨g, off, ha, h1, h2, h3 q hlq⟩
            have HCY : Hid (∀ wx, Below wr.heap.size wr wx → wx.cell? ⟨pg, po + q * 2 + 1, none⟩ = some (.int .i64 (P q).2)) := fun wx hb => (hb.cell (p := ⟨pg, po + q * 2 + 1, none⟩) (lt_cell hcx)).trans hcy
            have HPS := hide (pfx_succ P q)
            have HOK2 : Hid (okP (P q) → ∀ t, t < q + 1 → okP (P t)) := fun h t ht => by
              by_cases e : t = q
              · rw [e]; exact h
              · exact HALL.out t (by omega)
            have HBAD : Hid (¬ okP (P q) → ∃ t, t < pl ∧ ¬ okP (P t)) := fun h => ⟨q, hlq, h⟩
            generalize P q = p at *
            obtain ⟨x, y⟩ := p
            dsimp only at hcx hcy HCY
            have HR1 := hide (rbig_both x 2 wr)
            clear hcy HP HALL
            go_wp2_with fail
            refine HR1.out.mono ?_
            rintro e' wa ⟨⟨vx, ex, rfl, hxx⟩, hba⟩
            have sa := hba.size
            have hcya := HCY.out wa hba
            have Ba := hide (HBq.out.trans (hba.mono sq))
            have Oa := hide (own_below HO.out hba)
            have HXX := hide hxx
            have HR2 := hide (rbig_both y 4 wa)
            have HBA := hide hba
            clear hba hxx HR1 HCY hcx HO
            go_wp2_with fail
            refine HR2.out.mono ?_
            rintro e' wb ⟨⟨vy, ey, rfl, hyy⟩, hbb⟩
            have sb := hbb.size
            have Bb := hide (Ba.out.trans (hbb.mono (by omega)))
            have Ob := hide (own_below Oa.out hbb)
            have HYY := hide hyy
            have HBB := hide hbb
            have HBK : Hid (∀ t, (u16 : Value).ownBlock = some t → t < wa.heap.size) := fun t ht => (Oa.out.lt t ht).2
            clear hbb hyy HR2 hcya Oa Ba HBA
            rcases HXX.out with ⟨ox, rfl, gx, cx, rfl, hox⟩ | ⟨nx, rfl, rfl⟩
            · have hlx : (bigL (2 : Int).toNat x).length = 2 := bigL_len 2 x
              have RX := hide ((row_of rfl hox (bigL_byte 2 x)).below HBB.out)
              have hox' := ox
              clear hox ox
              rcases HYY.out with ⟨oy, rfl, gy, cy, rfl, hoy⟩ | ⟨ny, rfl, rfl⟩
              · have hly : (bigL (4 : Int).toNat y).length = 4 := bigL_len 4 y
                have RY := hide (row_of rfl hoy (bigL_byte 4 y))
                have HGY := hide (hoy.lt gy rfl).1
                have HK2 := hide (HOK2.out ⟨hox', oy⟩)
                clear hoy oy hox' HXX HYY HOK2 HBAD
                generalize hQx : bigL (2 : Int).toNat x = Qx at *
                generalize hQy : bigL (4 : Int).toNat y = Qy at *
                have HQ : Hid (bigL 2 x ++ bigL 4 y = Qx ++ Qy) := by show _ = _; rw [← hQx, ← hQy]; rfl
                have HLX := hide hlx
                have HLY := hide hly
                clear hQx hQy hlx hly
                go_wp2_with (at_builtin; refine wpList_append_own _ rfl _ _ 29 rfl w0.heap.size 5 i0 (.int .u8 0) 1 1 Tryd.underlying29 hi hz0 hz1 hz2 rfl (by decide) _ _ _ rfl Ob.out ⟨gx, 0, none⟩ Qx.length cx (Qx.map (Value.int .u8)) rfl (by rw [List.length_map]; omega) (fr_news RX.out) (fr_one Qx) (by have := HLX.out; have := HLY.out; unfold maxLen; omega) (by have := HLX.out; have := HLY.out; omega) (by omega) ?_)
                intro v6 w6 hown6 hgrow6 _
                have B6 := hide (Bb.out.grown hgrow6 (by omega) (fun t ht => by have := (Ob.out.lt t ht).1; omega))
                have O6 := hide hown6
                have s6 := hgrow6.size
                have RY6 : Hid (Row w6 gy 0 Qy.length cy Qy) := by
                  obtain ⟨y1, y2, y3, y4, y5⟩ := RY.out
                  exact ⟨y1, y2, y3, fun t ht => hgrow6.cell (y4 t ht) (fun e => by have := HBK.out gy e.symm; have := HGY.out; omega), y5⟩
                clear hown6 hgrow6
                go_wp2_with (at_builtin; refine wpList_append_own _ rfl _ _ 29 rfl w0.heap.size 5 i0 (.int .u8 0) 1 1 Tryd.underlying29 hi hz0 hz1 hz2 rfl (by decide) _ _ _ rfl O6.out ⟨gy, 0, none⟩ Qy.length cy (Qy.map (Value.int .u8)) rfl (by rw [List.length_map]; omega) (fr_news RY6.out) (fr_one Qy) (by have := HLX.out; have := HLY.out; unfold maxLen; omega) (by have := HLX.out; have := HLY.out; omega) (by omega) ?_)
                intro v7 w7 hown7 hgrow7 _
                have B7 := hide (B6.out.grown hgrow7 (by omega) (fun t ht => by have := (O6.out.lt t ht).1; omega))
                have O7 := hide hown7
                clear hown7 hgrow7
                go_wp2
                go_roundw
                case rel => exact ⟨q + 1, 0, by go_num, rfl, by omega, Or.inl ⟨rfl, HK2.out, by
                  rw [HPS.out, HQ.out, List.map_append, List.map_append, show 6 * (q + 1) = 6 * q + Qx.length + Qy.length by have := HLX.out; have := HLY.out; omega]
                  exact O7.out⟩, B7.out⟩
                case measure => simp [intOf]; omega
              · have HBD := hide (HBAD.out (fun h => ny h.2))
                clear ny hox' HXX HYY HOK2 HBAD
                generalize bigL (2 : Int).toNat x = Qx at *
                have HLX := hide hlx
                clear hlx
                go_wp2_with (at_builtin; refine wpList_append_own _ rfl _ _ 29 rfl w0.heap.size 5 i0 (.int .u8 0) 1 1 Tryd.underlying29 hi hz0 hz1 hz2 rfl (by decide) _ _ _ rfl Ob.out ⟨gx, 0, none⟩ Qx.length cx (Qx.map (Value.int .u8)) rfl (by rw [List.length_map]; omega) (fr_news RX.out) (fr_one Qx) (by have := HLX.out; unfold maxLen; omega) (by have := HLX.out; omega) (by omega) ?_)
                intro v6 w6 hown6 hgrow6 _
                have BB := hide (Bb.out.grown hgrow6 (by omega) (fun t ht => (Ob.out.lt t ht).1))
                have O6 := hide hown6
                clear hown6 hgrow6
                go_wp2_with (at_builtin; refine wpList_append_own_none rfl _ _ 29 rfl w0.heap.size 5 i0 1 Tryd.underlying29 hi _ _ _ rfl O6.out rfl ?_)
                go_roundw
                case rel => exact ⟨q + 1, 1, by go_num, rfl, by omega, Or.inr ⟨rfl, HBD.out⟩, BB.out⟩
                case measure => simp [intOf]; omega
            · have HBD := hide (HBAD.out (fun h => nx h.1))
              clear nx HXX HOK2 HBAD
              rcases HYY.out with ⟨oy, rfl, gy, cy, rfl, hoy⟩ | ⟨ny, rfl, rfl⟩
              · have hly : (bigL (4 : Int).toNat y).length = 4 := bigL_len 4 y
                have RY := hide (row_of rfl hoy (bigL_byte 4 y))
                clear hoy oy HYY
                generalize bigL (4 : Int).toNat y = Qy at *
                have HLY := hide hly
                clear hly
                go_wp2_with (first | (at_builtin; refine wpList_append_own_none rfl _ _ 29 rfl w0.heap.size 5 i0 1 Tryd.underlying29 hi _ _ _ rfl Ob.out rfl ?_) | (at_builtin; refine wpList_append_own _ rfl _ _ 29 rfl w0.heap.size 5 i0 (.int .u8 0) 1 1 Tryd.underlying29 hi hz0 hz1 hz2 rfl (by decide) _ _ _ rfl Ob.out ⟨gy, 0, none⟩ Qy.length cy (Qy.map (Value.int .u8)) rfl (by rw [List.length_map]; omega) (fr_news RY.out) (fr_one Qy) (by have := HLY.out; unfold maxLen; omega) (by have := HLY.out; omega) (by omega) ?_; intro v6 w6 hown6 hgrow6 _; have BB := hide (Bb.out.grown hgrow6 (by omega) (fun t ht => (Ob.out.lt t ht).1)); clear hown6 hgrow6))
                go_roundw
                case rel => exact ⟨q + 1, 1, by go_num, rfl, by omega, Or.inr ⟨rfl, HBD.out⟩, BB.out⟩
                case measure => simp [intOf]; omega
              · clear ny HYY
                have BB := Bb
                go_wp2_with (at_builtin; refine wpList_append_own_none rfl _ _ 29 rfl w0.heap.size 5 i0 1 Tryd.underlying29 hi _ _ _ rfl Ob.out rfl ?_)
                go_roundw
                case rel => exact ⟨q + 1, 1, by go_num, rfl, by omega, Or.inr ⟨rfl, HBD.out⟩, BB.out⟩
                case measure => simp [intOf]; omega
      case rest =>
      obtain ⟨ep, rfl, HL2, HB2⟩ := hcut
      clear BR sBR
      go_upto_region 24 with fail
      go_cut [113] (fun c wx => (∃ qb : Bool, c = .bool qb ∧ Hid (L3' P pl w0.heap.size wc (if qb then 4 else ep) u16)) ∧ wc = wx)
      case first =>
        as_aux_lemma =>
          rcases HL2.out with ⟨hep, hall, hown⟩ | ⟨hep, hbad⟩
          · subst hep
            obtain ⟨ba, bc, hbv⟩ := own_sl hown
            subst hbv
            have HALL := hide hall
            have HO := hide hown
            clear hall hown HL2
            by_cases h1 : 1024 < 6 * pl
            · have p1 : (1024 : Int) < ((6 * pl : Nat) : Int) := by omega
              go_wp2
              go_meet
              exact ⟨⟨true, by simp; omega, Or.inr (Or.inl ⟨rfl, HALL.out, h1⟩)⟩, rfl⟩
            · have p1 : ¬ ((1024 : Int) < ((6 * pl : Nat) : Int)) := by omega
              go_wp2
              go_meet
              exact ⟨⟨false, by simp; omega, Or.inl ⟨rfl, HALL.out, by omega, HO.out⟩⟩, rfl⟩
          · subst hep
            have HBD := hide hbad
            clear hbad HL2
            go_wp2
            go_meet
            exact ⟨⟨false, by simp, Or.inr (Or.inr ⟨rfl, HBD.out⟩)⟩, rfl⟩
      case rest =>
      obtain ⟨⟨qb, rfl, HL3⟩, rfl⟩ := hcut
      clear HL2
      go_upto_if 113 with fail
      go_cut [15] (fun ev wx => (∃ eq : Int, ev = .int .i64 eq ∧ Hid (L3' P pl w0.heap.size wc eq u16)) ∧ wc = wx)
      case first =>
        as_aux_lemma =>
          cases qb with
          | true =>
            go_wp2
            go_meet
            exact ⟨⟨4, rfl, HL3.out⟩, rfl⟩
          | false =>
            go_wp2
            go_meet
            exact ⟨⟨ep, rfl, HL3.out⟩, rfl⟩
      case rest =>
      obtain ⟨⟨eq, rfl, HL4⟩, rfl⟩ := hcut
      clear HL3
      go_upto_if 115 with fail
      go_cut [16] (fun bv wx => Hid (L3 P pl w0.heap.size wc eq bv) ∧ wc = wx)
      case first =>
        as_aux_lemma =>
          rcases HL4.out with ⟨hep, h1, h2, h3⟩ | ⟨hep, h1, h2⟩ | ⟨hep, h1⟩
          all_goals
            subst hep
            have H1 := hide h1
            clear h1 HL4
          · have H3 := hide h3
            clear h3
            go_wp2
            go_meet
            exact ⟨Or.inl ⟨rfl, H1.out, h2, H3.out⟩, rfl⟩
          · go_wp2
            go_meet
            exact ⟨Or.inr (Or.inl ⟨rfl, H1.out, h2, rfl⟩), rfl⟩
          · go_wp2
            go_meet
            exact ⟨Or.inr (Or.inr ⟨rfl, H1.out, rfl⟩), rfl⟩
      case rest =>
      obtain ⟨HL5, rfl⟩ := hcut
      clear HL4
      have HST := hide (sets_any pa pl pcp P wc (HP.out wc HB2.out) (by omega))
      go_wp2_with fail
      refine HST.out.mono ?_
      rintro e' w8 ⟨cv, cx, rfl, hct, hb8⟩
      have B8 := hide (HB2.out.trans (hb8.mono (HB2.out.size)))
      obtain ⟨Q, ca, cl, cc, ba, bl, bc, rfl, hbv, hcA, hbA, hEO⟩ := sets_meet HL5.out hct hb8 (HG.out w8 B8.out)
      subst hbv
      have s8 := B8.out.size
      have HEO := hide hEO
      have HCS : Hid (∀ wx, Below w8.heap.size w8 wx → (convert 29 9 (.slice ca cl cc)).run Tryd.prog wx = .ok (.string (strOfNums Q)) wx ∧ (convert 29 9 (.slice ba bl bc)).run Tryd.prog wx = .ok (.string (strOfNums Q)) wx) := fun wx hb => ⟨string_arg (hcA.below hb), string_arg (hbA.below hb)⟩
      generalize strOfNums Q = SQ at *
      clear hct hb8 hcA hbA hEO HL5 HST HB2 HP
      go_wp2_with fail
      refine HEO.out.mono ?_
      rintro e' w9 ⟨rfl, hb9⟩
      have B9 := hide (B8.out.trans (hb9.mono s8))
      have s9 := B9.out.size
      have HC9 : Hid (∀ wx, Below w9.heap.size w9 wx → (convert 29 9 (.slice ca cl cc)).run Tryd.prog wx = .ok (.string SQ) wx ∧ (convert 29 9 (.slice ba bl bc)).run Tryd.prog wx = .ok (.string SQ) wx) := fun wx hb => HCS.out wx (hb9.trans (hb.mono hb9.size))
      obtain ⟨⟨x0, x1⟩, x2, x3⟩ := HX.out w9 B9.out
      clear HEO HCS hb9 B8 s8
      go_upto_if 128 with fail
      go_cut [15] (fun ev wx => (∃ eq : Int, ev = .int .i64 eq ∧ Hid (L6 FZ fn 0 w9.heap.size w9 eq (.slice none 0 0))) ∧ w9 = wx)
      case first =>
        as_aux_lemma =>
          by_cases h6 : fn % 6 = 0
          · have p6 : (((fn : Int) % 6) != 0) = false := by simp; omega
            go_wp2
            go_meet
            exact ⟨⟨0, rfl, Or.inl ⟨rfl, h6, fun t ht => by omega, World.ownsRow_nil _ _ _ _⟩⟩, rfl⟩
          · have p6 : (((fn : Int) % 6) != 0) = true := by simp; omega
            go_wp2
            go_meet
            exact ⟨⟨3, rfl, Or.inr (Or.inl ⟨rfl, h6⟩)⟩, rfl⟩
      case rest =>
      obtain ⟨⟨e3, rfl, HL6⟩, rfl⟩ := hcut
      go_upto_block 4 with fail
      go_cut [15, 25, 26, 27, 28] (fun ev sv _ _ _ wx => ∃ eq : Int, ev = .int .i64 eq ∧ Hid (L6 FZ fn (fn / 6) w9.heap.size wx eq sv) ∧ Hid (Below w9.heap.size w9 wx))
      case first =>
        as_aux_lemma =>
          obtain ⟨i2, hi2, hy0, hy1, hy2⟩ := info_parts infoA2
          have HI2 := hide (show Tryd.prog.info? 59 = some i2 ∧ i2.zero = some (.agg #[.int .i64 0, .int .i64 0]) ∧ i2.size = 2 ∧ i2.bytes = 16 from ⟨hi2, hy0, hy1, hy2⟩)
          clear hi2 hy0 hy1 hy2 x0 x1 x2 x3
          go_wp2_with fail
          go_loopw [15, 25, 26] (fun ev sv i wr => ∃ (t : Nat) (eq : Int), i = .int .i64 t ∧ ev = .int .i64 eq ∧ Hid (∃ j, t = 6 * j ∧ t < fn + 6 ∧ L6 FZ fn j w9.heap.size wr eq sv) ∧ Hid (Below w9.heap.size w9 wr)) (fun _ _ i _ => fn + 6 - (intOf i).toNat)
          case atStart => exact ⟨0, e3, rfl, rfl, ⟨0, rfl, by omega, HL6.out⟩, Below.refl _ _⟩
          case round =>
            obtain ⟨t, eq, rfl, rfl, HJ, HBr⟩ := hrel
            have sr := HBr.out.size
            have Br := hide (B9.out.trans (HBr.out.mono s9))
            have sbr := Br.out.size
            obtain ⟨⟨x0, x1⟩, x2, x3⟩ := HX.out wr Br.out
            obtain ⟨j, htj, htf, hL⟩ := HJ.out
            rcases hL with ⟨hep, h6, hall, hown⟩ | ⟨hep, h6⟩ | ⟨hep, h6, hbad⟩
            case inr.inl =>
              subst hep
              have H6 := hide h6
              clear h6 HJ
              go_wp2_with fail
              go_meet
              exact ⟨3, rfl, Or.inr (Or.inl ⟨rfl, H6.out⟩), HBr.out⟩
            case inr.inr =>
              subst hep
              have H6 := hide h6
              have HBD := hide hbad
              clear h6 hbad HJ
              go_wp2_with fail
              go_meet
              exact ⟨10, rfl, Or.inr (Or.inr ⟨rfl, H6.out, HBD.out⟩), HBr.out⟩
            subst hep
            have HALL := hide hall
            have HO := hide hown
            have H6 := hide h6
            have HTJ := hide htj
            clear hall hown HJ
            by_cases hlt : t < fn
            case neg =>
              have p1 : ¬ ((t : Int) < (fn : Int)) := by omega
              have HJE := hide (show j = fn / 6 by omega)
              clear h6 htj htf
              go_wp2_with fail
              go_meet
              exact ⟨0, rfl, by rw [← HJE.out]; exact Or.inl ⟨rfl, H6.out, HALL.out, HO.out⟩, HBr.out⟩
            have hj6 : j < fn / 6 := by omega
            obtain ⟨fg, fo, rfl, hrow⟩ : ∃ g off, fa = some ⟨g, off, none⟩ ∧ Row wr g off fn fc FZ := by
              rcases HF.out wr Br.out with ⟨h0, _⟩ | h
              · omega
              · exact h
            have hcap := hrow.hcap
            have hmx := hrow.hmax
            unfold maxLen at hmx
            have p1 : (t : Int) < (fn : Int) := by omega
            have b1 : (t : Int) + 6 ≤ (fn : Int) := by omega
            have b2 : (t : Int) + 6 ≤ (fc : Int) := by omega
            have HWA : Hid (Calls Tryd.prog 26 #[.slice (some ⟨fg, fo + t, none⟩) 2 (fc - t)] wr fun e w' => e = .returned (.int .i64 (sId FZ j)) ∧ wr = w') := by
              have h := word_any fg (fo + t) 2 (fc - t) ((FZ.drop t).take 2) wr (row_part hrow t 2 (fc - t) (by omega) (by omega) (by unfold maxLen; omega)) (by decide)
              rw [htj] at h ⊢
              exact h
            have HWB : Hid (Calls Tryd.prog 26 #[.slice (some ⟨fg, fo + (t + 2), none⟩) 4 (fc - (t + 2))] wr fun e w' => e = .returned (.int .i64 (sVal FZ j)) ∧ wr = w') := by
              have h := word_any fg (fo + (t + 2)) 4 (fc - (t + 2)) ((FZ.drop (t + 2)).take 4) wr (row_part hrow (t + 2) 4 (fc - (t + 2)) (by omega) (by omega) (by unfold maxLen; omega)) (by decide)
              rw [htj] at h ⊢
              exact h
            have HSC := hide (sCells_snoc FZ (List.range j) j)
            have HNX : Hid (sVal FZ j ≤ 2147483647 → ∀ q, q < j + 1 → sVal FZ q ≤ 2147483647) := fun h q hq => by
              by_cases e : q = j
              · rw [e]; exact h
              · exact HALL.out q (by omega)
            have HBDX : Hid (2147483647 < sVal FZ j → ∃ q, q < fn / 6 ∧ 2147483647 < sVal FZ q) := fun h => ⟨j, hj6, h⟩
            have hj48 : j + 1 ≤ 1048576 := by omega
            generalize sId FZ j = p at *
            generalize sVal FZ j = x at *
            clear hrow htj htf h6 hj6 HALL
            go_wp2_with fail
            refine HWA.out.mono ?_
            rintro e' w' ⟨rfl, rfl⟩
            clear HWA
            go_wp2_with fail
            refine HWB.out.mono ?_
            rintro e' w' ⟨rfl, rfl⟩
            clear HWB
            by_cases hx : 2147483647 < x
            · have HBD := hide (HBDX.out hx)
              clear HNX HBDX
              go_wp2_with (at_builtin; refine wpList_append_own _ rfl _ _ 54 rfl w9.heap.size 59 i2 (.agg #[.int .i64 0, .int .i64 0]) 2 16 Tryd.underlying54 HI2.out.1 HI2.out.2.1 HI2.out.2.2.1 HI2.out.2.2.2 rfl (by decide) _ j _ rfl (HO.out.alloc _) ⟨wr.heap.size, 0, none⟩ 1 1 [.int .i64 p, .int .i64 x] rfl rfl (news_two wr _ _) (one_two _ _) (by unfold maxLen; omega) (by omega) (by rw [World.size_alloc]; omega) ?_)
              intro v3 w3 hown3 hgrow3 _
              have B3 := hide ((HBr.out.alloc (by omega) _).grown hgrow3 (by rw [World.size_alloc]; omega) (fun q hq => (HO.out.lt q hq).1))
              clear hown3 hgrow3
              go_wp2
              go_roundw
              case rel => exact ⟨t + 6, 10, by go_num, rfl, ⟨j + 1, by have := HTJ.out; omega, by omega, Or.inr (Or.inr ⟨rfl, H6.out, HBD.out⟩)⟩, B3.out⟩
              case measure => simp [intOf]; omega
            · have HN := hide (HNX.out (by omega))
              clear HNX HBDX
              go_wp2_with (at_builtin; refine wpList_append_own _ rfl _ _ 54 rfl w9.heap.size 59 i2 (.agg #[.int .i64 0, .int .i64 0]) 2 16 Tryd.underlying54 HI2.out.1 HI2.out.2.1 HI2.out.2.2.1 HI2.out.2.2.2 rfl (by decide) _ j _ rfl (HO.out.alloc _) ⟨wr.heap.size, 0, none⟩ 1 1 [.int .i64 p, .int .i64 x] rfl rfl (news_two wr _ _) (one_two _ _) (by unfold maxLen; omega) (by omega) (by rw [World.size_alloc]; omega) ?_)
              intro v3 w3 hown3 hgrow3 _
              have B3 := hide ((HBr.out.alloc (by omega) _).grown hgrow3 (by rw [World.size_alloc]; omega) (fun q hq => (HO.out.lt q hq).1))
              have O3 := hide hown3
              clear hown3 hgrow3
              go_wp2
              go_roundw
              case rel => exact ⟨t + 6, 0, by go_num, rfl, ⟨j + 1, by have := HTJ.out; omega, by omega, Or.inl ⟨rfl, H6.out, HN.out, by rw [List.range_succ, HSC.out]; exact O3.out⟩⟩, B3.out⟩
              case measure => simp [intOf]; omega
      case rest =>
      obtain ⟨e4, rfl, HL8, HB10⟩ := hcut
      clear HL6 x0 x1 x2 x3
      go_upto_if 164 with fail
      go_cut [25] (fun sv wx => Hid (L7 FZ fn w9.heap.size wc e4 sv) ∧ wc = wx)
      case first =>
        as_aux_lemma =>
          rcases HL8.out with ⟨hep, h1, h2, h3⟩ | ⟨hep, h1⟩ | ⟨hep, h1, h2⟩
          · subst hep
            have H2 := hide h2
            have H3 := hide h3
            have H1 := hide h1
            clear h1 h2 h3 HL8
            go_wp2
            go_meet
            exact ⟨Or.inl ⟨rfl, H1.out, H2.out, H3.out⟩, rfl⟩
          · subst hep
            have H1 := hide h1
            clear h1 HL8
            go_wp2
            go_meet
            exact ⟨Or.inr (Or.inl ⟨rfl, H1.out, rfl⟩), rfl⟩
          · subst hep
            have H1 := hide h1
            have H2 := hide h2
            clear h1 h2 HL8
            go_wp2
            go_meet
            exact ⟨Or.inr (Or.inr ⟨rfl, H1.out, H2.out, rfl⟩), rfl⟩
      case rest =>
      obtain ⟨HL9, rfl⟩ := hcut
      clear HL8
      have B10 := hide (B9.out.trans (HB10.out.mono s9))
      have s10 := B10.out.size
      obtain ⟨⟨x0, x1⟩, x2, x3⟩ := HX.out wc B10.out
      have HRT := hide (rsets_any fa fn fc FZ wc (HF.out wc B10.out) (by omega))
      go_wp2_with fail
      refine HRT.out.mono ?_
      rintro e' w11 ⟨mv, mx, rfl, hmt, hb11⟩
      have B11 := hide (B10.out.trans (hb11.mono s10))
      obtain ⟨N, hNf, hM, hS, hEO⟩ := rsets_meet HL9.out hmt hb11 (HG.out w11 B11.out)
      have s11 := B11.out.size
      have HEO := hide hEO
      have HM : Hid (∀ wx, Below w11.heap.size w11 wx → PrRow wx mv N FZ ∧ PrRow wx u25 N FZ) := fun wx hb => ⟨hM.below hb, hS.below hb⟩
      have HC11 : Hid (∀ wx, Below w11.heap.size w11 wx → (convert 29 9 (.slice ca cl cc)).run Tryd.prog wx = .ok (.string SQ) wx ∧ (convert 29 9 (.slice ba bl bc)).run Tryd.prog wx = .ok (.string SQ) wx) := fun wx hb => HC9.out wx (HB10.out.trans ((hb11.trans (hb.mono hb11.size)).mono HB10.out.size))
      clear hmt hb11 hM hS hEO HL9 HRT HC9 HB10 B10 s10 x0 x1 x2 x3
      go_wp2_with fail
      refine HEO.out.mono ?_
      rintro e' w12 ⟨rfl, hb12⟩
      have B12 := hide (B11.out.trans (hb12.mono s11))
      obtain ⟨cs1, cs2⟩ := HC11.out w12 hb12
      obtain ⟨hM12, hS12⟩ := HM.out w12 hb12
      clear HEO hb12 HC11 HM B11 s11 HX HF HA HG
      obtain ⟨ma, mc, hmv⟩ := pr_shape hM12
      obtain ⟨sa, sc, hsv⟩ := pr_shape hS12
      subst hmv
      subst hsv
      have HM2 : Hid (∀ wx, Below w12.heap.size w12 wx → PrRow wx (.slice ma N mc) N FZ ∧ PrRow wx (.slice sa N sc) N FZ) := fun wx hb => ⟨hM12.below hb, hS12.below hb⟩
      have s12 := B12.out.size
      clear hM12 hS12
      go_wp2
      clear cs1 cs2
      go_loopw [31] (fun i wr => ∃ t : Nat, i = .int .i64 t ∧ t ≤ N ∧ Hid (Below w12.heap.size w12 wr)) (fun i _ => N - (intOf i).toNat)
      case atStart => exact ⟨0, rfl, by omega, Below.refl _ _⟩
      case round =>
        obtain ⟨t, rfl, ht, HBt⟩ := hrel
        by_cases hlt : t < N
        · have p1 : (t : Int) < (N : Int) := by omega
          have p0 : (0 : Int) ≤ (t : Int) := by omega
          obtain ⟨h1, h2⟩ := HM2.out wr HBt.out
          obtain ⟨mg, rfl, m1, m2, m3, m4⟩ := pr_some h1 hlt
          obtain ⟨sg, rfl, q1, q2, q3, q4⟩ := pr_some h2 hlt
          unfold maxLen at m2 q2
          have hqn := run_neqA (sId FZ t) (sVal FZ t)
          have hqg := eqGuardA
          generalize sId FZ t = xx at *
          generalize sVal FZ t = yy at *
          clear h1 h2
          go_wp2_with fail
          go_quiet (fail)
          go_wp2
          go_roundw
          case rel => exact ⟨t + 1, by go_num, by omega, drewN_below HBt.out _⟩
          case measure => simp [intOf]; omega
        · have p1 : ¬ ((t : Int) < (N : Int)) := by omega
          go_wp2
          go_ret
          exact ⟨rfl, HB0.out.trans ((B12.out.trans (HBt.out.mono s12)).mono HB0.out.size)⟩
end Go.Proofs.YtdlaaollamgplacDoor
