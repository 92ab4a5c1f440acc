/-
  THE WALK of the Go function tolllaw2.LineTells, its callees by their contracts. No claim by itself.
-/
import Derived.Test.YtgjolljhjagngafDoorNlike
import Derived.Test.YtgjolljhjagngafDoorTold
import Derived.Deep.DeepCutAuto
import Derived.Deep.CutBlock
namespace Go.Proofs.YtgjolljhjagngafDoor
open Go.RowKit
set_option maxRecDepth 100000
/-- An error, held against its number. -/
theorem error_w (n : Int) (w : World) (hg : Laid w) : Calls Tryd.prog 10 #[errW n, .int .i64 n] w fun e w' => e = .returned (.bool true) ∧ Below w.heap.size w w' := by
  unfold errW
  by_cases h : n = 0
  · rw [if_pos h]
    refine (error_nil n w).mono ?_
    rintro e w' ⟨rfl, rfl⟩
    exact ⟨by rw [h]; rfl, Below.refl _ _⟩
  · rw [if_neg h]
    refine (error_hit n n w hg).mono ?_
    rintro e w' ⟨rfl, hb⟩
    exact ⟨by simp, hb⟩
set_option maxHeartbeats 8000000 in
theorem ntells_ok (D : NLd) (hT : NTokSaid D) (hP : NPlainSaid D) (hA : NAskSaid D) (hE : NTellSaid D) (q : RqM) (a : RpM) (size : Int) (s : ByteArray) (w : World) (hq : RqIn w q) (ha : RpIn w a) (hi : I64 size) (hs : s.size ≤ 140737488351232) (hg : Laid w) (hd : D.P w) :
    Calls Tryd.prog 5 #[q.val, a.val, .int .i64 size, .string s] w fun e w' => e = .returned (.bool true) ∧ Below w.heap.size w w' := by
  obtain ⟨W1, hW1⟩ : ∃ W1, W1 = w.alloc (.cells #[.string q.m, .string q.p, .string q.h, .slice q.fa q.fn q.fc, .slice q.ba q.bn q.bc] 34) := ⟨_, rfl⟩
  obtain ⟨W0, hW0⟩ : ∃ W0, W0 = W1.alloc (.cells #[.int .i64 a.code, .slice a.fa a.fn a.fc, .slice a.ba a.bn a.bc] 36) := ⟨_, rfl⟩
  have hb1 : Below w.heap.size w W1 := by rw [hW1]; exact (Below.refl _ _).alloc (Nat.le_refl _) _
  have hb0 : Below W1.heap.size W1 W0 := by rw [hW0]; exact (Below.refl _ _).alloc (Nat.le_refl _) _
  have hx1 : RqBox W1 w.heap.size q := by unfold RqBox; rw [hW1]; exact heap_alloc_new w _
  have HX1 := vl (hx1.below hb0)
  have hs1 : W1.heap.size = w.heap.size + 1 := by rw [hW1]; simp
  have HX2 : Vl (RpBox W0 (w.heap.size + 1) a) := by show RpBox _ _ _; unfold RpBox; rw [← hs1, hW0]; exact heap_alloc_new W1 _
  have HB0 : Vl (Below w.heap.size w W0) := hb1.trans (hb0.mono hb1.size)
  have HW : Vl (W0 = (w.alloc (.cells #[.string q.m, .string q.p, .string q.h, .slice q.fa q.fn q.fc, .slice q.ba q.bn q.bc] 34)).alloc (.cells #[.int .i64 a.code, .slice a.fa a.fn a.fc, .slice a.ba a.bn a.bc] 36)) := by rw [← hW1]; exact hW0
  have HQ := vl (fun W (hb : Below w.heap.size w W) => hq.below hb)
  have HA := vl (fun W (hb : Below w.heap.size w W) => ha.below hb)
  have HG := vl (fun W (hb : Below w.heap.size w W) => hg.below hb)
  have HDP := vl (fun W (hb : Below w.heap.size w W) => D.below hd hb)
  have ST := vl hT
  have SP := vl hP
  have SA := vl hA
  have SE := vl hE
  have HI := vl hi
  clear hW0 hW1 hb1 hb0 hx1 hs1 hq ha hg hd hT hP hA hE hi
  unfold RqM.val RpM.val
  go_enter Tryd.func5, Tryd.ntmps5
  obtain ⟨c0, c1, c2, c3, c4⟩ := HX1.out.cells
  rw [HW.out] at c0 c1 c2 c3 c4
  go_wp2_with fail
  rw [← HW.out]
  clear c0 c1 c2 c3 c4 HW
  have H1 := vl (rask_any q W0 (HQ.out W0 HB0.out))
  obtain ⟨ea, hea⟩ : ∃ ea, askE q.rq = ea := ⟨_, rfl⟩
  rw [hea] at H1
  have HEA := vl hea
  clear hea
  refine H1.out.mono ?_
  rintro e w1 ⟨rfl, hb1⟩
  have HB1 := vl (HB0.out.trans (hb1.mono HB0.out.size))
  have XQ1 := vl (HX1.out.below hb1)
  have XP1 := vl (HX2.out.below hb1)
  clear hb1 HX1 HX2 HB0 H1
  go_upto_if 18 with fail
  go_cut [10] (fun wv wx => Vl (UOwn wx w.heap.size wv (askOut q.rq)) ∧ Vl (Below w.heap.size w wx) ∧ Vl (RqBox wx w.heap.size q) ∧ Vl (RpBox wx (w.heap.size + 1) a))
  case first =>
    as_aux_lemma =>
      by_cases h0 : ea = 0
      · subst h0
        obtain ⟨c0, c1, c2, c3, c4⟩ := XQ1.out.cells
        have H2 := vl (rasklines_any q w1 (HQ.out w1 HB1.out) HEA.out)
        go_wp2_with fail
        refine H2.out.mono ?_
        rintro e w2 ⟨v2, rfl, ho2, hb2⟩
        have HO2 : Vl (UOwn w2 w.heap.size v2 (askOut q.rq)) := by
          show UOwn _ _ _ _
          unfold askOut
          rw [if_pos HEA.out]
          exact ho2.mono HB1.out.size
        have HB2 := vl (HB1.out.trans (hb2.mono HB1.out.size))
        have XQ2 := vl (XQ1.out.below hb2)
        have XP2 := vl (XP1.out.below hb2)
        clear ho2 hb2 H2 c0 c1 c2 c3 c4
        go_wp2
        go_meet
        exact ⟨HO2.out, HB2.out, XQ2.out, XP2.out⟩
      · have h0' : (ea == 0) = false := by simpa using h0
        have HO2 : Vl (UOwn w1 w.heap.size (.slice none 0 0) (askOut q.rq)) := by
          show UOwn _ _ _ _
          unfold askOut
          rw [if_neg (by rw [HEA.out]; exact h0)]
          exact Or.inl ⟨rfl, rfl⟩
        go_wp2
        go_meet
        exact ⟨HO2.out, HB1.out, XQ1.out, XP1.out⟩
  case rest =>
  obtain ⟨HO2, HB2, XQ2, XP2⟩ := hcut
  clear HB1 XQ1 XP1
  obtain ⟨c0, c1, c2, c3, c4⟩ := XQ2.out.cells
  have H3 := vl (SA.out q wc (HDP.out wc HB2.out) (HQ.out wc HB2.out))
  rw [HEA.out] at H3
  obtain ⟨ev, hev⟩ : ∃ ev, errW ea = ev := ⟨_, rfl⟩
  rw [hev] at H3
  have HEV := vl hev
  clear hev
  go_wp2_with fail
  refine H3.out.mono ?_
  rintro e w3 ⟨v3, rfl, ho3, hb3⟩
  have HO3 := vl ho3
  have HW3 := vl (HO2.out.below hb3)
  have HB3 := vl (HB2.out.trans (hb3.mono HB2.out.size))
  have XP3 := vl (XP2.out.below hb3)
  have H4 := vl (error_w ea w3 (HG.out w3 HB3.out))
  rw [HEV.out] at H4
  clear ho3 hb3 H3 HO2 HB2 XQ2 XP2 c0 c1 c2 c3 c4
  go_wp2_with fail
  refine H4.out.mono ?_
  rintro e w4 ⟨rfl, hb4⟩
  have t1 := (HO3.out.below hb4).text
  have t2 := (HW3.out.below hb4).text
  have HB4 := vl (HB3.out.trans (hb4.mono HB3.out.size))
  have XP4 := vl (XP3.out.below hb4)
  obtain ⟨d0, d1, d2⟩ := XP4.out.cells
  have H5 := vl (rtell_any a size w4 (HA.out w4 HB4.out))
  obtain ⟨eb, heb⟩ : ∃ eb, tellE a.rp size = eb := ⟨_, rfl⟩
  rw [heb] at H5
  have HEB := vl heb
  generalize strOfNums (askOut q.rq) = S1 at *
  clear hb4 H4 HO3 HW3 HB3 XP3 heb HEA HEV SA HQ
  go_wp2_with fail
  refine H5.out.mono ?_
  rintro e w5 ⟨rfl, hb5⟩
  have HB5 := vl (HB4.out.trans (hb5.mono HB4.out.size))
  have XP5 := vl (XP4.out.below hb5)
  clear hb5 H5 HB4 XP4 d0 d1 d2 t1 t2
  go_upto_if 42 with fail
  go_cut [10] (fun wv wx => Vl (UOwn wx w.heap.size wv (tellOut a.rp size)) ∧ Vl (Below w.heap.size w wx) ∧ Vl (RpBox wx (w.heap.size + 1) a))
  case first =>
    as_aux_lemma =>
      by_cases h0 : eb = 0
      · subst h0
        obtain ⟨d0, d1, d2⟩ := XP5.out.cells
        have H2 := vl (rtelllines_any a size w5 (HA.out w5 HB5.out) HEB.out HI.out)
        go_wp2_with fail
        refine H2.out.mono ?_
        rintro e w6 ⟨v6, rfl, ho6, hb6⟩
        have HO6 : Vl (UOwn w6 w.heap.size v6 (tellOut a.rp size)) := by
          show UOwn _ _ _ _
          unfold tellOut
          rw [if_pos HEB.out]
          exact ho6.mono HB5.out.size
        have HB6 := vl (HB5.out.trans (hb6.mono HB5.out.size))
        have XP6 := vl (XP5.out.below hb6)
        clear ho6 hb6 H2 d0 d1 d2
        go_wp2
        go_meet
        exact ⟨HO6.out, HB6.out, XP6.out⟩
      · have h0' : (eb == 0) = false := by simpa using h0
        have HO6 : Vl (UOwn w5 w.heap.size (.slice none 0 0) (tellOut a.rp size)) := by
          show UOwn _ _ _ _
          unfold tellOut
          rw [if_neg (by rw [HEB.out]; exact h0)]
          exact Or.inl ⟨rfl, rfl⟩
        go_wp2
        go_meet
        exact ⟨HO6.out, HB5.out, XP5.out⟩
  case rest =>
  obtain ⟨HO6, HB6, XP6⟩ := hcut
  clear HB5 XP5
  obtain ⟨d0, d1, d2⟩ := XP6.out.cells
  have H7 := vl (SE.out a size _ (HDP.out _ HB6.out) (HA.out _ HB6.out) HI.out)
  rw [HEB.out] at H7
  obtain ⟨ev, hev⟩ : ∃ ev, errW eb = ev := ⟨_, rfl⟩
  rw [hev] at H7
  have HEV := vl hev
  clear hev
  go_wp2_with fail
  refine H7.out.mono ?_
  rintro e w7 ⟨v7, rfl, ho7, hb7⟩
  have HO7 := vl ho7
  have HW7 := vl (HO6.out.below hb7)
  have HB7 := vl (HB6.out.trans (hb7.mono HB6.out.size))
  have H8 := vl (error_w eb w7 (HG.out w7 HB7.out))
  rw [HEV.out] at H8
  clear ho7 hb7 H7 HO6 HB6 XP6 d0 d1 d2
  go_wp2_with fail
  refine H8.out.mono ?_
  rintro e w8 ⟨rfl, hb8⟩
  have t1 := (HO7.out.below hb8).text
  have t2 := (HW7.out.below hb8).text
  have HB8 := vl (HB7.out.trans (hb8.mono HB7.out.size))
  generalize strOfNums (tellOut a.rp size) = S2 at *
  clear hb8 H8 HO7 HW7 HB7 HEB HEV SE HA
  have H9 := vl (ST.out s w8 (HDP.out w8 HB8.out) hs)
  go_wp2_with fail
  refine H9.out.mono ?_
  rintro e w9 ⟨rfl, hb9⟩
  have HB9 := vl (HB8.out.trans (hb9.mono HB8.out.size))
  have H10 := vl (rtoken_any s w9 hs)
  obtain ⟨b1, hb1⟩ : ∃ b, tokL (unums s) = b := ⟨_, rfl⟩
  rw [hb1] at H10 ⊢
  clear hb9 hb1 H9 t1 t2
  go_wp2_with fail
  refine H10.out.mono ?_
  rintro e w' ⟨rfl, rfl⟩
  have H11 := vl (SP.out s w9 (HDP.out w9 HB9.out) hs)
  go_wp2_with fail
  refine H11.out.mono ?_
  rintro e w11 ⟨rfl, hb11⟩
  have HB11 := vl (HB9.out.trans (hb11.mono HB9.out.size))
  have H12 := vl (rplain_any s w11 hs)
  obtain ⟨b2, hb2⟩ : ∃ b, plainL (unums s) = b := ⟨_, rfl⟩
  rw [hb2] at H12 ⊢
  clear hb11 hb2 H11
  go_wp2_with fail
  refine H12.out.mono ?_
  rintro e w' ⟨rfl, rfl⟩
  go_wp2
  go_ret
  exact ⟨by simp, HB11.out⟩
end Go.Proofs.YtgjolljhjagngafDoor
