/-
  FROM THE ONE TO THE OTHER: the walk of the law FieldsTurn. No claim by itself.
-/
import Derived.Test.YtglmppadhlkkgagGreatDoorRak2X
namespace Go.Proofs.YtglmppadhlkkgagGreatDoor
open Go Go.RowKit
set_option maxRecDepth 100000
theorem sreq_likeT (q1 q2 : RqM) (w : World) (h1 : RqIn w q1) (h2 : RqIn w q2) (he : q1.rq = q2.rq) : Calls Tryz.prog 14 #[q1.val, q2.val] w fun e w' => e = .returned (.bool true) ∧ Below w.heap.size w w' := by
  obtain ⟨m, p, h, fa, fn, fc, ba, bn, bc, FL, B⟩ := q1
  obtain ⟨m2, p2, g2, fa2, fn2, fc2, ba2, bn2, bc2, FL2, B2⟩ := q2
  unfold RqM.rq at he
  simp only [Rq.mk.injEq] at he
  obtain ⟨e1, e2, e3, e4, e5⟩ := he
  obtain rfl := unums_inj e1
  obtain rfl := unums_inj e2
  obtain rfl := unums_inj e3
  obtain rfl := fds_inj e4
  subst e5
  obtain rfl : fn = fn2 := h1.fields.len.symm.trans h2.fields.len
  obtain rfl : bn = bn2 := h1.body.len.symm.trans h2.body.len
  exact srequest_any m p h fa fn fc ba bn bc fa2 fc2 ba2 bc2 FL B w h1.fields h2.fields h1.body h2.body h1.most.1
theorem srep_likeT (q1 q2 : RpM) (w : World) (h1 : RpIn w q1) (h2 : RpIn w q2) (he : q1.rp = q2.rp) : Calls Tryz.prog 19 #[q1.val, q2.val] w fun e w' => e = .returned (.bool true) ∧ Below w.heap.size w w' := by
  obtain ⟨c, fa, fn, fc, ba, bn, bc, FL, B⟩ := q1
  obtain ⟨c2, fa2, fn2, fc2, ba2, bn2, bc2, FL2, B2⟩ := q2
  unfold RpM.rp at he
  simp only [Rp.mk.injEq] at he
  obtain ⟨e1, e4, e5⟩ := he
  subst e1
  obtain rfl := fds_inj e4
  subst e5
  obtain rfl : fn = fn2 := h1.fields.len.symm.trans h2.fields.len
  obtain rfl : bn = bn2 := h1.body.len.symm.trans h2.body.len
  exact sreply_any c fa fn fc ba bn bc fa2 fc2 ba2 bc2 FL B w h1.fields h2.fields h1.body h2.body h1.most.1
theorem err_any (x : Int) (w : World) (hg : Laid w) : Calls Tryz.prog 10 #[errW x, .int .i64 x] w fun e w' => e = .returned (.bool true) ∧ Below w.heap.size w w' := by
  by_cases h : x = 0
  · subst h
    refine (error_nil 0 w).mono ?_
    rintro e w' ⟨rfl, rfl⟩
    exact ⟨rfl, Below.refl _ _⟩
  · rw [show errW x = .iface 88 (.int .i64 x) from if_neg h]
    refine (error_hit x x w hg).mono ?_
    rintro e w' ⟨rfl, hb⟩
    exact ⟨by simp, hb⟩
theorem listW_len {q : RqM} {F : List (ByteArray × ByteArray)} (hf : fdsOf F = (listW q.rq).2) (hn : q.FL.length = q.fn) : F.length ≤ 4611686018427387904 := by
  rw [← fds_len, hf]
  have HLW : listW q.rq = if askE q.rq = 0 then (0, listL q.rq) else (askE q.rq, []) := rfl
  by_cases he : askE q.rq = 0
  · rw [HLW, if_pos he]
    have hl : listL q.rq = [(methodP, unums q.m), (pathP, unums q.p), (hostP, unums q.h)] ++ (fdsOf q.FL).flatMap pcsL := rfl
    have h40 : (fdsOf q.FL).length ≤ 40 := (ask_ok he).1
    rw [fds_len] at h40
    have h1 := (VSm.of400 (flds_small (ask_flds he))).pcs (by omega) q.FL.length
    rw [List.take_length] at h1
    show (listL q.rq).length ≤ _
    rw [hl, List.length_append]
    simp only [List.length_cons, List.length_nil]
    omega
  · rw [HLW, if_neg he]
    simp
theorem tellW_len {q : RpM} {F : List (ByteArray × ByteArray)} (hf : fdsOf F = (tellW q.rp).2) : F.length ≤ 4611686018427387904 := by
  rw [← fds_len, hf]
  have HLW : tellW q.rp = if tellE q.rp 0 = 0 then (0, (codeP, decL q.code.toNat) :: (cleanL (fdsOf q.FL) ++ if noBody false q.code = true then [] else [(lengthN, decL q.B.length)])) else (tellE q.rp 0, []) := rfl
  by_cases he : tellE q.rp 0 = 0
  · rw [HLW, if_pos he]
    have h1 : (cleanL (fdsOf q.FL)).length ≤ (fdsOf q.FL).length := List.length_filter_le _ _
    have h2 : (fdsOf q.FL).length ≤ 40 := (tell_ok' he).1
    simp only [List.length_cons, List.length_append]
    split <;> simp <;> omega
  · rw [HLW, if_neg he]
    simp
/-- Two rows of the same fields. -/
theorem same_any {v1 v2 : Value} {b1 b2 : Nat} {F1 F2 : List (ByteArray × ByteArray)} {w : World} (h1 : FOwn w b1 v1 F1) (h2 : FOwn w b2 v2 F2) (he : fdsOf F1 = fdsOf F2) (hl : F1.length ≤ 4611686018427387904) : Calls Tryz.prog 11 #[v1, v2] w fun e w' => e = .returned (.bool true) ∧ Below w.heap.size w w' := by
  obtain rfl := fds_inj he
  obtain ⟨a1, c1, rfl⟩ := fown_shape h1
  obtain ⟨a2, c2, rfl⟩ := fown_shape h2
  exact sfields_any a1 a2 _ c1 c2 _ w (nfrow_of h1).2 (nfrow_of h2).2 hl
set_option maxHeartbeats 8000000 in
theorem turn_ok (q : RqM) (p : RpM) (a : Option Addr) (len cap : Nat) (L : List (ByteArray × ByteArray)) (ba : Option Addr) (bn bc : Nat) (B : List Int) (w : World) (hd : xld.P w) (he : erP w) (hg : Laid w) (hq : RqIn w q) (hp : RpIn w p) (hA : FArg w a len cap L) (hl : len ≤ 1048576)
    (hs : ∀ t, (L.getD t fnone).1.size ≤ 140737488351232 ∧ (L.getD t fnone).2.size ≤ 1048576) (hB : Arg w ba bn bc B) (hnil : ba = none → bn = 0 ∧ bc = 0) (hbn : bn ≤ 1048576) :
    Calls Tryz.prog 3 #[q.val, p.val, .slice a len cap, .slice ba bn bc] w fun e w' => e = .returned (.bool true) ∧ Below w.heap.size w w' := by
  have HD := vl hd
  have HE := vl he
  have HG := vl hg
  have HQ := vl hq
  have HP := vl hp
  have HA := vl hA
  have HBB := vl hB
  have HNI := vl hnil
  have HS := vl hs
  have HVK : Vl (VOk L) := vl (fun t => ⟨(hs t).1, by have := (hs t).2; omega⟩)
  have HS2 : Vl (∀ t, (L.getD t fnone).1.size ≤ 140737488351232 ∧ (L.getD t fnone).2.size ≤ 140737488351232) := vl (fun t => ⟨(hs t).1, by have := (hs t).2; omega⟩)
  have HCL : Vl (∀ F : List (ByteArray × ByteArray), fdsOf F = cleanL (fdsOf L) → F.length ≤ 4611686018427387904) := vl (fun F hF => by
    have h1 : (cleanL (fdsOf L)).length ≤ (fdsOf L).length := List.length_filter_le _ _
    have h2 := hA.len
    rw [← hF, fds_len, fds_len] at h1
    omega)
  clear hd he hg hq hp hA hs hB hnil
  obtain ⟨W1, hW1⟩ : ∃ x, x = w.alloc (.cells #[.string q.m, .string q.p, .string q.h, .slice q.fa q.fn q.fc, .slice q.ba q.bn q.bc] 25) := ⟨_, rfl⟩
  obtain ⟨W2, hW2⟩ : ∃ x, x = W1.alloc (.cells #[.int .i64 p.code, .slice p.fa p.fn p.fc, .slice p.ba p.bn p.bc] 27) := ⟨_, rfl⟩
  have HR1 : Vl (RB W1 w.heap.size q.m q.p q.h (.slice q.fa q.fn q.fc) (.slice q.ba q.bn q.bc)) := vl (by rw [hW1]; exact heap_alloc_new w _)
  have b1 : Below w.heap.size w W1 := by rw [hW1]; exact (Below.refl _ w).alloc (Nat.le_refl _) _
  have b2 : Below W1.heap.size W1 W2 := by rw [hW2]; exact (Below.refl _ W1).alloc (Nat.le_refl _) _
  have hs1 : W1.heap.size = w.heap.size + 1 := by rw [hW1]; simp
  have HR2 := vl (HR1.out.on b2)
  have HP2 : Vl (RPB W2 (w.heap.size + 1) p.code (.slice p.fa p.fn p.fc) (.slice p.ba p.bn p.bc)) := vl (by rw [hW2, ← hs1]; exact heap_alloc_new W1 _)
  have HB2 : Vl (Below w.heap.size w W2) := vl (b1.trans (b2.mono b1.size))
  have HW : Vl (∀ wx, Below W2.heap.size W2 wx → Below w.heap.size w wx) := vl (fun wx hb => HB2.out.trans (hb.mono HB2.out.size))
  have HRc : Vl (∀ wx, Below W2.heap.size W2 wx → wx.cell? ⟨w.heap.size, 0, none⟩ = some (.string q.m) ∧ wx.cell? ⟨w.heap.size, 1, none⟩ = some (.string q.p) ∧ wx.cell? ⟨w.heap.size, 2, none⟩ = some (.string q.h) ∧ wx.cell? ⟨w.heap.size, 3, none⟩ = some (.slice q.fa q.fn q.fc) ∧ wx.cell? ⟨w.heap.size, 4, none⟩ = some (.slice q.ba q.bn q.bc)) := vl (fun wx hb => (HR2.out.on hb).cells)
  have HPc : Vl (∀ wx, Below W2.heap.size W2 wx → wx.cell? ⟨w.heap.size + 1, 0, none⟩ = some (.int .i64 p.code) ∧ wx.cell? ⟨w.heap.size + 1, 1, none⟩ = some (.slice p.fa p.fn p.fc) ∧ wx.cell? ⟨w.heap.size + 1, 2, none⟩ = some (.slice p.ba p.bn p.bc)) := vl (fun wx hb => (HP2.out.on hb).cells)
  have C1 := vl (rlist_any q W2 (HQ.out.below HB2.out))
  unfold RqM.val at C1
  unfold RqM.val RpM.val
  have HX2 : Vl (Below W2.heap.size W2 W2) := vl (Below.refl _ _)
  obtain ⟨d0, d1, d2, d3, d4⟩ := HRc.out W2 HX2.out
  rw [hW2, hW1] at d0 d1 d2 d3 d4
  rw [hW1] at hW2
  clear b1 b2 hs1 HR1 HR2 HP2
  go_enter Tryz.func3, Tryz.ntmps3
  go_wp2_with fail
  rw [← hW2]
  clear hW2 hW1 d0 d1 d2 d3 d4
  refine C1.out.mono ?_
  rintro e w1 ⟨v1, F1, rfl, ho1, hf1, hb1⟩
  have HX1 := vl (HX2.out.trans (hb1.mono HX2.out.size))
  have HO1 := vl ho1
  have HF1 := vl hf1
  obtain ⟨d0, d1, d2, d3, d4⟩ := HRc.out w1 HX1.out
  have C2 := vl (xlist_any q w1 (xld.below HD.out (HW.out w1 HX1.out)) (HQ.out.below (HW.out w1 HX1.out)))
  unfold RqM.val at C2
  generalize (listW q.rq).1 = x1 at *
  clear C1 ho1 hf1 hb1 HX2
  go_wp2_with fail
  refine C2.out.mono ?_
  rintro e w2 ⟨v2, F2, rfl, ho2, hf2, hb2⟩
  have HX2 := vl (HX1.out.trans (hb2.mono HX1.out.size))
  have HO1 := vl (fown_below HO1.out hb2)
  have HO2 := vl ho2
  have HF2 := vl hf2
  have C3 := vl (err_any x1 w2 (HG.out.below (HW.out w2 HX2.out)))
  clear C2 ho2 hf2 hb2 HX1 d0 d1 d2 d3 d4
  go_wp2_with fail
  refine C3.out.mono ?_
  rintro e w3 ⟨rfl, hb3⟩
  have HX3 := vl (HX2.out.trans (hb3.mono HX2.out.size))
  have C4 := vl (same_any (fown_below HO2.out hb3) (fown_below HO1.out hb3) (HF2.out.trans HF1.out.symm) (listW_len HF2.out HQ.out.fields.len))
  clear C3 hb3 HX2 HO1 HO2 HF1 HF2
  go_wp2_with fail
  refine C4.out.mono ?_
  rintro e w4 ⟨rfl, hb4⟩
  have HX4 := vl (HX3.out.trans (hb4.mono HX3.out.size))
  have C5 := vl (raskf_any a len cap L ba bn bc B w4 (HA.out.below (HW.out w4 HX4.out)) hl HS.out (HBB.out.below (HW.out w4 HX4.out)) HNI.out hbn)
  clear C4 hb4 HX3
  go_wp2_with fail
  refine C5.out.mono ?_
  rintro e w5 ⟨q5, rfl, hi5, hr5, hb5⟩
  have HX5 := vl (HX4.out.trans (hb5.mono HX4.out.size))
  have HI5 := vl hi5
  have HR5 := vl hr5
  unfold RqM.val
  obtain ⟨W5, hW5⟩ : ∃ x, x = w5.alloc (.cells #[.string q5.m, .string q5.p, .string q5.h, .slice q5.fa q5.fn q5.fc, .slice q5.ba q5.bn q5.bc] 25) := ⟨_, rfl⟩
  have bb5 : Below w5.heap.size w5 W5 := by rw [hW5]; exact (Below.refl _ w5).alloc (Nat.le_refl _) _
  have K5 : Vl (RB W5 w5.heap.size q5.m q5.p q5.h (.slice q5.fa q5.fn q5.fc) (.slice q5.ba q5.bn q5.bc)) := vl (by rw [hW5]; exact heap_alloc_new w5 _)
  have HXW5 := vl (HX5.out.trans (bb5.mono HX5.out.size))
  have HI5 := vl (HI5.out.below bb5)
  have C6 := vl (xask_any a len cap L ba bn bc B W5 (xld.below HD.out (HW.out W5 HXW5.out)) (HA.out.below (HW.out W5 HXW5.out)) (by omega) HVK.out (HBB.out.below (HW.out W5 HXW5.out)) HNI.out (by omega))
  clear C5 hi5 hr5 hb5 bb5 HX4 HX5
  go_wp2_with fail
  rw [← hW5]
  clear hW5
  refine C6.out.mono ?_
  rintro e w6 ⟨q6, rfl, hi6, hr6, hb6⟩
  have HX6 := vl (HXW5.out.trans (hb6.mono HXW5.out.size))
  have HI5 := vl (HI5.out.below hb6)
  have K5 := vl (K5.out.on hb6)
  have HR6 := vl (hr6.trans HR5.out.symm)
  unfold RqM.val
  obtain ⟨W6, hW6⟩ : ∃ x, x = w6.alloc (.cells #[.string q6.m, .string q6.p, .string q6.h, .slice q6.fa q6.fn q6.fc, .slice q6.ba q6.bn q6.bc] 25) := ⟨_, rfl⟩
  have bb6 : Below w6.heap.size w6 W6 := by rw [hW6]; exact (Below.refl _ w6).alloc (Nat.le_refl _) _
  have K6 : Vl (RB W6 w6.heap.size q6.m q6.p q6.h (.slice q6.fa q6.fn q6.fc) (.slice q6.ba q6.bn q6.bc)) := vl (by rw [hW6]; exact heap_alloc_new w6 _)
  have K5 := vl (K5.out.on bb6)
  have HXW6 := vl (HX6.out.trans (bb6.mono HX6.out.size))
  have HI5 := vl (HI5.out.below bb6)
  have HI6 := vl (hi6.below bb6)
  generalize (askW (fdsOf L) B).1 = x5 at *
  have C7 := vl (err_any x5 W6 (HG.out.below (HW.out W6 HXW6.out)))
  clear C6 hi6 hr6 hb6 bb6 HX6 HXW5 HR5
  go_wp2_with fail
  rw [← hW6]
  clear hW6
  refine C7.out.mono ?_
  rintro e w7 ⟨rfl, hb7⟩
  have HX7 := vl (HXW6.out.trans (hb7.mono HXW6.out.size))
  have HI5 := vl (HI5.out.below hb7)
  have HI6 := vl (HI6.out.below hb7)
  obtain ⟨m0, m1, m2, m3, m4⟩ := (K5.out.on hb7).cells
  obtain ⟨n0, n1, n2, n3, n4⟩ := (K6.out.on hb7).cells
  have C8 := vl (sreq_likeT q6 q5 w7 HI6.out HI5.out HR6.out)
  unfold RqM.val at C8
  clear C7 hb7 HXW6 K5 K6
  go_wp2_with fail
  refine C8.out.mono ?_
  rintro e w8 ⟨rfl, hb8⟩
  have HX8 := vl (HX7.out.trans (hb8.mono HX7.out.size))
  obtain ⟨d0, d1, d2⟩ := HPc.out w8 HX8.out
  have C9 := vl (rftell_any p w8 (HP.out.below (HW.out w8 HX8.out)))
  unfold RpM.val at C9
  clear C8 hb8 HX7 m0 m1 m2 m3 m4 n0 n1 n2 n3 n4 HI5 HI6 HR6
  go_wp2_with fail
  refine C9.out.mono ?_
  rintro e w9 ⟨v9, F9, rfl, ho9, hf9, hb9⟩
  have HX9 := vl (HX8.out.trans (hb9.mono HX8.out.size))
  have HO9 := vl ho9
  have HF9 := vl hf9
  obtain ⟨e0, e1, e2⟩ := HPc.out w9 HX9.out
  have C10 := vl (xtell_any p w9 (xld.below HD.out (HW.out w9 HX9.out)) (HP.out.below (HW.out w9 HX9.out)))
  unfold RpM.val at C10
  generalize (tellW p.rp).1 = x9 at *
  clear C9 ho9 hf9 hb9 HX8 d0 d1 d2
  go_wp2_with fail
  refine C10.out.mono ?_
  rintro e w10 ⟨v10, F10, rfl, ho10, hf10, hb10⟩
  have HX10 := vl (HX9.out.trans (hb10.mono HX9.out.size))
  have HO9 := vl (fown_below HO9.out hb10)
  have HO10 := vl ho10
  have HF10 := vl hf10
  have C11 := vl (err_any x9 w10 (HG.out.below (HW.out w10 HX10.out)))
  clear C10 ho10 hf10 hb10 HX9 e0 e1 e2
  go_wp2_with fail
  refine C11.out.mono ?_
  rintro e w11 ⟨rfl, hb11⟩
  have HX11 := vl (HX10.out.trans (hb11.mono HX10.out.size))
  have C12 := vl (same_any (fown_below HO10.out hb11) (fown_below HO9.out hb11) (HF10.out.trans HF9.out.symm) (tellW_len HF10.out))
  clear C11 hb11 HX10 HO9 HO10 HF9 HF10
  go_wp2_with fail
  refine C12.out.mono ?_
  rintro e w12 ⟨rfl, hb12⟩
  have HX12 := vl (HX11.out.trans (hb12.mono HX11.out.size))
  have C13 := vl (rreply_any a len cap L ba bn bc B w12 (HA.out.below (HW.out w12 HX12.out)) hl HS2.out (HBB.out.below (HW.out w12 HX12.out)) HNI.out (by omega))
  clear C12 hb12 HX11
  go_wp2_with fail
  refine C13.out.mono ?_
  rintro e w13 ⟨q13, rfl, hi13, hr13, hb13⟩
  have HX13 := vl (HX12.out.trans (hb13.mono HX12.out.size))
  have HR13 := vl hr13
  unfold RpM.val
  obtain ⟨W13, hW13⟩ : ∃ x, x = w13.alloc (.cells #[.int .i64 q13.code, .slice q13.fa q13.fn q13.fc, .slice q13.ba q13.bn q13.bc] 27) := ⟨_, rfl⟩
  have bb13 : Below w13.heap.size w13 W13 := by rw [hW13]; exact (Below.refl _ w13).alloc (Nat.le_refl _) _
  have K13 : Vl (RPB W13 w13.heap.size q13.code (.slice q13.fa q13.fn q13.fc) (.slice q13.ba q13.bn q13.bc)) := vl (by rw [hW13]; exact heap_alloc_new w13 _)
  have HXW13 := vl (HX13.out.trans (bb13.mono HX13.out.size))
  have HI13 := vl (hi13.below bb13)
  have C14 := vl (xreply_any a len cap L ba bn bc B W13 (xld.below HD.out (HW.out W13 HXW13.out)) (HE.out.below (HW.out W13 HXW13.out)) (HA.out.below (HW.out W13 HXW13.out)) (by omega) HS2.out (HBB.out.below (HW.out W13 HXW13.out)) HNI.out (by omega))
  clear C13 hi13 hr13 hb13 bb13 HX12 HX13
  go_wp2_with fail
  rw [← hW13]
  clear hW13
  refine C14.out.mono ?_
  rintro e w14 ⟨q14, rfl, hi14, hr14, hb14⟩
  have HX14 := vl (HXW13.out.trans (hb14.mono HXW13.out.size))
  have HI13 := vl (HI13.out.below hb14)
  have K13 := vl (K13.out.on hb14)
  have HR14 := vl (hr14.trans HR13.out.symm)
  unfold RpM.val
  obtain ⟨W14, hW14⟩ : ∃ x, x = w14.alloc (.cells #[.int .i64 q14.code, .slice q14.fa q14.fn q14.fc, .slice q14.ba q14.bn q14.bc] 27) := ⟨_, rfl⟩
  have bb14 : Below w14.heap.size w14 W14 := by rw [hW14]; exact (Below.refl _ w14).alloc (Nat.le_refl _) _
  have K14 : Vl (RPB W14 w14.heap.size q14.code (.slice q14.fa q14.fn q14.fc) (.slice q14.ba q14.bn q14.bc)) := vl (by rw [hW14]; exact heap_alloc_new w14 _)
  have K13 := vl (K13.out.on bb14)
  have HXW14 := vl (HX14.out.trans (bb14.mono HX14.out.size))
  have HI13 := vl (HI13.out.below bb14)
  have HI14 := vl (hi14.below bb14)
  generalize (replyW (fdsOf L) B).1 = x13 at *
  have C15 := vl (err_any x13 W14 (HG.out.below (HW.out W14 HXW14.out)))
  clear C14 hi14 hr14 hb14 bb14 HX14 HXW13 HR13
  go_wp2_with fail
  rw [← hW14]
  clear hW14
  refine C15.out.mono ?_
  rintro e w15 ⟨rfl, hb15⟩
  have HX15 := vl (HXW14.out.trans (hb15.mono HXW14.out.size))
  have HI13 := vl (HI13.out.below hb15)
  have HI14 := vl (HI14.out.below hb15)
  obtain ⟨m0, m1, m2⟩ := (K13.out.on hb15).cells
  obtain ⟨n0, n1, n2⟩ := (K14.out.on hb15).cells
  have C16 := vl (srep_likeT q14 q13 w15 HI14.out HI13.out HR14.out)
  unfold RpM.val at C16
  clear C15 hb15 HXW14 K13 K14
  go_wp2_with fail
  refine C16.out.mono ?_
  rintro e w16 ⟨rfl, hb16⟩
  have HX16 := vl (HX15.out.trans (hb16.mono HX15.out.size))
  have C17 := vl (xclean_any a len cap L w16 (HA.out.below (HW.out w16 HX16.out)) (by omega) HVK.out (xld.below HD.out (HW.out w16 HX16.out)).2)
  clear C16 hb16 HX15 m0 m1 m2 n0 n1 n2 HI13 HI14 HR14
  go_wp2_with fail
  refine C17.out.mono ?_
  rintro e w17 ⟨v17, rfl, ho17, hb17⟩
  have HX17 := vl (HX16.out.trans (hb17.mono HX16.out.size))
  have HO17 := vl ho17
  have C18 := vl (rclean_any a len cap L w17 (HA.out.below (HW.out w17 HX17.out)) hl HS.out)
  clear C17 ho17 hb17 HX16
  go_wp2_with fail
  refine C18.out.mono ?_
  rintro e w18 ⟨v18, F18, rfl, ho18, hf18, hb18⟩
  have HX18 := vl (HX17.out.trans (hb18.mono HX17.out.size))
  have C19 := vl (same_any (fown_below HO17.out hb18) ho18 ((fds_clean L).trans hf18.symm) (HCL.out _ (fds_clean L)))
  clear C18 ho18 hf18 hb18 HX17 HO17
  go_wp2_with fail
  refine C19.out.mono ?_
  rintro e w19 ⟨rfl, hb19⟩
  have HX19 := vl (HW.out w19 (HX18.out.trans (hb19.mono HX18.out.size)))
  clear C19 hb19 HX18
  go_wp2
  go_ret
  exact ⟨rfl, HX19.out⟩
end Go.Proofs.YtglmppadhlkkgagGreatDoor
