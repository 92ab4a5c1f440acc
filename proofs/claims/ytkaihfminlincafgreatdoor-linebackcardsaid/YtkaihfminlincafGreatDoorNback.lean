/-
  THE WALK of the Go function tolllaw2.LineBack, its callees by their contracts. No claim by itself.
-/
import Derived.Test.YtkaihfminlincafGreatDoorNtells
import Derived.Lib.SlBytesConst
import Derived.BigQuiet
import Derived.Deep.QuietTactic
import Derived.Deep.DeepCutAuto
namespace Go.Proofs.YtkaihfminlincafGreatDoor
open Go.RowKit
set_option maxRecDepth 100000
theorem uown_nil {w : World} {base cap : Nat} {a : Option Addr} {L : List Int} (h : UOwn w base (.slice a L.length cap) L) (e : a = none) : L.length = 0 := by
  subst e
  rcases h with ⟨_, h⟩ | ⟨g, cp, h, _⟩
  · rw [h]; rfl
  · cases h
def factL : List Int := [71, 69, 84, 32, 47, 97, 32, 69, 68, 71, 69, 47, 49, 13, 10, 104, 111, 115, 116, 58, 32, 104, 13, 10, 13, 10]
def factR : Rq := ⟨[71, 69, 84], [47, 97], [104], [], []⟩
theorem fact_end : endF askP factL = (0, factR, 26) := by
  have h := ask_say (r := factR) (by decide) []
  have e : askL factR ++ [] = factL := by decide
  rw [e] at h
  exact endF_ok h
def factV : Array Value := #[.int .u8 71, .int .u8 69, .int .u8 84, .int .u8 32, .int .u8 47, .int .u8 97, .int .u8 32, .int .u8 69, .int .u8 68, .int .u8 71, .int .u8 69, .int .u8 47, .int .u8 49, .int .u8 13, .int .u8 10, .int .u8 104, .int .u8 111, .int .u8 115, .int .u8 116, .int .u8 58, .int .u8 32, .int .u8 104, .int .u8 13, .int .u8 10, .int .u8 13, .int .u8 10]
theorem fact_arg (w : World) : Arg (w.alloc (.cells factV 5 (26, 27))) (some ⟨w.heap.size, 0, none⟩) 26 26 factL := by
  have hx : (w.alloc (.cells factV 5 (26, 27))).heap[w.heap.size]? = some (.cells factV 5 (26, 27)) := heap_alloc_new w _
  have hv : factV = (factL.map (Value.int .u8)).toArray := rfl
  have hb : ∀ x ∈ factL, 0 ≤ x ∧ x < 256 := by decide
  refine Or.inr ⟨_, _, rfl, rfl, Nat.le_refl _, by unfold maxLen; omega, fun t ht => ?_, bytes_getD hb⟩
  have hlf : t < factL.length := ht
  simp only [World.cell?, hx, Nat.zero_add]
  rw [hv]
  simp [List.getD, List.getElem?_eq_getElem hlf]
theorem RqM.paths {q : RqM} (h : q.rq = factR) : q.p = ⟨#[47, 97]⟩ ∧ q.h = ⟨#[104]⟩ := by
  unfold RqM.rq factR at h
  simp only [Rq.mk.injEq] at h
  exact ⟨unums_inj h.2.1, unums_inj h.2.2.1⟩
set_option maxHeartbeats 8000000 in
theorem nback_ok (D : NLd) (hA : NAskSaid D) (hT : NTellSaid D) (hRA : NReadAskSaid D) (hRT : NReadTellSaid D) (q : RqM) (a : RpM) (size : Int) (ba : Option Addr) (bn bc : Nat) (Z : List Int) (cut : Int) (w : World)
    (hq : RqIn w q) (ha : RpIn w a) (hi : I64 size) (hZ : Arg w ba bn bc Z) (hl : bn ≤ 140737488351232) (hnil : ba = none → bn = 0 ∧ bc = 0) (hc : I64 cut) (hg : Laid w) (hd : D.P w) :
    Calls Tryz.prog 3 #[q.val, a.val, .int .i64 size, .slice ba bn bc, .int .i64 cut] w fun e w' => e = .returned (.bool true) ∧ Below w.heap.size w w' := by
  obtain ⟨W0, hW0⟩ : ∃ W0, W0 = (w.alloc (.cells #[.string q.m, .string q.p, .string q.h, .slice q.fa q.fn q.fc, .slice q.ba q.bn q.bc] 25)).alloc (.cells #[.int .i64 a.code, .slice a.fa a.fn a.fc, .slice a.ba a.bn a.bc] 27) := ⟨_, rfl⟩
  obtain ⟨n0, hn0⟩ : ∃ n0, n0 = w.heap.size := ⟨_, rfl⟩
  have B0 : Vl (Below w.heap.size w W0) := by rw [hW0]; exact ((Below.refl _ w).alloc (Nat.le_refl _) _).alloc (by simp) _
  have X0 : Vl (RqBox W0 n0 q) := by
    show RqBox _ _ _
    unfold RqBox
    rw [hW0, hn0, Below.heap_alloc _ _ _ (by simp)]
    exact heap_alloc_new w _
  have Y0 : Vl (RpBox W0 (n0 + 1) a) := by
    show RpBox _ _ _
    unfold RpBox
    rw [hW0, hn0]
    have := heap_alloc_new (w.alloc (.cells #[.string q.m, .string q.p, .string q.h, .slice q.fa q.fn q.fc, .slice q.ba q.bn q.bc] 25)) (.cells #[.int .i64 a.code, .slice a.fa a.fn a.fc, .slice a.ba a.bn a.bc] 27 (0, 0))
    simpa using this
  have hzl := hZ.len
  have HQ := vl (fun W (hb : Below w.heap.size w W) => hq.below hb)
  have HA := vl (fun W (hb : Below w.heap.size w W) => ha.below hb)
  have HZ := vl (fun W (hb : Below w.heap.size w W) => hZ.below hb)
  have HG := vl (fun W (hb : Below w.heap.size w W) => hg.below hb)
  have HD := vl (fun W (hb : Below w.heap.size w W) => D.below hd hb)
  have SA := vl hA
  have ST := vl hT
  have SRA := vl hRA
  have SRT := vl hRT
  have HI := vl hi
  have HN := vl hnil
  have HBZ := vl hZ.bytes
  have HBB := vl hq.body.bytes
  have HBP := vl ha.body.bytes
  obtain ⟨c1, c2⟩ := hc
  clear hq ha hZ hg hd hA hT hRA hRT hi hnil
  obtain ⟨WC, hWC⟩ : ∃ WC, WC = W0.alloc (.cells factV 5 (26, 27)) := ⟨_, rfl⟩
  have hbC : Below W0.heap.size W0 WC := by rw [hWC]; exact (Below.refl _ _).alloc (Nat.le_refl _) _
  have BC : Vl (Below w.heap.size w WC) := B0.out.trans (hbC.mono B0.out.size)
  have H1 := vl (SRA.out (some ⟨W0.heap.size, 0, none⟩) 26 26 factL WC (HD.out WC BC.out) (by rw [hWC]; exact fact_arg W0) (by intro h; cases h) (by unfold ULim; omega))
  simp only [fact_end, errW_zero] at H1
  have hcv := Lib.run_convert_bytes_const (P := Tryz.prog) W0 23 5 factV 26 26 Tryz.underlying23 Tryz.underlying5
  have XC := vl (X0.out.below hbC)
  have YC := vl (Y0.out.below hbC)
  rw [hW0] at hcv
  simp only [World.size_alloc] at hcv
  unfold factV at hcv
  unfold RqM.val RpM.val
  clear hbC X0 Y0 B0
  go_enter Tryz.func3, Tryz.ntmps3
  go_wp2_with fail
  have hWC2 : WC = ((w.alloc (.cells #[.string q.m, .string q.p, .string q.h, .slice q.fa q.fn q.fc, .slice q.ba q.bn q.bc] 25)).alloc (.cells #[.int .i64 a.code, .slice a.fa a.fn a.fc, .slice a.ba a.bn a.bc] 27)).alloc (.cells factV 5 (26, 27)) := by rw [hWC, hW0]
  unfold factV at hWC2
  have hs0 : W0.heap.size = w.heap.size + 1 + 1 := by rw [hW0]; simp
  rw [hs0] at H1
  rw [← hWC2]
  rw [← hn0] at H1 ⊢
  have HN0 := vl hn0
  clear hWC hWC2 hW0 hs0 hcv hn0
  refine H1.out.mono ?_
  rintro e w1 ⟨q1, rfl, hq1, hr1, hb1⟩
  obtain ⟨hp1, hh1⟩ := RqM.paths hr1
  have B1 : Vl (Below w.heap.size w (w1.alloc (.cells #[.string q1.m, .string q1.p, .string q1.h, .slice q1.fa q1.fn q1.fc, .slice q1.ba q1.bn q1.bc] 25))) := (BC.out.trans (hb1.mono BC.out.size)).alloc (Nat.le_trans BC.out.size hb1.size) _
  have hbb : Below WC.heap.size WC (w1.alloc (.cells #[.string q1.m, .string q1.p, .string q1.h, .slice q1.fa q1.fn q1.fc, .slice q1.ba q1.bn q1.bc] 25)) := hb1.alloc hb1.size _
  have X1 := vl (XC.out.below hbb)
  have Y1 := vl (YC.out.below hbb)
  obtain ⟨W1, hW1⟩ : ∃ W1, W1 = w1.alloc (.cells #[.string q1.m, .string q1.p, .string q1.h, .slice q1.fa q1.fn q1.fc, .slice q1.ba q1.bn q1.bc] 25) := ⟨_, rfl⟩
  rw [← hW1] at X1 Y1 B1
  obtain ⟨k0, k1, k2, k3, k4⟩ := X1.out.cells
  have HS1 := vl (SA.out q W1 (HD.out W1 B1.out) (HQ.out W1 B1.out))
  unfold RqM.val at HS1 ⊢
  rw [hW1] at k0 k1 k2 k3 k4
  rw [hp1, hh1] at k0 k1 k2 k3 k4 hW1 ⊢
  clear hbb hb1 hq1 hr1 H1 XC YC BC
  go_wp2_with fail
  rw [← hW1]
  clear k0 k1 k2 k3 k4 hW1 hp1 hh1
  obtain ⟨ea, hea⟩ : ∃ ea, askE q.rq = ea := ⟨_, rfl⟩
  obtain ⟨AL, hAL⟩ : ∃ AL, askOut q.rq = AL := ⟨_, rfl⟩
  rw [hea, hAL] at HS1
  have eg := fun x W => ewg x ea W
  have ee := fun W => ewe ea W
  obtain ⟨ev, hev⟩ : ∃ ev, errW ea = ev := ⟨_, rfl⟩
  obtain ⟨b0, hb0⟩ : ∃ b0, decide (ea = 0) = b0 := ⟨_, rfl⟩
  rw [hev] at HS1
  simp only [hev] at eg
  simp only [hev, hb0] at ee
  have HB0 := vl hb0
  clear hev hb0
  have HEA := vl hea
  have HAL := vl hAL
  clear hea hAL
  refine HS1.out.mono ?_
  rintro e w2 ⟨v2, rfl, ho2, hb2⟩
  have B2 : Vl (Below w.heap.size w w2) := B1.out.trans (hb2.mono B1.out.size)
  have X2 := vl (X1.out.below hb2)
  have Y2 := vl (Y1.out.below hb2)
  have hn2 : n0 + 2 ≤ W1.heap.size := blk_lt Y1.out
  have O2 : Vl (UOwn w2 (n0 + 2) v2 AL) := ho2.mono hn2
  obtain ⟨va, vc, rfl, hvc, hvm⟩ := ho2.slice
  clear ho2 hb2 HS1 B1 X1 Y1
  go_upto_region 5 with fail
  go_cut [72] (fun b wx => ∃ bb : Bool, b = .bool bb ∧ Vl (wx = w2) ∧ Vl (bb = true → ea = 0 ∧ AL.length < 20000))
  case first =>
    as_aux_lemma =>
      cases b0 with
      | false =>
        go_wp2
        go_meet
        exact ⟨false, rfl, rfl, fun h => by cases h⟩
      | true =>
        have hz : ea = 0 := of_decide_eq_true HB0.out
        by_cases hlt : AL.length < 20000
        · have hlt' : (AL.length : Int) < 20000 := by omega
          go_wp2
          go_meet
          exact ⟨true, by simp, rfl, fun _ => ⟨hz, hlt⟩⟩
        · have hlt' : ¬ ((AL.length : Int) < 20000) := by omega
          go_wp2
          go_meet
          exact ⟨false, by simp, rfl, fun h => by cases h⟩
  case rest =>
  obtain ⟨bb, rfl, hwx, HBB2⟩ := hcut
  rw [hwx.out]
  clear hwx eg ee HB0
  go_upto_if 72 with fail
  go_cut [] (fun wx => Vl (Below w.heap.size w wx) ∧ Vl (RqBox wx n0 q) ∧ Vl (RpBox wx (n0 + 1) a))
  case first =>
    as_aux_lemma =>
      cases bb with
      | false =>
        go_wp2
        go_meet
        exact ⟨B2.out, X2.out, Y2.out⟩
      | true =>
        obtain ⟨he0, hlt⟩ := HBB2.out rfl
        subst he0
        have HAQ : Vl (AL = askL q.rq) := by
          show AL = _
          rw [← HAL.out]
          unfold askOut
          rw [if_pos HEA.out]
        have HBA : Vl (Bytes AL) := by
          show Bytes AL
          rw [HAQ.out]
          exact bytes_askq q HBB.out
        have HCUT : Vl (∀ c : Nat, c < AL.length → endF askP (AL.take c) = (8, default, 0)) := fun c hc => by
          rw [HAQ.out] at hc ⊢
          exact endF_short (ask_cut HEA.out c hc) (by rw [List.length_take]; rw [← HAQ.out] at hc ⊢; omega)
        have HALL : Vl (endF askP (AL ++ Z) = (0, q.rq, (AL.length : Int))) := by
          show endF askP (AL ++ Z) = _
          have := endF_at (p := askP) (b := AL) (X := Z) (v := q.rq) (by rw [HAQ.out]; exact ask_say HEA.out Z)
          exact this
        clear HBB2 HAL HEA HAQ
        go_upto_region 6 with fail
        go_cut [80] (fun b wx => ∃ bb : Bool, b = .bool bb ∧ Vl (wx = w2) ∧ Vl (bb = true → 0 ≤ cut ∧ cut < (AL.length : Int)))
        case first =>
          as_aux_lemma =>
            by_cases k0 : 0 ≤ cut
            · by_cases k1 : cut < (AL.length : Int)
              · go_wp2
                go_meet
                exact ⟨true, by simp, rfl, fun _ => ⟨k0, k1⟩⟩
              · go_wp2
                go_meet
                exact ⟨false, by simp, rfl, fun h => by cases h⟩
            · go_wp2
              go_meet
              exact ⟨false, by simp, rfl, fun h => by cases h⟩
        case rest =>
        obtain ⟨bb, rfl, hwx, HBB2⟩ := hcut
        rw [hwx.out]
        clear hwx
        go_upto_if 80 with fail
        go_cut [] (fun wx => Vl (Below w.heap.size w wx) ∧ Vl (RqBox wx n0 q) ∧ Vl (RpBox wx (n0 + 1) a) ∧ Vl (UOwn wx (n0 + 2) (.slice va AL.length vc) AL))
        case first =>
          as_aux_lemma =>
            cases bb with
            | false =>
              go_wp2
              go_meet
              exact ⟨B2.out, X2.out, Y2.out, O2.out⟩
            | true =>
              obtain ⟨k0, k1⟩ := HBB2.out rfl
              obtain ⟨c, rfl⟩ : ∃ c : Nat, cut = c := ⟨cut.toNat, by omega⟩
              obtain ⟨g, cp, hv, hcc, hac⟩ := O2.out.cut HBA.out c (by omega)
              obtain ⟨rfl, rfl⟩ : va = some ⟨g, 0, none⟩ ∧ vc = cp := by
                simp only [Value.slice.injEq] at hv
                exact ⟨hv.1, hv.2.2⟩
              have H3 := vl (SRA.out _ _ _ _ w2 (HD.out w2 B2.out) hac (by intro h; cases h) (by unfold ULim; omega))
              rw [HCUT.out c (by omega)] at H3
              simp only [errW_not (show (8 : Int) ≠ 0 by omega)] at H3
              have hcc' : (c : Int) ≤ (vc : Int) := by omega
              clear hac hv
              go_wp2_with fail
              refine H3.out.mono ?_
              rintro e w3 ⟨q3, rfl, hq3, hr3, hb3⟩
              have hb33 : Below w2.heap.size w2 (w3.alloc (.cells #[.string q3.m, .string q3.p, .string q3.h, .slice q3.fa q3.fn q3.fc, .slice q3.ba q3.bn q3.bc] 25)) := hb3.alloc hb3.size _
              obtain ⟨W3, hW3⟩ : ∃ W3, W3 = w3.alloc (.cells #[.string q3.m, .string q3.p, .string q3.h, .slice q3.fa q3.fn q3.fc, .slice q3.ba q3.bn q3.bc] 25) := ⟨_, rfl⟩
              rw [← hW3] at hb33
              have B3 : Vl (Below w.heap.size w W3) := B2.out.trans (hb33.mono B2.out.size)
              have X3 := vl (X2.out.below hb33)
              have Y3 := vl (Y2.out.below hb33)
              have O3 := vl (O2.out.below hb33)
              have H4 := vl (error_hit 8 8 W3 (HG.out W3 B3.out))
              unfold RqM.val
              clear hb3 hb33 hq3 hr3 H3 B2 X2 Y2 O2
              go_wp2_with fail
              rw [← hW3]
              clear hW3
              refine H4.out.mono ?_
              rintro e w4 ⟨rfl, hb4⟩
              have B4 : Vl (Below w.heap.size w w4) := B3.out.trans (hb4.mono B3.out.size)
              have X4 := vl (X3.out.below hb4)
              have Y4 := vl (Y3.out.below hb4)
              have O4 := vl (O3.out.below hb4)
              clear hb4 H4 B3 X3 Y3 O3
              go_wp2
              go_meet
              exact ⟨B4.out, X4.out, Y4.out, O4.out⟩
        case rest =>
        obtain ⟨B5, X5, Y5, O5⟩ := hcut
        clear B2 X2 Y2 O2 HBB2 HCUT
        have HA5 := vl (HZ.out _ B5.out)
        have hs5 : n0 + 2 ≤ wc.heap.size := blk_lt Y5.out
        have hwn := HN0.out
        have HWN : Vl (w.heap.size ≤ n0 + 2) := by show _ ≤ _; omega
        clear hwn
        go_wp2_with (at_builtin; refine wpList_uapp _ rfl _ _ rfl (n0 + 2) _ AL rfl O5.out ba bn bc Z rfl HA5.out (fun h => (HN.out h).2) (by omega) hs5 ?_)
        intro v6 w6 ho6 hg6
        have B6 : Vl (Below w.heap.size w w6) := u_below_grown B5.out hg6 B5.out.size (fun k hk => by have := (O5.out.base k hk).1; have := HWN.out; omega)
        have X6 : Vl (RqBox w6 n0 q) := (hg6.block n0 (blk_lt X5.out) (fun e => by have := (O5.out.base n0 e.symm).1; omega)).trans X5.out
        have Y6 : Vl (RpBox w6 (n0 + 1) a) := (hg6.block (n0 + 1) (blk_lt Y5.out) (fun e => by have := (O5.out.base (n0 + 1) e.symm).1; omega)).trans Y5.out
        obtain ⟨a6, c6, rfl, _, _⟩ := ho6.slice
        have H7 := vl (SRA.out _ _ _ _ w6 (HD.out w6 B6.out) (ho6.arg (bytes_app HBA.out HBZ.out)) (fun h => uown_nil ho6 h) (by unfold ULim; rw [List.length_append]; omega))
        simp only [HALL.out, errW_zero] at H7
        obtain ⟨n6, hn6⟩ : ∃ n6, n6 = (AL ++ Z).length := ⟨_, rfl⟩
        rw [← hn6] at H7 ⊢
        clear ho6 hg6 hn6 B5 X5 Y5 O5 HA5 hs5 HALL
        go_wp2_with fail
        refine H7.out.mono ?_
        rintro e w7 ⟨q7, rfl, hq7, hr7, hb7⟩
        have hb77 : Below w7.heap.size w7 (w7.alloc (.cells #[.string q7.m, .string q7.p, .string q7.h, .slice q7.fa q7.fn q7.fc, .slice q7.ba q7.bn q7.bc] 25)) := (Below.refl _ _).alloc (Nat.le_refl _) _
        obtain ⟨W7, hW7⟩ : ∃ W7, W7 = w7.alloc (.cells #[.string q7.m, .string q7.p, .string q7.h, .slice q7.fa q7.fn q7.fc, .slice q7.ba q7.bn q7.bc] 25) := ⟨_, rfl⟩
        have Z7 : Vl (RqBox W7 w7.heap.size q7) := by show RqBox _ _ _; unfold RqBox; rw [hW7]; exact heap_alloc_new w7 _
        rw [← hW7] at hb77
        have hbb : Below w6.heap.size w6 W7 := hb7.trans (hb77.mono hb7.size)
        have B7 : Vl (Below w.heap.size w W7) := B6.out.trans (hbb.mono B6.out.size)
        have X7 := vl (X6.out.below hbb)
        have Y7 := vl (Y6.out.below hbb)
        have H8 := vl (sreq_like q7 q W7 (hq7.below hb77) (HQ.out W7 B7.out) hr7)
        obtain ⟨k0, k1, k2, k3, k4⟩ := X7.out.cells
        obtain ⟨l0, l1, l2, l3, l4⟩ := Z7.out.cells
        rw [hW7] at k0 k1 k2 k3 k4 l0 l1 l2 l3 l4
        unfold RqM.val at H8 ⊢
        clear hb7 hb77 hbb hq7 hr7 H7 B6 X6 Y6 Z7
        go_wp2_with fail
        rw [← hW7]
        clear hW7 k0 k1 k2 k3 k4 l0 l1 l2 l3 l4
        refine H8.out.mono ?_
        rintro e w8 ⟨rfl, hb8⟩
        have B8 : Vl (Below w.heap.size w w8) := B7.out.trans (hb8.mono B7.out.size)
        have X8 := vl (X7.out.below hb8)
        have Y8 := vl (Y7.out.below hb8)
        clear hb8 H8 B7 X7 Y7
        go_wp2
        go_meet
        exact ⟨B8.out, X8.out, Y8.out⟩
  case rest =>
  obtain ⟨B3, X3, Y3⟩ := hcut
  clear B2 X2 Y2 O2 HEA HAL hvc hvm HBB2 hn2
  obtain ⟨k0, k1, k2⟩ := Y3.out.cells
  have HS3 := vl (ST.out a size wc (HD.out wc B3.out) (HA.out wc B3.out) HI.out)
  obtain ⟨eb, heb⟩ : ∃ eb, tellE a.rp size = eb := ⟨_, rfl⟩
  obtain ⟨TL, hTL⟩ : ∃ TL, tellOut a.rp size = TL := ⟨_, rfl⟩
  rw [heb, hTL] at HS3
  have eg := fun x W => ewg x eb W
  have ee := fun W => ewe eb W
  obtain ⟨ev3, hev3⟩ : ∃ ev3, errW eb = ev3 := ⟨_, rfl⟩
  obtain ⟨b0, hb0⟩ : ∃ b0, decide (eb = 0) = b0 := ⟨_, rfl⟩
  rw [hev3] at HS3
  simp only [hev3] at eg
  simp only [hev3, hb0] at ee
  have HB0 := vl hb0
  have HEB := vl heb
  have HTL := vl hTL
  have hn3 : n0 + 2 ≤ wc.heap.size := blk_lt Y3.out
  unfold RpM.val at HS3
  clear hev3 hb0 heb hTL
  go_wp2_with fail
  refine HS3.out.mono ?_
  rintro e w3 ⟨v3, rfl, ho3, hb3⟩
  have B4 : Vl (Below w.heap.size w w3) := B3.out.trans (hb3.mono B3.out.size)
  have X4 := vl (X3.out.below hb3)
  have Y4 := vl (Y3.out.below hb3)
  have O4 : Vl (UOwn w3 (n0 + 2) v3 TL) := ho3.mono hn3
  obtain ⟨ta, tc, rfl, htc, htm⟩ := ho3.slice
  obtain ⟨m0, m1, m2⟩ := Y4.out.cells
  clear ho3 hb3 HS3 B3 X3 Y3 k0 k1 k2 hn3
  go_upto_region 18 with fail
  go_cut [145] (fun b wx => ∃ bb : Bool, b = .bool bb ∧ Vl (wx = w3) ∧ Vl (bb = true → eb = 0 ∧ TL.length < 20000 ∧ noBody false a.code = false))
  case first =>
    as_aux_lemma =>
      cases b0 with
      | false =>
        go_wp2
        go_meet
        exact ⟨false, rfl, rfl, fun h => by cases h⟩
      | true =>
        have hz : eb = 0 := of_decide_eq_true HB0.out
        by_cases hlt : TL.length < 20000
        case neg =>
          have hlt' : ¬ ((TL.length : Int) < 20000) := by omega
          go_wp2
          go_meet
          exact ⟨false, by simp, rfl, fun h => by cases h⟩
        have hlt' : (TL.length : Int) < 20000 := by omega
        obtain ⟨cd, hcd⟩ : ∃ cd, a.code = cd := ⟨_, rfl⟩
        by_cases h1 : 200 ≤ cd
        case neg =>
          rw [hcd] at m0
          have h1' : ¬ (200 ≤ a.code) := by rw [hcd]; exact h1
          clear hcd
          go_wp2
          go_meet
          exact ⟨false, by simp, rfl, fun h => by cases h⟩
        rw [hcd] at m0
        by_cases h2 : cd = 204
        · subst h2
          have HCD := vl hcd
          clear hcd
          go_wp2
          go_meet
          exact ⟨false, by simp, rfl, fun h => by cases h⟩
        have h2' : (cd != 204) = true := by simpa using h2
        by_cases h3 : cd = 304
        · subst h3
          have HCD := vl hcd
          clear hcd
          go_wp2
          go_meet
          exact ⟨false, by simp, rfl, fun h => by cases h⟩
        have h3' : (cd != 304) = true := by simpa using h3
        have HNB : Vl (noBody false a.code = false) := by
          show noBody false a.code = false
          rw [hcd]
          unfold noBody
          simp
          omega
        clear hcd
        go_wp2
        go_meet
        exact ⟨true, by simp, rfl, fun _ => ⟨hz, hlt, HNB.out⟩⟩
  case rest =>
  obtain ⟨bb, rfl, hwx, HBB2⟩ := hcut
  rw [hwx.out]
  clear hwx eg ee HB0 m0 m1 m2
  go_upto_if 145 with fail
  go_cut [] (fun wx => Vl (Below w.heap.size w wx))
  case first =>
    as_aux_lemma =>
      cases bb with
      | false =>
        go_wp2
        go_meet
        exact B4.out
      | true =>
        obtain ⟨he0, hlt, hnb⟩ := HBB2.out rfl
        subst he0
        have HAQ : Vl (TL = tellL a.rp size) := by
          show TL = _
          rw [← HTL.out]
          unfold tellOut
          rw [if_pos HEB.out]
        have HBA : Vl (Bytes TL) := by
          show Bytes TL
          rw [HAQ.out]
          exact bytes_tellq a size (tell_ok HEB.out).2.2.2.2.1 HBP.out
        have HCUT : Vl (∀ c : Nat, c < TL.length → endF (tellP false true) (TL.take c) = (8, default, 0)) := fun c hc => by
          rw [HAQ.out] at hc ⊢
          exact endF_short (tell_cut HEB.out hnb true c hc) (by rw [List.length_take]; rw [← HAQ.out] at hc ⊢; omega)
        have HALL : Vl (endF (tellP false false) (TL ++ Z) = (0, a.rp, (TL.length : Int))) := by
          show endF (tellP false false) (TL ++ Z) = _
          have := endF_at (p := tellP false false) (b := TL) (X := Z) (v := a.rp) (by rw [HAQ.out]; exact tell_say HEB.out hnb false Z)
          exact this
        clear HBB2 HTL HEB HAQ hnb
        go_upto_region 19 with fail
        go_cut [153] (fun b wx => ∃ bb : Bool, b = .bool bb ∧ Vl (wx = w3) ∧ Vl (bb = true → 0 ≤ cut ∧ cut < (TL.length : Int)))
        case first =>
          as_aux_lemma =>
            by_cases k0 : 0 ≤ cut
            · by_cases k1 : cut < (TL.length : Int)
              · go_wp2
                go_meet
                exact ⟨true, by simp, rfl, fun _ => ⟨k0, k1⟩⟩
              · go_wp2
                go_meet
                exact ⟨false, by simp, rfl, fun h => by cases h⟩
            · go_wp2
              go_meet
              exact ⟨false, by simp, rfl, fun h => by cases h⟩
        case rest =>
        obtain ⟨bb, rfl, hwx, HBB2⟩ := hcut
        rw [hwx.out]
        clear hwx
        go_upto_if 153 with fail
        go_cut [] (fun wx => Vl (Below w.heap.size w wx) ∧ Vl (RpBox wx (n0 + 1) a) ∧ Vl (UOwn wx (n0 + 2) (.slice ta TL.length tc) TL))
        case first =>
          as_aux_lemma =>
            cases bb with
            | false =>
              go_wp2
              go_meet
              exact ⟨B4.out, Y4.out, O4.out⟩
            | true =>
              obtain ⟨k0, k1⟩ := HBB2.out rfl
              obtain ⟨c, rfl⟩ : ∃ c : Nat, cut = c := ⟨cut.toNat, by omega⟩
              obtain ⟨g, cp, hv, hcc, hac⟩ := O4.out.cut HBA.out c (by omega)
              obtain ⟨rfl, rfl⟩ : ta = some ⟨g, 0, none⟩ ∧ tc = cp := by
                simp only [Value.slice.injEq] at hv
                exact ⟨hv.1, hv.2.2⟩
              have H5 := vl (SRT.out _ _ _ _ false true w3 (HD.out w3 B4.out) hac (by intro h; cases h) (fun _ => by omega) (by unfold ULim; omega))
              rw [HCUT.out c (by omega)] at H5
              simp only [errW_not (show (8 : Int) ≠ 0 by omega)] at H5
              have hcc' : (c : Int) ≤ (tc : Int) := by omega
              clear hac hv
              go_wp2_with fail
              refine H5.out.mono ?_
              rintro e w5 ⟨q5, rfl, hq5, hr5, hb5⟩
              have hb55 : Below w3.heap.size w3 (w5.alloc (.cells #[.int .i64 q5.code, .slice q5.fa q5.fn q5.fc, .slice q5.ba q5.bn q5.bc] 27)) := hb5.alloc hb5.size _
              obtain ⟨W5, hW5⟩ : ∃ W5, W5 = w5.alloc (.cells #[.int .i64 q5.code, .slice q5.fa q5.fn q5.fc, .slice q5.ba q5.bn q5.bc] 27) := ⟨_, rfl⟩
              rw [← hW5] at hb55
              have B5 : Vl (Below w.heap.size w W5) := B4.out.trans (hb55.mono B4.out.size)
              have Y5 := vl (Y4.out.below hb55)
              have O5 := vl (O4.out.below hb55)
              have H6 := vl (error_hit 8 8 W5 (HG.out W5 B5.out))
              unfold RpM.val
              clear hb5 hb55 hq5 hr5 H5 B4 X4 Y4 O4
              go_wp2_with fail
              rw [← hW5]
              clear hW5
              refine H6.out.mono ?_
              rintro e w6 ⟨rfl, hb6⟩
              have B6 : Vl (Below w.heap.size w w6) := B5.out.trans (hb6.mono B5.out.size)
              have Y6 := vl (Y5.out.below hb6)
              have O6 := vl (O5.out.below hb6)
              clear hb6 H6 B5 Y5 O5
              go_wp2
              go_meet
              exact ⟨B6.out, Y6.out, O6.out⟩
        case rest =>
        obtain ⟨B5, Y5, O5⟩ := hcut
        clear B4 X4 Y4 O4 HBB2 HCUT
        have HA5 := vl (HZ.out _ B5.out)
        have hs5 : n0 + 2 ≤ wc.heap.size := blk_lt Y5.out
        have hwn := HN0.out
        have HWN : Vl (w.heap.size ≤ n0 + 2) := by show _ ≤ _; omega
        clear hwn
        go_wp2_with (at_builtin; refine wpList_uapp _ rfl _ _ rfl (n0 + 2) _ TL rfl O5.out ba bn bc Z rfl HA5.out (fun h => (HN.out h).2) (by omega) hs5 ?_)
        intro v6 w6 ho6 hg6
        have B6 : Vl (Below w.heap.size w w6) := u_below_grown B5.out hg6 B5.out.size (fun k hk => by have := (O5.out.base k hk).1; have := HWN.out; omega)
        have Y6 : Vl (RpBox w6 (n0 + 1) a) := (hg6.block (n0 + 1) (blk_lt Y5.out) (fun e => by have := (O5.out.base (n0 + 1) e.symm).1; omega)).trans Y5.out
        obtain ⟨a6, c6, rfl, _, _⟩ := ho6.slice
        have H7 := vl (SRT.out _ _ _ _ false false w6 (HD.out w6 B6.out) (ho6.arg (bytes_app HBA.out HBZ.out)) (fun h => uown_nil ho6 h) (fun h => by cases h) (by unfold ULim; rw [List.length_append]; omega))
        simp only [HALL.out, errW_zero] at H7
        obtain ⟨n6, hn6⟩ : ∃ n6, n6 = (TL ++ Z).length := ⟨_, rfl⟩
        rw [← hn6] at H7 ⊢
        clear ho6 hg6 hn6 B5 Y5 O5 HA5 hs5 HALL
        go_wp2_with fail
        refine H7.out.mono ?_
        rintro e w7 ⟨q7, rfl, hq7, hr7, hb7⟩
        have hb77 : Below w7.heap.size w7 (w7.alloc (.cells #[.int .i64 q7.code, .slice q7.fa q7.fn q7.fc, .slice q7.ba q7.bn q7.bc] 27)) := (Below.refl _ _).alloc (Nat.le_refl _) _
        obtain ⟨W7, hW7⟩ : ∃ W7, W7 = w7.alloc (.cells #[.int .i64 q7.code, .slice q7.fa q7.fn q7.fc, .slice q7.ba q7.bn q7.bc] 27) := ⟨_, rfl⟩
        have Z7 : Vl (RpBox W7 w7.heap.size q7) := by show RpBox _ _ _; unfold RpBox; rw [hW7]; exact heap_alloc_new w7 _
        rw [← hW7] at hb77
        have hbb : Below w6.heap.size w6 W7 := hb7.trans (hb77.mono hb7.size)
        have B7 : Vl (Below w.heap.size w W7) := B6.out.trans (hbb.mono B6.out.size)
        have Y7 := vl (Y6.out.below hbb)
        have H8 := vl (srep_like q7 a W7 (hq7.below hb77) (HA.out W7 B7.out) hr7)
        obtain ⟨k0, k1, k2⟩ := Y7.out.cells
        obtain ⟨l0, l1, l2⟩ := Z7.out.cells
        rw [hW7] at k0 k1 k2 l0 l1 l2
        unfold RpM.val at H8 ⊢
        clear hb7 hb77 hbb hq7 hr7 H7 B6 Y6 Z7
        go_wp2_with fail
        rw [← hW7]
        clear hW7 k0 k1 k2 l0 l1 l2
        refine H8.out.mono ?_
        rintro e w8 ⟨rfl, hb8⟩
        have B8 : Vl (Below w.heap.size w w8) := B7.out.trans (hb8.mono B7.out.size)
        clear hb8 H8 B7 Y7
        go_wp2
        go_meet
        exact B8.out
  case rest =>
  have B9 := hcut
  clear hcut B4 X4 Y4 O4 HBB2 HTL HEB htc htm
  obtain ⟨x9, r9, u9, he9⟩ : ∃ x9 r9 u9, endF askP Z = (x9, r9, u9) := ⟨_, _, _, rfl⟩
  have H9 := vl (SRA.out ba bn bc Z wc (HD.out wc B9.out) (HZ.out wc B9.out) (fun h => (HN.out h).1) (by unfold ULim; omega))
  rw [he9] at H9
  have eg := fun x W => ewg2 x x9 W
  have ee := fun W => ewn x9 W
  obtain ⟨ev9, hev9⟩ : ∃ ev9, errW x9 = ev9 := ⟨_, rfl⟩
  obtain ⟨b9, hb9⟩ : ∃ b9, decide (x9 = 0) = b9 := ⟨_, rfl⟩
  simp only [hev9] at H9
  simp only [hev9] at eg
  simp only [hev9, hb9] at ee
  have HB9 := vl hb9
  have HE9 := vl he9
  clear hev9 hb9 he9
  go_wp2_with fail
  refine H9.out.mono ?_
  rintro e w9 ⟨q9, rfl, hq9, hr9, hb9⟩
  have hb99 : Below w9.heap.size w9 (w9.alloc (.cells #[.string q9.m, .string q9.p, .string q9.h, .slice q9.fa q9.fn q9.fc, .slice q9.ba q9.bn q9.bc] 25)) := (Below.refl _ _).alloc (Nat.le_refl _) _
  obtain ⟨W9, hW9⟩ : ∃ W9, W9 = w9.alloc (.cells #[.string q9.m, .string q9.p, .string q9.h, .slice q9.fa q9.fn q9.fc, .slice q9.ba q9.bn q9.bc] 25) := ⟨_, rfl⟩
  have Z9 : Vl (RqBox W9 w9.heap.size q9) := by show RqBox _ _ _; unfold RqBox; rw [hW9]; exact heap_alloc_new w9 _
  rw [← hW9] at hb99
  have hbb : Below wc.heap.size wc W9 := hb9.trans (hb99.mono hb9.size)
  have BW : Vl (Below w.heap.size w W9) := B9.out.trans (hbb.mono B9.out.size)
  have Q9 := vl (hq9.below hb99)
  have R9 := vl hr9
  obtain ⟨l0, l1, l2, l3, l4⟩ := Z9.out.cells
  rw [hW9] at l0 l1 l2 l3 l4
  unfold RqM.val
  clear hb9 hb99 hbb hq9 hr9 H9 B9 Z9
  cases b9 with
  | false =>
    have EW := vl hW9
    clear hW9
    go_wp2
    go_ret
    exact ⟨rfl, by rw [← EW.out]; exact BW.out⟩
  | true =>
    have hz : x9 = 0 := of_decide_eq_true HB9.out
    subst hz
    obtain ⟨X, hX1, hX2⟩ := endF_inv HE9.out
    obtain ⟨hX3, hX4⟩ := ask_inv hX1
    have hap : 1 ≤ (askL r9).length := by unfold askL; simp; omega
    obtain ⟨N, hN⟩ : ∃ N, N = (askL r9).length := ⟨_, rfl⟩
    have hzz := congrArg List.length hX4
    rw [List.length_append, ← hN, hzl] at hzz
    obtain rfl : u9 = (N : Int) := by rw [hX2, hzl]; omega
    have htk : Z.take N = askL r9 := by rw [hX4, hN]; simp
    obtain ⟨g, off, rfl, hNc, _⟩ := (HZ.out W9 BW.out).head N (by omega) (by omega)
    have HT9 : Vl (∀ W, Below w.heap.size w W → (convert 23 9 (.slice (some ⟨g, off, none⟩) N bc)).run Tryz.prog W = .ok (.string (strOfNums (askL r9))) W) := fun W hb => by
      obtain ⟨g', off', he, _, ha⟩ := (HZ.out W hb).head N (by omega) (by omega)
      cases he
      rw [← htk]
      exact ha.conv
    have H10 := vl (SA.out q9 W9 (HD.out W9 BW.out) Q9.out)
    rw [R9.out] at H10
    unfold askOut at H10
    simp only [hX3, if_true, errW_zero] at H10
    unfold RqM.val at H10
    have hNc' : (N : Int) ≤ (bc : Int) := by omega
    clear hX1 hX2 hX3 hX4 hap hN hzz htk HE9 HB9
    go_wp2_with fail
    rw [← hW9]
    clear hW9 l0 l1 l2 l3 l4
    refine H10.out.mono ?_
    rintro e w10 ⟨v10, rfl, ho10, hb10⟩
    have B10 : Vl (Below w.heap.size w w10) := BW.out.trans (hb10.mono BW.out.size)
    have t1 : ∀ k, (convert 23 9 v10).run Tryz.prog (w10.drewN k) = .ok (.string (strOfNums (askL r9))) (w10.drewN k) := fun k => (ho10.below (dN_below (Below.refl _ w10) k)).text
    have t2 : ∀ k, (convert 23 9 (.slice (some ⟨g, off, none⟩) N bc)).run Tryz.prog (w10.drewN k) = .ok (.string (strOfNums (askL r9))) (w10.drewN k) := fun k => HT9.out _ (dN_below B10.out k)
    obtain ⟨S9, hS9⟩ : ∃ S9, strOfNums (askL r9) = S9 := ⟨_, rfl⟩
    simp only [hS9] at t1 t2
    clear ho10 hb10 H10 HT9 hS9
    go_wp2_with fail
    go_quiet (fail)
    go_wp2
    go_ret
    exact ⟨by simp, dN_below B10.out _⟩
end Go.Proofs.YtkaihfminlincafGreatDoor
