/-
  THE WALK of the law StreamsSeen. No claim by itself.
-/
import Derived.Test.YthphblmoeomeoadSref3
import Derived.Test.YthphblmoeomeoadNopen2
import Derived.Deep.QuietTactic
import Derived.BigQuiet
namespace Go.Proofs.Ythphblmoeomeoad
open Go.RowKit Go.Maps
set_option maxRecDepth 100000
theorem drewN_heap (w : World) : ∀ n, (w.drewN n).heap = w.heap
  | 0 => rfl
  | n + 1 => by show (w.drewN n).heap = w.heap; exact drewN_heap w n
theorem drewN_bel {B : Nat} {w w' : World} (h : Below B w w') : ∀ n, Below B w (w'.drewN n)
  | 0 => h
  | n + 1 => by
    have := drewN_bel h n
    exact ⟨this.os, this.tape, this.output, this.size, this.block⟩
theorem Tn.cell {S : Nat → Prop} {w w' : World} (h : Tn S w w') {g o : Nat} {v : Value} (hc : w.cell? ⟨g, o, none⟩ = some v) (hn : ¬ S g) : w'.cell? ⟨g, o, none⟩ = some v :=
  (World.cell?_of_block (a := ⟨g, o, none⟩) (h.block g (blk_of_cell hc) hn)).trans hc
/-- Both sides' streams, side by side. -/
structure Sn (w0 wr : World) (sb mb rb n : Nat) (D : Dat) (vI vS : Value) (L : SL) (last : Int) : Prop where
  hD : StP wr sb mb n D last
  hR : RsP wr rb vI vS L last
  rel : Rel D L
  pos : 0 ≤ last
  lo : w0.heap.size ≤ sb ∧ w0.heap.size ≤ mb ∧ sb < rb ∧ mb < rb
  bel : Below w0.heap.size w0 wr
theorem Sn.below {w0 wr wx : World} {sb mb rb n : Nat} {D : Dat} {vI vS : Value} {L : SL} {last : Int} (h : Sn w0 wr sb mb rb n D vI vS L last) (hb : Below wr.heap.size wr wx) : Sn w0 wx sb mb rb n D vI vS L last :=
  ⟨h.hD.below hb, h.hR.kept (fun k _ hk => hb.block k hk), h.rel, h.pos, h.lo, h.bel.trans (hb.mono h.bel.size)⟩
theorem Sn.notMine {w0 wr : World} {sb mb rb n : Nat} {D : Dat} {vI vS : Value} {L : SL} {last : Int} (h : Sn w0 wr sb mb rb n D vI vS L last) {k : Nat} (hk : rb ≤ k) : ¬ Mine sb mb k := fun e => by
  have := h.lo
  rcases e with e | e <;> omega
theorem Sn.notHers {w0 wr : World} {sb mb rb n : Nat} {D : Dat} {vI vS : Value} {L : SL} {last : Int} (h : Sn w0 wr sb mb rb n D vI vS L last) {k : Nat} (hk : k < rb) : ¬ Hers rb vI vS k := fun e => by
  rcases e with e | e | e
  · omega
  · have := (h.hR.oI.lt k e).1; omega
  · have := (h.hR.oS.lt k e).1; omega
/-- Behind a call that turns the one, the other bears it. -/
theorem Sn.dev {w0 wr w1 : World} {sb mb rb n : Nat} {D : Dat} {vI vS : Value} {L : SL} {last : Int} (h : Sn w0 wr sb mb rb n D vI vS L last) (ht : Tn (Mine sb mb) wr w1) : RsP w1 rb vI vS L last :=
  h.hR.kept (fun k hk hl => ht.block k hl (h.notMine hk))
theorem Sn.both {w0 wr w1 w2 : World} {sb mb rb n n' : Nat} {D D' : Dat} {vI vS vI' vS' : Value} {L L' : SL} {last last' : Int} (h : Sn w0 wr sb mb rb n D vI vS L last) (ht : Tn (Mine sb mb) wr w1) (hD : StP w1 sb mb n' D' last')
    (ht2 : Tn (Hers rb vI vS) w1 w2) (hR : RsP w2 rb vI' vS' L' last') (hrel : Rel D' L') (hp : 0 ≤ last') : Sn w0 w2 sb mb rb n' D' vI' vS' L' last' := by
  have hl := h.lo
  refine ⟨hD.tn ht2 (h.notHers hl.2.2.1) (h.notHers hl.2.2.2), hR, hrel, hp, hl, ?_⟩
  refine Tn.below (Tn.below h.bel ht h.bel.size (fun i hi => by rcases hi with e | e <;> omega)) ht2 (Nat.le_trans h.bel.size ht.size) (fun i hi => ?_)
  rcases hi with e | e | e
  · omega
  · have := (h.hR.oI.lt i e).1; omega
  · have := (h.hR.oS.lt i e).1; omega
set_option maxHeartbeats 4000000 in
theorem seen_ok (a : Option Addr) (len cap : Nat) (RA : Nat → Option Addr) (RL RC : Nat → Nat) (RZ : Nat → List Int) (w : World) (hI : JArg w a len cap RA RL RC RZ) :
    Calls Try.prog 4 #[.slice a len cap] w fun e w' => e = .returned (.bool true) ∧ Below w.heap.size w w' := by
  have HN := vl (snew_any w)
  unfold sptr at HN
  have HI : Vl (∀ wx, Below w.heap.size w wx → JArg wx a len cap RA RL RC RZ) := fun wx hb => hI.below hb
  clear hI
  go_enter Try.func4, Try.ntmps4
  go_wp2_with fail
  refine HN.out.mono ?_
  rintro e W ⟨rfl, hP0, hB0, hsz⟩
  obtain ⟨sb, hsb⟩ : ∃ sb, sb = w.heap.size + 1 := ⟨_, rfl⟩
  obtain ⟨mb, hmb⟩ : ∃ mb, mb = w.heap.size := ⟨_, rfl⟩
  obtain ⟨rb, hrb⟩ : ∃ rb, rb = W.heap.size := ⟨_, rfl⟩
  rw [← hsb] at hP0 ⊢
  rw [← hmb] at hP0
  obtain ⟨W1, hW1⟩ : ∃ W1, W1 = W.alloc (.cells #[.slice none 0 0, .slice none 0 0, .int .i64 0] 40) := ⟨_, rfl⟩
  have hx : W1.heap[rb]? = some (.cells #[.slice none 0 0, .slice none 0 0, .int .i64 0] 40 (0, 0)) := by rw [hW1, hrb]; exact heap_alloc_new _ _
  have hb1 : Below W.heap.size W W1 := by rw [hW1]; exact (Below.refl _ W).alloc (Nat.le_refl _) _
  have hSn : Sn w W1 sb mb rb 0 (.map []) (.slice none 0 0) (.slice none 0 0) [] 0 :=
    ⟨hP0.below hb1, ⟨by simp only [World.cell?, hx]; rfl, by simp only [World.cell?, hx]; rfl, by simp only [World.cell?, hx]; rfl, by simp only [World.frozen?, hx]; rfl, by simp only [World.frozen?, hx]; rfl, by simp only [World.frozen?, hx]; rfl,
      World.ownsRow_nil _ _ _ _, World.ownsRow_nil _ _ _ _, fun k hk => by cases hk⟩, rel_nil, by omega, by omega, hB0.trans (hb1.mono hB0.size)⟩
  have HSN := vl hSn
  have HW1 := vl hW1
  have HRB := vl hrb
  clear HN hP0 hB0 hsz hsb hmb hrb hW1 hx hb1 hSn
  go_wp2
  rw [← HW1.out, ← HRB.out]
  clear HW1 HRB
  go_loopw [5] (fun i wr => ∃ (k n : Nat) (D : Dat) (vI vS : Value) (L : SL) (last : Int), i = .int .i64 k ∧ k ≤ 80 ∧ n ≤ k ∧ L.length ≤ k ∧ Sn w wr sb mb rb n D vI vS L last) (fun i _ => 80 - (intOf i).toNat)
  case atStart => exact ⟨0, 0, _, _, _, [], 0, rfl, by omega, by omega, by simp, HSN.out⟩
  case round =>
    obtain ⟨k, n, D, vI, vS, L, last, rfl, hk, hn, hL, hSN⟩ := hrel
    have HS := vl hSN
    clear hSN HSN
    by_cases h1 : k < len
    case neg =>
      have p1 : ¬ ((k : Int) < (len : Int)) := by omega
      clear h1
      go_wp2
      go_ret
      exact ⟨rfl, HS.out.bel⟩
    have p1 : (k : Int) < (len : Int) := by omega
    by_cases h2 : k < 80
    case neg =>
      have p2 : ¬ ((k : Int) < 80) := by omega
      clear h1 h2
      go_wp2
      go_ret
      exact ⟨rfl, HS.out.bel⟩
    have p2 : (k : Int) < 80 := by omega
    rcases HI.out wr HS.out.bel with hx | ⟨g, off, rfl, hr⟩
    · omega
    obtain ⟨r1, r2, r3⟩ := hr.hrow k h1
    have HRC := vl (hr.hcell k h1)
    have hcap2 := hr.hcap
    have hmax2 := hr.hmax
    unfold maxLen at hmax2 r3
    clear hr
    generalize RA k = ra at *
    generalize RL k = rl at *
    generalize RC k = rc at *
    generalize RZ k = rz at *
    have hg1 : g < wr.heap.size := blk_of_cell r1
    go_upto_block 2 with fail
    go_cut [7] (fun _ wx => ∃ x y z : Int, wx = wr.alloc (.cells #[.int .i64 x, .int .i64 y, .int .i64 z] 41) ∧ WfI y)
    case first =>
      as_aux_lemma =>
        go_wp2_with fail
        go_loopw [7] (fun i wq => ∃ (j : Nat) (x y z : Int), i = .int .i64 j ∧ j ≤ 3 ∧ wq = wr.alloc (.cells #[.int .i64 x, .int .i64 y, .int .i64 z] 41) ∧ WfI y) (fun i _ => 3 - (intOf i).toNat)
        case atStart => exact ⟨0, 0, 0, 0, rfl, by omega, rfl, (by decide : (Lit.int .i64 0).wf = true)⟩
        case round =>
          obtain ⟨j, x, y, z, rfl, hj, rfl, hwy⟩ := hrel
          have HWY := vl hwy
          clear hwy
          by_cases hjl : j < rl ∧ j < 3
          · obtain ⟨hj1, hj2⟩ := hjl
            obtain ⟨g', off', rfl, rz1, rzw⟩ := HRC.out j hj1
            have HZW := vl rzw
            clear rzw
            have hg2 : g' < wr.heap.size := blk_of_cell rz1
            have e1 : (j : Int) < (rl : Int) := by omega
            have e2 : (j : Int) < 3 := by omega
            generalize rz.getD j 0 = q at *
            obtain rfl | rfl | rfl : j = 0 ∨ j = 1 ∨ j = 2 := by omega
            · rw [Nat.add_zero] at rz1
              go_wp2
              go_roundw
              case rel => exact ⟨1, q, y, z, rfl, by omega, rfl, HWY.out⟩
              case measure => simp [intOf]
            · go_wp2
              go_roundw
              case rel => exact ⟨2, x, q, z, rfl, by omega, rfl, HZW.out⟩
              case measure => simp [intOf]
            · go_wp2
              go_roundw
              case rel => exact ⟨3, x, y, q, rfl, by omega, rfl, HWY.out⟩
              case measure => simp [intOf]
          · have hcase : (rl : Int) ≤ (j : Int) ∨ ((j : Int) < (rl : Int) ∧ 3 ≤ (j : Int)) := by omega
            clear hjl
            rcases hcase with e1 | ⟨e1, e2⟩
            all_goals
              go_wp2_with fail
              go_meet
              exact ⟨x, y, z, rfl, HWY.out⟩
    case rest =>
    obtain ⟨x, y, z, hwc, hwy⟩ := hcut
    have hbc : Below wr.heap.size wr wc := by rw [hwc]; exact (Below.refl _ _).alloc (Nat.le_refl _) _
    have hxv : wc.heap[wr.heap.size]? = some (.cells #[.int .i64 x, .int .i64 y, .int .i64 z] 41 (0, 0)) := by rw [hwc]; exact heap_alloc_new _ _
    have v0 : wc.cell? ⟨wr.heap.size, 0, none⟩ = some (.int .i64 x) := by simp only [World.cell?, hxv]; rfl
    have v1 : wc.cell? ⟨wr.heap.size, 1, none⟩ = some (.int .i64 y) := by simp only [World.cell?, hxv]; rfl
    have v2 : wc.cell? ⟨wr.heap.size, 2, none⟩ = some (.int .i64 z) := by simp only [World.cell?, hxv]; rfl
    have hvb1 : rb ≤ wr.heap.size := Nat.le_of_lt (blk_of_cell HS.out.hR.c0)
    have hvb2 : ¬ Hers rb vI vS wr.heap.size := fun e => by
      rcases e with e | e | e
      · have := blk_of_cell HS.out.hR.c0; omega
      · have := (HS.out.hR.oI.lt _ e).2; omega
      · have := (HS.out.hR.oS.lt _ e).2; omega
    have HC := vl (HS.out.below hbc)
    have hvb3 : ¬ Mine sb mb wr.heap.size := HC.out.notMine hvb1
    have HV2 := vl hvb2
    have HV3 := vl hvb3
    have HWY := vl hwy
    clear hwc hbc hxv hvb1 hvb2 hvb3 hwy HRC r1 r2 r3 hcap2 hmax2 hg1
    generalize wr.heap.size = vb at *
    clear HS
    go_upto_if 49 with fail
    go_cut [8, 9, 10, 11] (fun _ _ _ _ wx => ∃ (n' : Nat) (D' : Dat) (vI' vS' : Value) (L' : SL) (last' : Int), Sn w wx sb mb rb n' D' vI' vS' L' last' ∧ n' ≤ k + 1 ∧ L'.length ≤ k + 1 ∧ wx.cell? ⟨vb, 1, none⟩ = some (.int .i64 y))
    case first =>
      as_aux_lemma =>
        have HK := vl (And.intro hn hL)
        have hnm : n < maxLen := by unfold maxLen; omega
        have hL1 : L.length ≤ 1000 := by omega
        by_cases hx3 : x < 3
        · by_cases hc : y.tmod 2 = 0 ∨ y ≤ last
          · have HO := vl (sopen_no HC.out.hD y hc)
            have HR := vl (rsopen_no HC.out.hR y (hc.imp (fun h => by omega) id))
            unfold sptr at HO HR
            clear hc
            go_wp2_with fail
            refine HO.out.mono ?_
            rintro e w1 ⟨rfl, rfl⟩
            clear HO
            go_wp2_with fail
            refine HR.out.mono ?_
            rintro e w1 ⟨rfl, rfl⟩
            clear HR
            go_wp2
            go_meet
            exact ⟨n, D, vI, vS, L, last, HC.out, by have := HK.out; omega, by have := HK.out; omega, v1⟩
          · have hpos := HC.out.pos
            have hy1 : 1 ≤ y := by omega
            have hy2 : y % 2 = 1 := by rw [← tmodp hy1]; have := tmodp hy1; omega
            have hyl : last < y := by omega
            have hyo : y.tmod 2 ≠ 0 := fun e => hc (Or.inl e)
            have HY := vl (And.intro hy1 (And.intro hy2 hyl))
            have hsz := HC.out.rel.sz
            by_cases hf : 16 ≤ Maps.size D
            · have HO := vl (sopen_full HC.out.hD y hyo hyl hf)
              have HF := vl (show 16 ≤ cntL L by omega)
              unfold sptr at HO
              clear hc hpos hy1 hy2 hyl hyo hsz hf
              go_wp2_with fail
              refine HO.out.mono ?_
              rintro e w1 ⟨rfl, hP1, hT1⟩
              have v1a := hT1.cell v1 HV3.out
              have HR := vl (rsopen_full (HC.out.dev hT1) hL1 y HY.out.1 HY.out.2.1 HY.out.2.2 HF.out)
              have HP1 := vl hP1
              have HT1 := vl hT1
              unfold sptr at HR
              clear HO hP1 hT1 v0 v1 v2
              go_wp2_with fail
              refine HR.out.mono ?_
              rintro e w2 ⟨rfl, hP2, hT2⟩
              have v1b := hT2.cell v1a HV2.out
              have HP2 := vl (HC.out.both HT1.out HP1.out hT2 hP2 HC.out.rel (by have := HY.out.1; omega))
              clear HR hP2 hT2 v1a
              go_wp2
              go_meet
              exact ⟨n, D, vI, vS, L, y, HP2.out, by have := HK.out; omega, by have := HK.out; omega, v1b⟩
            · have HO := vl (sopen_ok HC.out.hD y HWY.out hnm hyo hyl (by omega))
              have HF := vl (show cntL L < 16 by omega)
              have hrl := HC.out.rel.put (HC.out.hD.own.tidy klaw) y 1 (by omega) (by omega)
              rw [if_neg (by decide)] at hrl
              have HRL := vl hrl
              have HPL := vl (putL_len L y 1)
              unfold sptr at HO
              clear hc hpos hy1 hy2 hyl hyo hsz hf hrl
              go_wp2_with fail
              refine HO.out.mono ?_
              rintro e w1 ⟨rfl, hP1, hT1⟩
              have v1a := hT1.cell v1 HV3.out
              have HR := vl (rsopen_ok (HC.out.dev hT1) hL1 y HY.out.1 HY.out.2.1 HY.out.2.2 HF.out)
              have HP1 := vl hP1
              have HT1 := vl hT1
              unfold sptr at HR
              clear HO hP1 hT1 v0 v1 v2
              go_wp2_with fail
              refine HR.out.mono ?_
              rintro e w2 ⟨rfl, ⟨vI', vS', hP2⟩, hT2⟩
              have v1b := hT2.cell v1a HV2.out
              have HP2 := vl (HC.out.both HT1.out HP1.out hT2 hP2 HRL.out (by have := HY.out.1; omega))
              clear HR hP2 hT2 v1a
              go_wp2
              go_meet
              exact ⟨n + 1, _, vI', vS', _, y, HP2.out, by have := HK.out; omega, by have := HK.out; have := HPL.out; omega, v1b⟩
        · have HO := vl (sput_any HC.out.hD y z HWY.out hnm)
          have HRL := vl (HC.out.rel.putD (HC.out.hD.own.tidy klaw) last y z)
          have HPO := vl HC.out.pos
          unfold sptr at HO
          go_wp2_with fail
          refine HO.out.mono ?_
          rintro e w1 ⟨⟨vv, rfl⟩, hP1, hT1⟩
          have v1a := hT1.cell v1 HV3.out
          have v2a := hT1.cell v2 HV3.out
          have hRd := HC.out.dev hT1
          have HP1 := vl hP1
          have HT1 := vl hT1
          by_cases hc : y < 1 ∨ y.tmod 2 ≠ 1 ∨ last < y ∨ z < 1 ∨ 4 < z
          · have HR := vl (rsput_no hRd y z hc)
            have hrl := HRL.out
            unfold putR at hrl
            rw [if_pos hc] at hrl
            have HP2 := vl (HC.out.both HT1.out HP1.out (Tn.refl _ _) hRd hrl HPO.out)
            unfold sptr at HR
            clear HO hP1 hT1 v0 v1 v2 hRd hrl hc HRL
            go_wp2_with fail
            refine HR.out.mono ?_
            rintro e w2 ⟨⟨vv2, rfl⟩, rfl⟩
            clear HR
            go_wp2
            go_meet
            exact ⟨n + 1, _, vI, vS, L, last, HP2.out, by have := HK.out; omega, by have := HK.out; omega, v1a⟩
          · have hy1 : 1 ≤ y := by omega
            have hy2 : y % 2 = 1 := by rw [← tmodp hy1]; have := tmodp hy1; omega
            have HR := vl (rsput_yes hRd hL1 y z hy1 hy2 (by omega) (by omega) (by omega))
            have hrl := HRL.out
            unfold putR at hrl
            rw [if_neg hc] at hrl
            have HRL2 := vl hrl
            have HPL := vl (putL_len L y z)
            unfold sptr at HR
            clear HO hP1 hT1 v0 v1 v2 hRd hrl hc HRL hy1 hy2
            go_wp2_with fail
            refine HR.out.mono ?_
            rintro e w2 ⟨⟨vv2, rfl⟩, ⟨vI', vS', hP2⟩, hT2⟩
            have v1b := hT2.cell v1a HV2.out
            have HP2 := vl (HC.out.both HT1.out HP1.out hT2 hP2 HRL2.out HPO.out)
            clear HR hP2 hT2 v1a v2a
            go_wp2
            go_meet
            exact ⟨n + 1, _, vI', vS', _, last, HP2.out, by have := HK.out; omega, by have := HK.out; have := HPL.out; omega, v1b⟩
    case rest =>
    obtain ⟨n', D', vI', vS', L', last', hS', hn', hL', v1'⟩ := hcut
    clear v0 v1 v2 HC HV2 HV3
    have HF := vl hS'
    have hq : ∀ m, StP (wc.drewN m) sb mb n' D' last' ∧ RsP (wc.drewN m) rb vI' vS' L' last' := fun m =>
      ⟨hS'.hD.kept (by rw [drewN_heap]) (by rw [drewN_heap]), hS'.hR.kept (fun k _ _ => by rw [drewN_heap])⟩
    have hst := hS'.rel.state last' y
    have hsz := hS'.rel.sz
    have c2 := hS'.hR.c2
    have HL1 := vl (show L'.length ≤ 1000 by omega)
    obtain ⟨q1, hq1⟩ : ∃ q, stF D' last' y = q := ⟨_, rfl⟩
    obtain ⟨q2, hq2⟩ : ∃ q, Maps.size D' = q := ⟨_, rfl⟩
    rw [hq1] at hst
    rw [hq2] at hsz
    have Q1 : Vl (∀ m, Calls Try.prog 15 #[.pointer (some ⟨sb, 0, none⟩), .int .i64 y] (wc.drewN m) fun e w' => e = .returned (.int .i64 q1) ∧ w' = wc.drewN m) := fun m => by
      rw [← hq1]; exact (sstate_any (hq m).1 y HWY.out).mono fun _ _ h => ⟨h.1, h.2.symm⟩
    have Q2 : Vl (∀ m, Calls Try.prog 16 #[.pointer (some ⟨rb, 0, none⟩), .int .i64 y] (wc.drewN m) fun e w' => e = .returned (.int .i64 q1) ∧ w' = wc.drewN m) := fun m => by
      rw [hst]; exact (rsstate_any (hq m).2 HL1.out y).mono fun _ _ h => ⟨h.1, h.2.symm⟩
    have Q3 : Vl (∀ m, Calls Try.prog 17 #[.pointer (some ⟨sb, 0, none⟩)] (wc.drewN m) fun e w' => e = .returned (.int .i64 q2) ∧ w' = wc.drewN m) := fun m => by
      rw [← hq2]; exact (smany_any (hq m).1).mono fun _ _ h => ⟨h.1, h.2.symm⟩
    have Q4 : Vl (∀ m, Calls Try.prog 18 #[.pointer (some ⟨rb, 0, none⟩)] (wc.drewN m) fun e w' => e = .returned (.int .i64 q2) ∧ w' = wc.drewN m) := fun m => by
      rw [hsz]; exact (rsmany_any (hq m).2 HL1.out).mono fun _ _ h => ⟨h.1, h.2.symm⟩
    have Q5 : Vl (∀ m, Calls Try.prog 19 #[.pointer (some ⟨sb, 0, none⟩)] (wc.drewN m) fun e w' => e = .returned (.int .i64 last') ∧ w' = wc.drewN m) := fun m => (slast_any (hq m).1).mono fun _ _ h => ⟨h.1, h.2.symm⟩
    clear hq hst hsz hq1 hq2 hS'
    go_wp2_with fail
    go_quiet (first | (go_at_call 15; exact Calls.quiet_of_same (Q1.out _)) | (go_at_call 16; exact Calls.quiet_of_same (Q2.out _)) | (go_at_call 17; exact Calls.quiet_of_same (Q3.out _)) | (go_at_call 18; exact Calls.quiet_of_same (Q4.out _)) | (go_at_call 19; exact Calls.quiet_of_same (Q5.out _)))
    go_wp2
    go_roundw
    case rel => exact ⟨k + 1, n', D', vI', vS', L', last', by go_num, by omega, by omega, by omega, HF.out.below (drewN_bel (Below.refl _ _) _)⟩
    case measure => simp [intOf]; omega
end Go.Proofs.Ythphblmoeomeoad
