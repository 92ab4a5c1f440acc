/-
  THE WALK of the Go function tolllaw1.TablePlays, its callees by their contracts. No claim by itself.
-/
import Derived.Test.YtkjfhgoddhigmabDoorTspec2
import Derived.Test.YtkjfhgoddhigmabDoorTtab7
import Derived.Test.YtkjfhgoddhigmabDoorTold
import Derived.Deep.CutBlock
import Derived.Deep.DeepCutAuto
import Derived.Deep.QuietTactic
import Derived.BigQuiet
import Derived.Deep.RegionHeld3
namespace Go.Proofs.YtkjfhgoddhigmabDoor
open Go.RowKit
theorem frozen_new (w : World) (cs : Array Value) (t : TypeId) (i : Nat) : (w.alloc (.cells cs t)).frozen? ⟨w.heap.size, i, none⟩ = false := by
  have h : (w.alloc (.cells cs t)).heap[w.heap.size]? = some (.cells cs t (0, 0)) := Array.getElem?_push_size
  unfold World.frozen?
  rw [h]
  simp
/-- Both tables, alike, and apart from each other and from what was handed in. -/
structure Both (D : TabD) (w0 w : World) (tb mb : Nat) (max : Int) (A : List (ByteArray × ByteArray)) (S : Nat → Prop) : Prop where
  hD : D w tb max A S
  hR : TabR w mb max A (fun q => w0.heap.size ≤ q ∧ ¬ S q)
  hF : Fit max A
  hS : ∀ k, S k → w0.heap.size ≤ k
  hm : w0.heap.size ≤ mb ∧ ¬ S mb
  hb : Below w0.heap.size w0 w
theorem Both.below {D : TabD} (K : TabKeeps D) {w0 w w' : World} {tb mb : Nat} {max : Int} {A : List (ByteArray × ByteArray)} {S : Nat → Prop} (h : Both D w0 w tb mb max A S) (hb : Below w.heap.size w w') : Both D w0 w' tb mb max A S :=
  ⟨K.below h.hD hb, h.hR.below hb, h.hF, h.hS, h.hm, h.hb.trans (hb.mono h.hb.size)⟩
/-- The other table bears a call that turns the one. -/
theorem Both.off {D : TabD} {w0 w w1 : World} {tb mb : Nat} {max : Int} {A : List (ByteArray × ByteArray)} {S : Nat → Prop} (h : Both D w0 w tb mb max A S) (h1 : Off S w w1) : TabR w1 mb max A (fun q => w0.heap.size ≤ q ∧ ¬ S q) :=
  h.hR.kept (h1.block mb (blk_lt h.hR.hmax) h.hm.2) (fun q hq hg => h1.block q hq hg.2)
/-- Behind a call that turns the one table, and then one that turns the other. -/
theorem Both.both {D : TabD} (K : TabKeeps D) {w0 w w1 w2 : World} {tb mb : Nat} {max max' : Int} {A A' : List (ByteArray × ByteArray)} {S S' : Nat → Prop} (h : Both D w0 w tb mb max A S) (h1 : Off S w w1) (hD : D w1 tb max' A' S')
    (hS : ∀ k, S' k → S k ∨ w.heap.size ≤ k) (h2 : But mb w1 w2) (hR : TabR w2 mb max' A' (fun q => w1.heap.size ≤ q)) (hF : Fit max' A') : Both D w0 w2 tb mb max' A' S' := by
  have hmb : mb < w.heap.size := blk_lt h.hR.hmax
  have hnm : ¬ S' mb := fun hs => by rcases hS mb hs with h3 | h3; exact h.hm.2 h3; omega
  have hsz := h.hb.size
  refine ⟨K.frame hD h2.size (fun k hk => h2.block k (K.lt hD k hk) (fun e => hnm (e ▸ hk))) (h2.block _ (K.alw hD).pos ((K.alw hD).ne (h.off h1).hmax)), hR.imp (fun q _ hq => ⟨by have := h1.size; omega, fun hs => by have := K.lt hD q hs; omega⟩), hF, fun k hk => by rcases hS k hk with h3 | h3; exact h.hS k h3; omega, ⟨h.hm.1, hnm⟩, ?_⟩
  have hb1 : Below w0.heap.size w0 w1 := Below.off h.hb h1 hsz h.hS
  exact ⟨h2.os.trans hb1.os, h2.tape.trans hb1.tape, h2.output.trans hb1.output, Nat.le_trans hb1.size h2.size, fun k hk => (h2.block k (by have := hb1.size; omega) (by have := h.hm.1; omega)).trans (hb1.block k hk)⟩
/-- The other way round. -/
theorem Both.turn {D : TabD} {w0 w w1 w2 : World} {tb mb : Nat} {max max' : Int} {A A' : List (ByteArray × ByteArray)} {S S' : Nat → Prop} (h : Both D w0 w tb mb max A S) (h2 : But mb w w1)
    (hR : TabR w1 mb max' A' (fun q => w0.heap.size ≤ q ∧ ¬ S q)) (h1 : Off S w1 w2) (hD : D w2 tb max' A' S') (hS : ∀ k, S' k → S k ∨ w1.heap.size ≤ k) (hF : Fit max' A') : Both D w0 w2 tb mb max' A' S' := by
  have hmb : mb < w1.heap.size := blk_lt hR.hmax
  have hnm : ¬ S' mb := fun hs => by rcases hS mb hs with h3 | h3; exact h.hm.2 h3; omega
  have hb1 : Below w0.heap.size w0 w1 := ⟨h2.os.trans h.hb.os, h2.tape.trans h.hb.tape, h2.output.trans h.hb.output, Nat.le_trans h.hb.size h2.size, fun k hk => (h2.block k (by have := h.hb.size; omega) (by have := h.hm.1; omega)).trans (h.hb.block k hk)⟩
  have hR1 : TabR w1 mb max' A' (fun q => (w0.heap.size ≤ q ∧ ¬ S q) ∧ ¬ S' q) := hR.imp (fun q hq hg => ⟨hg, fun hs => by rcases hS q hs with h3 | h3; exact hg.2 h3; omega⟩)
  have hR2 := hR1.kept (h1.block mb hmb h.hm.2) (fun q hq hg => h1.block q hq hg.1.2)
  exact ⟨hD, hR2.imp (fun q _ hg => ⟨hg.1.1, hg.2⟩), hF, fun k hk => by rcases hS k hk with h3 | h3; exact h.hS k h3; have := hb1.size; omega, ⟨h.hm.1, hnm⟩, Below.off hb1 h1 hb1.size h.hS⟩
set_option maxRecDepth 100000 in
set_option maxHeartbeats 8000000 in
theorem tplays_ok {D : TabD} (O : TabOps D) (max : Int) (a : Option Addr) (len cap : Nat) (L : List (ByteArray × ByteArray)) (b : Option Addr) (n2 c2 : Nat) (RA : Nat → Option Addr) (RL RC : Nat → Nat) (RZ : Nat → List Int)
    (w : World) (hal : Alw w) (hg : Laid w) (hA : FArg w a len cap L) (hL : ∀ t, (L.getD t fnone).1.size + (L.getD t fnone).2.size ≤ 1152921504606846976)
    (hI : IArg w b n2 c2 RA RL RC RZ) (hn2 : n2 ≤ 4611686018427387904) :
    Calls Tryd.prog 3 #[.int .i64 max, .slice a len cap, .slice b n2 c2] w fun e w' => e = .returned (.bool true) ∧ Below w.heap.size w w' := by
  have HA : Hid (∀ wx, Below w.heap.size w wx → FArg wx a len cap L) := fun wx hb => hA.below hb
  have HI : Hid (∀ wx, Below w.heap.size w wx → IArg wx b n2 c2 RA RL RC RZ) := fun wx hb => hI.below hb
  have HL : Hid (∀ t, (L.getD t fnone).1.size + (L.getD t fnone).2.size ≤ 1152921504606846976) := hL
  have HG : Hid (∀ wx, Below w.heap.size w wx → Laid wx) := fun wx hb => hg.below hb
  have HAL : Hid (Alw w) := hal
  clear hA hI hL hg hal
  go_enter Tryd.func3, Tryd.ntmps3
  go_wp2_with fail
  refine (O.new max w HAL.out).mono ?_
  rintro e w1 ⟨hb1, ⟨m0, m1, tb, S, rfl, hD, hS⟩ | ⟨hm, v, rfl⟩⟩
  · unfold tval
    go_wp2_with fail
    refine (error_nil _ _).mono ?_
    rintro e w2 ⟨rfl, rfl⟩
    go_wp2_with fail
    have hs1 := hb1.size
    have hb0 : Both D w (w1.alloc (.cells #[.slice none 0 0, .int .i64 max] 32)) tb w1.heap.size max [] S := by
      refine ⟨O.keeps.below hD ((Below.refl _ w1).alloc (Nat.le_refl _) _), ⟨by simp, ⟨?_, ?_⟩, .slice none 0 0, by simp, Or.inl ⟨rfl, rfl⟩⟩, Fit.nil m0 m1, hS, ⟨hs1, fun hs => by have := O.keeps.lt hD _ hs; omega⟩, hb1.alloc hs1 _⟩
      · exact frozen_new _ _ _ _
      · exact frozen_new _ _ _ _
    generalize w1.alloc (.cells #[.slice none 0 0, .int .i64 max] 32) = w2 at *
    generalize w1.heap.size = mb at *
    clear hD hS hb1 hs1 m0 m1 w1
    go_loopw [12] (fun i wr => ∃ (k : Nat) (mx : Int) (A : List (ByteArray × ByteArray)) (S : Nat → Prop), i = .int .i64 k ∧ k ≤ n2 ∧ Both D w wr tb mb mx A S) (fun i _ => n2 - (intOf i).toNat)
    case atStart => exact ⟨0, max, [], S, rfl, by omega, hb0⟩
    case round =>
      clear hb0
      obtain ⟨k, mx, A, S, rfl, hk, HB⟩ := hrel
      by_cases hlt : k < n2 ∧ k < 60
      · obtain ⟨hl1, hl2⟩ := hlt
        have d1 : (k : Int) < (n2 : Int) := by omega
        have d2 : (k : Int) < 60 := by omega
        rcases HI.out wr HB.hb with hx | ⟨g, off, rfl, hr⟩
        · omega
        obtain ⟨r1, r2, r3⟩ := hr.hrow k hl1
        have rc := hr.hcell k hl1
        have HRC := hide rc
        have hcap2 := hr.hcap
        have hmax2 := hr.hmax
        unfold maxLen at hmax2 r3
        clear hr rc
        generalize RA k = ra at *
        generalize RL k = rl at *
        generalize RC k = rc at *
        generalize RZ k = rz at *
        have hg1 : g < wr.heap.size := lt_of_cell r1
        go_upto_block 2 with fail
        go_cut [14] (fun _ wx => ∃ x y : Int, wx = wr.alloc (.cells #[.int .i64 x, .int .i64 y] 33))
        case first =>
          as_aux_lemma =>
            go_wp2_with fail
            go_loopw [14] (fun i wq => ∃ (j : Nat) (x y : Int), i = .int .i64 j ∧ j ≤ 2 ∧ wq = wr.alloc (.cells #[.int .i64 x, .int .i64 y] 33)) (fun i _ => 2 - (intOf i).toNat)
            case atStart => exact ⟨0, 0, 0, rfl, by omega, rfl⟩
            case round =>
              obtain ⟨j, x, y, rfl, hj, rfl⟩ := hrel
              by_cases hjl : j < rl ∧ j < 2
              · obtain ⟨hj1, hj2⟩ := hjl
                obtain ⟨g', off', rfl, rz1⟩ := HRC.out j hj1
                have hg2 : g' < wr.heap.size := lt_of_cell rz1
                have e1 : (j : Int) < (rl : Int) := by omega
                have e2 : (j : Int) < 2 := by omega
                generalize rz.getD j 0 = z at *
                obtain rfl | rfl : j = 0 ∨ j = 1 := by omega
                · rw [Nat.add_zero] at rz1
                  go_wp2
                  go_roundw
                  case rel => exact ⟨1, z, y, rfl, by omega, rfl⟩
                  case measure => simp [intOf]
                · go_wp2
                  go_roundw
                  case rel => exact ⟨2, x, z, rfl, by omega, rfl⟩
                  case measure => simp [intOf]
              · have hcase : (rl : Int) ≤ (j : Int) ∨ ((j : Int) < (rl : Int) ∧ 2 ≤ (j : Int)) := by omega
                clear hjl
                rcases hcase with e1 | ⟨e1, e2⟩
                all_goals
                  go_wp2_with fail
                  go_meet
                  exact ⟨x, y, rfl⟩
        case rest =>
          obtain ⟨x, y, rfl⟩ := hcut
          clear HRC r1 r2 r3 hg1 hcap2 hmax2
          go_upto_region 18 with fail
          obtain ⟨q, hq⟩ : ∃ q : Bool, decide (0 ≤ y ∧ y < (len : Int)) = q := ⟨_, rfl⟩
          go_cut [92] (fun c wx => c = .bool q ∧ (wr.alloc (.cells #[.int .i64 x, .int .i64 y] 33)).alloc (.cells #[.string ⟨#[]⟩, .string ⟨#[]⟩] 36) = wx)
          case first =>
            as_aux_lemma =>
              by_cases y0 : 0 ≤ y
              · by_cases y1 : y < (len : Int)
                · have e : q = true := by rw [← hq]; simp; exact ⟨y0, y1⟩
                  subst e
                  go_wp2
                  go_meet
                  exact ⟨rfl, rfl⟩
                · have e : q = false := by rw [← hq]; simp; omega
                  subst e
                  have y1' : (len : Int) ≤ y := by omega
                  go_wp2
                  go_meet
                  exact ⟨rfl, rfl⟩
              · have e : q = false := by rw [← hq]; simp; omega
                subst e
                have y0' : y < 0 := by omega
                go_wp2
                go_meet
                exact ⟨rfl, rfl⟩
          case rest =>
            obtain ⟨rfl, rfl⟩ := hcut
            go_upto_if 92 with fail
            go_cut [] (fun wx => ∃ n v : ByteArray, n.size + v.size ≤ 1152921504606846976 ∧ (wr.alloc (.cells #[.int .i64 x, .int .i64 y] 33)).alloc (.cells #[.string n, .string v] 36) = wx)
            case first =>
              as_aux_lemma =>
                cases q with
                | true =>
                  have hy : 0 ≤ y ∧ y < (len : Int) := of_decide_eq_true hq
                  obtain ⟨yn, rfl⟩ := Int.eq_ofNat_of_zero_le hy.1
                  have hyl : yn < len := by omega
                  have hy2 := hy.2
                  rcases HA.out wr HB.hb with ⟨hx, _⟩ | ⟨ga, oa, rfl, hr⟩
                  · omega
                  have t1 := hr.hname yn hyl
                  have t2 := hr.hvalue yn hyl
                  have hga := lt_of_cell t1
                  have hcapa := hr.hcap
                  have hmaxa := hr.hmax
                  have hnv := HL.out yn
                  unfold maxLen at hmaxa
                  generalize L.getD yn fnone = f at *
                  obtain ⟨n, v⟩ := f
                  clear hr hq hy
                  go_wp2
                  go_meet
                  exact ⟨n, v, hnv, rfl⟩
                | false =>
                  go_wp2
                  go_meet
                  exact ⟨_, _, by decide, rfl⟩
            case rest =>
              obtain ⟨n, v, hnv, rfl⟩ := hcut
              clear hq
              have K := O.keeps
              have hltw := fun q (hs : S q) => K.lt HB.hD q hs
              have hmbw : mb < wr.heap.size := blk_lt HB.hR.hmax
              have HBz := HB.below K (((Below.refl _ wr).alloc (Nat.le_refl _) (.cells #[.int .i64 x, .int .i64 y] 33)).alloc (by simp) (.cells #[.string n, .string v] 36))
              have v0 : ((wr.alloc (.cells #[.int .i64 x, .int .i64 y] 33)).alloc (.cells #[.string n, .string v] 36)).cell? ⟨wr.heap.size, 0, none⟩ = some (.int .i64 x) := by simp
              have v1 : ((wr.alloc (.cells #[.int .i64 x, .int .i64 y] 33)).alloc (.cells #[.string n, .string v] 36)).cell? ⟨wr.heap.size, 1, none⟩ = some (.int .i64 y) := by simp
              have f0 : ((wr.alloc (.cells #[.int .i64 x, .int .i64 y] 33)).alloc (.cells #[.string n, .string v] 36)).cell? ⟨wr.heap.size + 1, 0, none⟩ = some (.string n) := by simp
              have f1 : ((wr.alloc (.cells #[.int .i64 x, .int .i64 y] 33)).alloc (.cells #[.string n, .string v] 36)).cell? ⟨wr.heap.size + 1, 1, none⟩ = some (.string v) := by simp
              have hzs : ((wr.alloc (.cells #[.int .i64 x, .int .i64 y] 33)).alloc (.cells #[.string n, .string v] 36)).heap.size = wr.heap.size + 2 := by simp
              have nS1 : ¬ S wr.heap.size := fun hs => by have := hltw _ hs; omega
              have nS2 : ¬ S (wr.heap.size + 1) := fun hs => by have := hltw _ hs; omega
              have nm1 : ¬ mb = wr.heap.size := by omega
              have nm2 : ¬ mb = wr.heap.size + 1 := by omega
              generalize (wr.alloc (.cells #[.int .i64 x, .int .i64 y] 33)).alloc (.cells #[.string n, .string v] 36) = wz at *
              obtain ⟨fb, hfb⟩ : ∃ fb, wr.heap.size + 1 = fb := ⟨_, rfl⟩
              obtain ⟨vb, hvb⟩ : ∃ vb, wr.heap.size = vb := ⟨_, rfl⟩
              rw [hfb] at f0 f1 nS2 nm2 ⊢
              rw [hvb] at v0 v1 nS1 nm1 ⊢
              have hvz : vb < wz.heap.size := by omega
              have hfz : fb < wz.heap.size := by omega
              clear HB hltw hmbw hfb hvb hzs
              have HV : Hid (∀ w' : World, (∀ k, k < wz.heap.size → ¬ S k → k ≠ mb → w'.heap[k]? = wz.heap[k]?) → w'.cell? ⟨vb, 1, none⟩ = some (.int .i64 y) ∧ w'.cell? ⟨fb, 0, none⟩ = some (.string n) ∧ w'.cell? ⟨fb, 1, none⟩ = some (.string v)) := by
                intro w' h
                have h1 := h vb hvz nS1 (fun e => nm1 e.symm)
                have h2 := h fb hfz nS2 (fun e => nm2 e.symm)
                exact ⟨(World.cell?_of_block (w := wz) (a := ⟨vb, 1, none⟩) h1).trans v1, (World.cell?_of_block (w := wz) (a := ⟨fb, 0, none⟩) h2).trans f0, (World.cell?_of_block (w := wz) (a := ⟨fb, 1, none⟩) h2).trans f1⟩
              go_upto_block 4 with fail
              go_cut [9, 10, 16, 17, 100, 113] (fun _ _ _ _ _ _ wx => ∃ (mx' : Int) (A' : List (ByteArray × ByteArray)) (S' : Nat → Prop), Both D w wx tb mb mx' A' S' ∧ wx.cell? ⟨vb, 1, none⟩ = some (.int .i64 y) ∧ wx.cell? ⟨fb, 0, none⟩ = some (.string n) ∧ wx.cell? ⟨fb, 1, none⟩ = some (.string v))
              case first =>
                as_aux_lemma =>
                  have hx : (x = 0 ∨ x = 1 ∨ x = 2) ∨ x = 3 ∨ ((x == 0) = false ∧ (x == 1) = false ∧ (x == 2) = false ∧ (x == 3) = false) := by
                    simp only [beq_eq_false_iff_ne, ne_eq]; omega
                  rcases hx with hx | rfl | ⟨x0, x1, x2, x3⟩
                  · have hadd := O.add tb mx A S n v wz HBz.hD HBz.hF hnv
                    unfold tval at hadd
                    rcases hx with rfl | rfl | rfl
                    all_goals
                      go_wp2_with fail
                      refine hadd.mono ?_
                      rintro e w3 ⟨rfl, hoff, S', hD', hS'⟩
                      obtain ⟨g1, g2, g3⟩ := HV.out w3 (fun q hq hs _ => hoff.block q hq hs)
                      have hR3 := HBz.off hoff
                      go_wp2_with fail
                      refine (radd_any mb mx A n v w3 hR3 HBz.hF hnv).mono ?_
                      rintro e w4 ⟨rfl, hbut, hR4⟩
                      have hBB := HBz.both K hoff hD' hS' hbut hR4 (HBz.hF.add (n, v))
                      obtain ⟨g4, g5, g6⟩ := HV.out w4 (fun q hq hs hm => (hbut.block q (by have := hoff.size; omega) hm).trans (hoff.block q hq hs))
                      generalize (addL A (n, v) mx).1 = ok at *
                      generalize (addL A (n, v) mx).2 = B at *
                      clear g1 g2 g3
                      cases ok
                      all_goals
                        go_wp2
                        go_meet
                        exact ⟨mx, B, S', hBB, g4, g5, g6⟩
                  · have hcase : (0 ≤ y ∧ y ≤ 4096) ∨ y < 0 ∨ (0 ≤ y ∧ 4096 < y) := by omega
                    rcases hcase with ⟨y0, y1⟩ | hinv
                    · have k1 := HBz.hR.hmax
                      have k2 := HBz.hR.hfz.2
                      have k3 : (wz.setCell ⟨mb, 1, none⟩ (.int .i64 y)).cell? ⟨vb, 1, none⟩ = some (.int .i64 y) := by rw [World.cell?_setCell_far wz ⟨mb, 1, none⟩ ⟨vb, 1, none⟩ _ nm1]; exact v1
                      have hR3 := HBz.hR.setMax y
                      have hw3 : weight A ≤ 1152921504606846976 := by have h1 := HBz.hF.h1; have h2 := HBz.hF.h2; omega
                      have hshr := rshrink_any mb y y A _ hR3 hw3
                      go_wp2_with fail
                      refine hshr.mono ?_
                      rintro e w4 ⟨rfl, hbut0, hR4⟩
                      have hbut : But mb wz w4 := ((But.of_below (Below.refl _ _)).setCell 1 _).trans hbut0
                      have hD4 := K.frame HBz.hD hbut.size (fun q hq => hbut.block q (K.lt HBz.hD q hq) (fun e => HBz.hm.2 (e ▸ hq))) (hbut.block _ (K.alw HBz.hD).pos ((K.alw HBz.hD).ne HBz.hR.hmax))
                      obtain ⟨g1, g2, g3⟩ := HV.out w4 (fun q hq _ hm => hbut.block q hq hm)
                      have hres := O.resize tb mx A S y w4 hD4 HBz.hF
                      unfold tval at hres
                      clear hshr hbut0 k1 k2 k3 hR3
                      go_wp2_with fail
                      refine hres.mono ?_
                      rintro e w5 ⟨hoff, S', hS', ⟨_, _, rfl, hD'⟩ | ⟨hn, _⟩⟩
                      · obtain ⟨g4, g5, g6⟩ := HV.out w5 (fun q hq hs hm => (hoff.block q (by have := hbut.size; omega) hs).trans (hbut.block q hq hm))
                        have hBB := HBz.turn hbut hR4 hoff hD' hS' (Fit.shrink y0 y1)
                        clear g1 g2 g3
                        go_wp2_with fail
                        refine (error_nil _ _).mono ?_
                        rintro e w6 ⟨rfl, rfl⟩
                        go_wp2
                        go_meet
                        exact ⟨y, _, S', hBB, g4, g5, g6⟩
                      · exact absurd ⟨y0, y1⟩ hn
                    · have hres := O.resize tb mx A S y wz HBz.hD HBz.hF
                      unfold tval at hres
                      rcases hinv with y0 | ⟨y0, y1⟩
                      all_goals
                        go_wp2_with fail
                        refine hres.mono ?_
                        rintro e w5 ⟨hoff, S', hS', ⟨hn, hn2, _⟩ | ⟨_, rfl, hD'⟩⟩
                        · omega
                        · have hBB := HBz.turn (But.of_below (Below.refl _ _)) HBz.hR hoff hD' hS' HBz.hF
                          obtain ⟨g4, g5, g6⟩ := HV.out w5 (fun q hq hs _ => hoff.block q hq hs)
                          go_wp2_with fail
                          refine (error_hit 1 1 _ (HG.out _ hBB.hb)).mono ?_
                          rintro e w6 ⟨rfl, hb6⟩
                          have hl5 := lt_of_cell g4
                          have hl6 := lt_of_cell g5
                          have hBC := hBB.below K hb6
                          have g7 := (hb6.cell (p := ⟨vb, 1, none⟩) hl5).trans g4
                          have g8 := (hb6.cell (p := ⟨fb, 0, none⟩) hl6).trans g5
                          have g9 := (hb6.cell (p := ⟨fb, 1, none⟩) hl6).trans g6
                          clear g4 g5 g6
                          go_wp2
                          go_meet
                          exact ⟨mx, A, S', hBC, g7, g8, g9⟩
                  · go_wp2
                    go_meet
                    exact ⟨mx, A, S, HBz, v1, f0, f1⟩
              case rest =>
                obtain ⟨mx', A', S', HBc, q1, q2, q3⟩ := hcut
                clear HV HBz v0 v1 f0 f1 nS1 nS2 nm1 nm2 hvz hfz
                have hAl := HBc.hF.len
                have hwA : weight A' ≤ 1152921504606846976 := by have h1 := HBc.hF.h1; have h2 := HBc.hF.h2; omega
                have hfin := O.find tb mx' A' S' n v wc HBc.hD HBc.hF
                unfold tval at hfin
                go_wp2_with fail
                refine hfin.mono ?_
                rintro e w1 ⟨rfl, hb1⟩
                have HB1 := HBc.below K hb1
                have t1 := (hb1.cell (p := ⟨vb, 1, none⟩) (lt_of_cell q1)).trans q1
                have t2 := (hb1.cell (p := ⟨fb, 0, none⟩) (lt_of_cell q2)).trans q2
                have t3 := (hb1.cell (p := ⟨fb, 1, none⟩) (lt_of_cell q2)).trans q3
                clear hfin q1 q2 q3 HBc hb1
                go_wp2_with fail
                refine (rfind_any mb mx' A' n v w1 HB1.hR (by omega)).mono ?_
                rintro e w2 ⟨rfl, hb2⟩
                have HB2 := HB1.below K hb2
                have s1 := (hb2.cell (p := ⟨vb, 1, none⟩) (lt_of_cell t1)).trans t1
                clear t1 t2 t3 HB1 hb2
                go_wp2_with fail
                refine (rall_any mb mx' A' w2 HB2.hR (by omega)).mono ?_
                rintro e w3 ⟨gg, cc, rfl, hrow, hb3⟩
                have HB3 := HB2.below K hb3
                have r1 := (hb3.cell (p := ⟨vb, 1, none⟩) (lt_of_cell s1)).trans s1
                clear s1 HB2 hb3
                obtain ⟨vA, hvA, _⟩ := HB3.hR.hadd
                have hvM := HB3.hR.hmax
                have hmb3 := blk_lt hvM
                have HK : Hid (∀ w', Below w3.heap.size w3 w' → w'.cell? ⟨mb, 0, none⟩ = some vA ∧ w'.cell? ⟨mb, 1, none⟩ = some (.int .i64 mx')) := fun w' h => ⟨(h.cell (p := ⟨mb, 0, none⟩) hmb3).trans hvA, (h.cell (p := ⟨mb, 1, none⟩) hmb3).trans hvM⟩
                have hlen := fun W (h : Below w3.heap.size w3 W) => O.len tb mx' A' S' W (K.below HB3.hD h) HB3.hF
                have hsize := fun W (h : Below w3.heap.size w3 W) => O.size tb mx' A' S' W (K.below HB3.hD h) HB3.hF
                have hmaxc := fun W (h : Below w3.heap.size w3 W) => O.max tb mx' A' S' W (K.below HB3.hD h) HB3.hF
                have hwei := fun W (h : Below w3.heap.size w3 W) => rweight_tab mb mx' A' vA w3 W HB3.hR hvA h hwA
                unfold tval at hlen hsize hmaxc
                have hbd : Below w3.heap.size w3 w3.drew := (Below.refl _ _).drew
                generalize fnd (isF n v) (alwaysL ++ A') 0 = fx at *
                generalize fnd (isN n) (alwaysL ++ A') 0 = fy at *
                generalize weight A' = wA at *
                obtain ⟨nA, hnA⟩ : ∃ nA, 12 + A'.length = nA := ⟨_, rfl⟩
                rw [hnA] at hrow hlen ⊢
                go_upto_region 40 with fail
                go_cut [187] (fun c wx => c = .bool false ∧ Below w3.heap.size w3 wx)
                case first =>
                  as_aux_lemma =>
                    have z1 := hvA
                    have z2 := hvM
                    go_region_held3 (fun w' => w'.cell? ⟨mb, 0, none⟩ = some vA ∧ w'.cell? ⟨mb, 1, none⟩ = some (.int .i64 mx'))
                      (first | go_keep | exact HK.out _ hbd | exact HK.out _ hbl2 | exact HK.out _ hbs2 | exact HK.out _ hbk2 | exact HK.out _ hbm2)
                      (first
                        | (go_at_call 16; refine (hlen _ hbd).mono ?_; rintro e wl ⟨rfl, hbl⟩; have hbl2 : Below w3.heap.size w3 wl := hbd.trans (hbl.mono hbd.size))
                        | (go_at_call 17; refine (hsize _ (by first | exact hbk2 | exact hbl2)).mono ?_; rintro e ws ⟨rfl, hbs⟩; have hbs2 : Below w3.heap.size w3 ws := by first | exact hbk2.trans (hbs.mono hbk2.size) | exact hbl2.trans (hbs.mono hbl2.size))
                        | (go_at_call 18; refine (hwei _ (by first | exact hbs2 | exact hbl2)).mono ?_; rintro e wk ⟨rfl, hbk⟩; have hbk2 : Below w3.heap.size w3 wk := by first | exact hbs2.trans (hbk.mono hbs2.size) | exact hbl2.trans (hbk.mono hbl2.size))
                        | (go_at_call 19; refine (hmaxc _ (by first | exact hbk2 | exact hbs2)).mono ?_; rintro e wm ⟨rfl, hbm⟩; have hbm2 : Below w3.heap.size w3 wm := by first | exact hbk2.trans (hbm.mono hbk2.size) | exact hbs2.trans (hbm.mono hbs2.size)))
                    all_goals
                      go_wp2
                      go_meet
                      first | exact ⟨rfl, hbm2⟩ | exact ⟨by simp, hbm2⟩
                case rest =>
                  obtain ⟨rfl, hb4⟩ := hcut
                  clear hlen hsize hmaxc hwei HK hvA hvM hbd
                  have HB4 := HB3.below K hb4
                  have hrow4 := hrow.below hb4
                  have z1 := (hb4.cell (p := ⟨vb, 1, none⟩) (lt_of_cell r1)).trans r1
                  have hgg := hrow4.hname 0 (by omega)
                  have hggl := lt_of_cell hgg
                  have hvbl := lt_of_cell z1
                  have HR4 := hide hrow4
                  have hccl := hrow4.hcap
                  have hccm := hrow4.hmax
                  unfold maxLen at hccm
                  have hLl : (alwaysL ++ A').length = nA := by rw [List.length_append, always_len]; exact hnA
                  have hget := O.get tb mx' A' S' y wc HB4.hD HB4.hF
                  unfold tval at hget
                  have heq : ∀ (a b : ByteArray) (w : World), (binOp .neq 36 (.agg #[.string a, .string b]) (.agg #[.string a, .string b])).run Tryd.prog w = .ok (.bool false) w := fun a b w => by rw [run_neqF]; simp
                  have hgd := eqGuardF
                  clear hrow hrow4 hb4 HB3 r1 hgg hmb3
                  go_wp2_with fail
                  refine hget.mono ?_
                  rintro e w5 ⟨u, rfl, hu, hb5⟩
                  have HB5 := HB4.below K hb5
                  have hrow5 := HR4.out.below hb5
                  have y1 := (hb5.cell (p := ⟨vb, 1, none⟩) hvbl).trans z1
                  have hvb5 := lt_of_cell y1
                  have hgg5 : gg < w5.heap.size := by have := hb5.size; omega
                  rcases hu with ⟨hy1, hy2, rfl⟩ | ⟨hn, rfl⟩
                  · obtain ⟨yn, rfl⟩ : ∃ yn : Nat, y = (yn : Int) + 1 := ⟨(y - 1).toNat, by omega⟩
                    have hyn : yn < nA := by rw [hLl] at hy2; omega
                    have e1 : (((yn : Int) + 1) - 1).toNat = yn := by omega
                    rw [e1]
                    have p1 := hrow5.hname yn hyn
                    have p2 := hrow5.hvalue yn hyn
                    rw [Nat.zero_add] at p1 p2
                    generalize (alwaysL ++ A').getD yn fnone = f at *
                    obtain ⟨n', v'⟩ := f
                    unfold fval
                    have d3 : (yn : Int) + 1 ≤ (nA : Int) := by omega
                    have d4 : (yn : Int) < (nA : Int) := by omega
                    clear hrow5 HR4 hget z1 hy2 e1
                    go_wp2_with fail
                    refine (error_nil _ _).mono ?_
                    rintro e w6 ⟨rfl, rfl⟩
                    have HB6 := HB5.below K (((Below.refl _ w5).alloc (Nat.le_refl _) (.cells #[.string n', .string v'] 36)).alloc (by simp) (.cells #[.string n', .string v'] 36))
                    go_wp2
                    go_roundw
                    case rel => exact ⟨k + 1, mx', A', S', by go_num, by omega, HB6⟩
                    case measure => simp [intOf]; omega
                  · have hcase : y < 1 ∨ (1 ≤ y ∧ (nA : Int) < y) := by rw [hLl] at hn; omega
                    have HB6 := HB5.below K (((Below.refl _ w5).alloc (Nat.le_refl _) (.cells #[.string ⟨#[]⟩, .string ⟨#[]⟩] 36)).alloc (by simp) (.cells #[.string ⟨#[]⟩, .string ⟨#[]⟩] 36))
                    unfold fval fnone
                    clear hrow5 HR4 hget z1 hn
                    rcases hcase with d3 | ⟨d3, d4⟩
                    all_goals
                      go_wp2_with fail
                      refine (error_hit 5 5 _ (HG.out _ HB6.hb)).mono ?_
                      rintro e w6 ⟨rfl, hb6⟩
                      have HB7 := HB6.below K hb6
                      have x1 : w6.cell? ⟨w5.heap.size, 0, none⟩ = some (.string ⟨#[]⟩) := by rw [hb6.cell (p := ⟨w5.heap.size, 0, none⟩) (by simp; omega)]; simp
                      have x2 : w6.cell? ⟨w5.heap.size, 1, none⟩ = some (.string ⟨#[]⟩) := by rw [hb6.cell (p := ⟨w5.heap.size, 1, none⟩) (by simp; omega)]; simp
                      have x3 : w6.cell? ⟨w5.heap.size + 1, 0, none⟩ = some (.string ⟨#[]⟩) := by rw [hb6.cell (p := ⟨w5.heap.size + 1, 0, none⟩) (by simp)]; simp
                      have x4 : w6.cell? ⟨w5.heap.size + 1, 1, none⟩ = some (.string ⟨#[]⟩) := by rw [hb6.cell (p := ⟨w5.heap.size + 1, 1, none⟩) (by simp)]; simp
                      go_wp2
                      go_roundw
                      case rel => exact ⟨k + 1, mx', A', S', by go_num, by omega, HB7⟩
                      case measure => simp [intOf]; omega
      · have hcase : (n2 : Int) ≤ (k : Int) ∨ ((k : Int) < (n2 : Int) ∧ 60 ≤ (k : Int)) := by omega
        clear hlt
        have hB := HB.hb
        rcases hcase with d1 | ⟨d1, d2⟩
        all_goals
          go_wp2
          go_ret
          exact ⟨rfl, hB⟩
  · have hcase : max < 0 ∨ (0 ≤ max ∧ 4096 < max) := by omega
    rcases hcase with d1 | ⟨d1, d2⟩
    all_goals
      go_wp2_with fail
      refine (error_hit 1 1 _ (HG.out _ hb1)).mono ?_
      rintro e w2 ⟨rfl, hb2⟩
      have hB := hb1.trans (hb2.mono hb1.size)
      go_wp2
      go_ret
      exact ⟨rfl, hB⟩
end Go.Proofs.YtkjfhgoddhigmabDoor
