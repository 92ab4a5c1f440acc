/-
  WHAT WAS ANSWERED: the developers' varied. No claim by itself.
-/
import Derived.Test.YtibipnipeaeonaaGreatDoorZy3X
import Derived.Test.YtibipnipeaeonaaGreatDoorMZ
namespace Go.Proofs.YtibipnipeaeonaaGreatDoor
open Go Go.RowKit Go.Maps Go.Shelf
set_option maxRecDepth 100000
theorem fown_below {w w' : World} {base : Nat} {v : Value} {L : List FB} (h : FOwn w base v L) (hb : Below w.heap.size w w') : FOwn w' base v L := h.kept (row := none) ⟨hb.os, hb.tape, hb.output, hb.size, fun k hk _ => hb.block k hk⟩ (Classical.em _)
theorem fown_sw {w : World} {base g cap : Nat} {L : List FB} (h : FOwn w base (.slice (some ⟨g, 0, none⟩) L.length cap) L) : SW w g 0 L.length cap L w := by
  have h2 := h.2
  rcases h2 with ⟨e, _⟩ | ⟨g', cap', cur, e, hb, hg, hn, hc, hs, ht⟩
  · cases e
  · simp only [Value.slice.injEq, Option.some.injEq, Addr.mk.injEq, and_true, true_and] at e
    obtain ⟨rfl, rfl⟩ := e
    refine ⟨?_, ⟨cur, hg⟩, Tn.refl _ _⟩
    rcases (nfrow_of h).2 with ⟨h0, hL⟩ | ⟨g', off', e, hr⟩
    · rw [hL]
      exact ⟨rfl, Nat.zero_le _, hc, fun t ht => by simp at ht, fun t ht => by simp at ht⟩
    · cases e
      exact hr
theorem zins_nil (w : World) : Calls Tryz.prog 81 #[.slice none 0 0, .int .i64 0, .int .i64 0, .func (.func 51) #[] #[]] w fun e w' => (∃ v, e = .returned v) ∧ w = w' := by
  go_enter Tryz.func81, Tryz.ntmps81
  go_wp2_with fail
  refine wp_loop_rounds 1 ?_
  rw [rounds_succ]
  go_wp2
  go_end0
  exact ⟨⟨_, rfl⟩, rfl⟩
theorem zstab_nil (w : World) : Calls Tryz.prog 66 #[.slice none 0 0, .int .i64 0, .func (.func 51) #[] #[]] w fun e w' => (∃ v, e = .returned v) ∧ w = w' := by
  go_enter Tryz.func66, Tryz.ntmps66
  go_wp2_with fail
  refine wp_loop_rounds 1 ?_
  rw [rounds_succ]
  go_wp2_with fail
  refine (zins_nil w).mono ?_
  rintro _ w' ⟨⟨v, rfl⟩, rfl⟩
  go_wp2_with fail
  refine wp_loop_rounds 1 ?_
  rw [rounds_succ]
  go_wp2
  go_end0
  exact ⟨⟨_, rfl⟩, rfl⟩
theorem zsort_nil (w : World) : Calls Tryz.prog 50 #[.slice none 0 0, .func (.func 51) #[] #[]] w fun e w' => (∃ v, e = .returned v) ∧ w = w' := by
  go_enter Tryz.func50, Tryz.ntmps50
  go_wp2_with fail
  refine (zstab_nil w).mono ?_
  rintro _ w' ⟨⟨v, rfl⟩, rfl⟩
  go_wp2
  go_end0
  exact ⟨⟨_, rfl⟩, rfl⟩
/-- A row of fields that is new since w0. -/
def FNew (w0 w : World) (a : Option Addr) (n c : Nat) (L : List FB) : Prop := n = L.length ∧ FArg w a n c L ∧ ∀ p, a = some p → w0.heap.size ≤ p.block
theorem zsort_own (base : Nat) (v : Value) (L : List FB) (w : World) (h : FOwn w base v L) (hl : L.length ≤ 4398046511104) (hb : base ≤ w.heap.size) :
    Calls Tryz.prog 50 #[v, .func (.func 51) #[] #[]] w fun e w' => (∃ u, e = .returned u) ∧ (∃ a c E, v = .slice a E.length c ∧ FArg w' a E.length c E ∧ (∀ p, a = some p → base ≤ p.block) ∧ Srt nmK E ∧ Sby nmK L E ∧ E.length = L.length) ∧ Below base w w' := by
  have h2 := h.2
  rcases h2 with ⟨e, h0⟩ | ⟨g, cap, cur, e, hbg, hg, _⟩
  · subst e
    have hL : L = [] := List.length_eq_zero_iff.1 h0
    subst hL
    refine (zsort_nil w).mono ?_
    rintro _ w' ⟨hv, rfl⟩
    exact ⟨hv, ⟨none, 0, [], rfl, Or.inl ⟨rfl, rfl⟩, (fun p e => by cases e), List.Pairwise.nil, Sby.refl _, rfl⟩, Below.refl _ _⟩
  · subst e
    have hsw := fown_sw h
    refine (zsort_any w g 0 L.length cap L w hsw hl).mono ?_
    rintro _ w' ⟨hv, E, hE, h1, h2⟩
    have hEl := hE.row.hlen
    refine ⟨hv, ⟨some ⟨g, 0, none⟩, cap, E, by rw [hEl], Or.inr ⟨g, 0, rfl, by rw [hEl]; exact hE.row⟩, (fun p e => by cases e; exact hbg), h1, h2, hEl⟩, ?_⟩
    exact Tn.below (Below.refl _ w) hE.tn hb (fun i hi => by have : i = g := hi; omega)
/-- Whether a reply's vary names a field. -/
def inVary (nm : List (List Int)) (f : FB) : Bool := decide (0 < nm.count (nmK f))
/-- What varied tells: the fields that a vary names, in the order of their names. -/
def VarS (La Lr V : List FB) : Prop := Srt nmK V ∧ Sby nmK (Lr.filter (inVary (namesL (fdsOf La)))) V
theorem zbelow_grown {B : Nat} {w0 w w' : World} {r : Option Nat} (h : Below B w0 w) (hg : w.grownBy w' r) (hB : B ≤ w.heap.size) (hr : ∀ k, r = some k → B ≤ k) : Below B w0 w' :=
  ⟨hg.os.trans h.os, hg.tape.trans h.tape, hg.output.trans h.output, Nat.le_trans h.size hg.size, fun k hk => (hg.block k (by omega) (fun e => by have := hr k e.symm; omega)).trans (h.block k hk)⟩
set_option maxHeartbeats 4000000 in
theorem zvaried_any (code : Int) (fa : Option Addr) (fl fc : Nat) (bp : Option Addr) (bn bc : Nat) (La : List FB) (m p h : ByteArray) (ra : Option Addr) (rl rc : Nat) (qp : Option Addr) (qn qc : Nat) (Lr : List FB) (w : World)
    (hA : FArg w fa fl fc La) (hl : fl ≤ 4398046511104) (hs : ∀ t, (La.getD t fnone).1.size ≤ 140737488351232) (hm : mxP w) (hv : (fstV (fdsOf La) varyN).length < 4294967281)
    (hR : FArg w ra rl rc Lr) (hrl : rl ≤ 4398046511103) (hrs : ∀ t, (Lr.getD t fnone).1.size ≤ 140737488351232) (hrlen : Lr.length = rl) :
    Calls Tryz.prog 36 #[.agg #[.int .i64 code, .slice fa fl fc, .slice bp bn bc], .agg #[.string m, .string p, .string h, .slice ra rl rc, .slice qp qn qc]] w fun e w' =>
      (∃ a c V, e = .returned (.slice a V.length c) ∧ FArg w' a V.length c V ∧ (∀ p, a = some p → w.heap.size ≤ p.block) ∧ VarS La Lr V ∧ V.length ≤ rl) ∧ Below w.heap.size w w' := by
  obtain ⟨W1, hW1⟩ : ∃ x, (w.alloc (.cells #[.int .i64 code, .slice fa fl fc, .slice bp bn bc] 38)).alloc (.cells #[.string m, .string p, .string h, .slice ra rl rc, .slice qp qn qc] 36) = x := ⟨_, rfl⟩
  have hB1 : Below w.heap.size w W1 := by rw [← hW1]; exact ((Below.refl _ w).alloc (Nat.le_refl _) _).alloc (by simp) _
  have hs1 : W1.heap.size = w.heap.size + 2 := by rw [← hW1]; simp
  have HNM := vl (znames_any code fa fl fc (.slice bp bn bc) La W1 (hA.below hB1) hl hs (hm.below hB1) hv ⟨_, _, _, rfl⟩)
  have k3 : W1.heap[w.heap.size + 1]? = some (.cells #[.string m, .string p, .string h, .slice ra rl rc, .slice qp qn qc] 36 (0, 0)) := by
    rw [← hW1]
    have := heap_alloc_new (w.alloc (.cells #[.int .i64 code, .slice fa fl fc, .slice bp bn bc] 38)) (.cells #[.string m, .string p, .string h, .slice ra rl rc, .slice qp qn qc] 36 (0, 0))
    rwa [World.size_alloc] at this
  have k2 : W1.heap[w.heap.size]? = some (.cells #[.int .i64 code, .slice fa fl fc, .slice bp bn bc] 38 (0, 0)) := by
    rw [← hW1]
    exact (Below.heap_alloc _ _ _ (by simp)).trans (heap_alloc_new w _)
  have a0 : W1.cell? ⟨w.heap.size, 0, none⟩ = some (.int .i64 code) := by rw [cell_of_row _ _ _ _ _ _ k2]; rfl
  have a1 : W1.cell? ⟨w.heap.size, 1, none⟩ = some (.slice fa fl fc) := by rw [cell_of_row _ _ _ _ _ _ k2]; rfl
  have a2 : W1.cell? ⟨w.heap.size, 2, none⟩ = some (.slice bp bn bc) := by rw [cell_of_row _ _ _ _ _ _ k2]; rfl
  have HR := vl hR
  have HRS := vl hrs
  have HL := vl hrlen
  obtain ⟨nm, hnm⟩ : ∃ nm, namesL (fdsOf La) = nm := ⟨_, rfl⟩
  rw [hnm] at HNM
  have HVS : Vl (∀ V, Srt nmK V → Sby nmK (Lr.filter (inVary nm)) V → VarS La Lr V) := vl (fun V h1 h2 => ⟨h1, by rw [hnm]; exact h2⟩)
  clear hA hs hm hv hR hrs hnm k2 hrlen
  go_enter Tryz.func36, Tryz.ntmps36
  go_wp2_with fail
  clear hW1 a0 a1 a2
  refine HNM.out.mono ?_
  rintro e w2 ⟨⟨mb, c, D, rfl, hmb, hO, hC⟩, hb2⟩
  have HB2 : Vl (Below w.heap.size w w2) := hB1.trans (hb2.mono hB1.size)
  have c3 : w2.cell? ⟨w.heap.size + 1, 3, none⟩ = some (.slice ra rl rc) := by
    have := (hb2.block (w.heap.size + 1) (by omega)).trans k3
    simp only [World.cell?, this]
    rfl
  have HO := vl hO
  have HC := vl hC
  have HB0 := vl hb2
  obtain ⟨B, hB⟩ : ∃ B, w2.heap.size = B := ⟨_, rfl⟩
  have hmB : mb < B := by rw [← hB]; exact hO.lt
  have hwB : w.heap.size + 2 ≤ B := by rw [← hB]; have := hb2.size; omega
  have HBB := vl hB
  clear hO hC hb2 k3 hB1 HNM hs1 hB
  go_wp2_with fail
  go_loopw [13, 4] (fun i x wr => ∃ k : Nat, i = .int .i64 k ∧ k ≤ rl ∧ Vl (FOwn wr B x ((Lr.take k).filter (inVary nm))) ∧ Vl (MOwn wr mb c D) ∧ Vl (Below B w2 wr)) (fun i _ _ => rl - (intOf i).toNat)
  case atStart => exact ⟨0, rfl, by omega, ⟨rfl, Or.inl ⟨rfl, rfl⟩⟩, HO, vl (by rw [← HBB.out]; exact Below.refl _ _)⟩
  case round =>
    obtain ⟨k, rfl, hk, HF, HM1, HB⟩ := hrel
    have hszr : B ≤ wr.heap.size := by have := HB.out.size; rw [HBB.out] at this; exact this
    have HBW : Vl (Below w.heap.size w wr) := vl (HB2.out.trans (HB.out.mono (by omega)))
    by_cases hlt : k < rl
    · have hlt' : (k : Int) < (rl : Int) := by omega
      rcases HR.out with ⟨h0, _⟩ | ⟨g, off, hra, hr⟩
      · omega
      · subst hra
        have hr2 := hr.below HBW.out
        have c1 := hr2.hname k hlt
        have c2 := hr2.hvalue k hlt
        have hcap := hr2.hcap
        have hsz := HRS.out k
        have HT := vl (ftake_succ (L := Lr) (k := k) (by have := HL.out; omega) (inVary nm))
        obtain ⟨⟨n, v⟩, hf⟩ : ∃ f, Lr.getD k fnone = f := ⟨_, rfl⟩
        rw [hf] at c1 c2 HT hsz
        have hsz : n.size ≤ 140737488351232 := hsz
        obtain ⟨W3, hW3⟩ : ∃ x, wr.alloc (.cells #[.string n, .string v] 84) = x := ⟨_, rfl⟩
        have hB3 : Below wr.heap.size wr W3 := by rw [← hW3]; exact (Below.refl _ wr).alloc (Nat.le_refl _) _
        have k4 : W3.heap[wr.heap.size]? = some (.cells #[.string n, .string v] 84 (0, 0)) := by rw [← hW3]; exact heap_alloc_new wr _
        have d0 : W3.cell? ⟨wr.heap.size, 0, none⟩ = some (.string n) := by rw [cell_of_row _ _ _ _ _ _ k4]; rfl
        have d1 : W3.cell? ⟨wr.heap.size, 1, none⟩ = some (.string v) := by rw [cell_of_row _ _ _ _ _ _ k4]; rfl
        have HM3 := vl (mown_below HM1.out hB3)
        have hrun := mown_look HM3.out HC.out hsz
        have HF3 := vl (fown_below HF.out hB3)
        have HB3 : Vl (Below B w2 W3) := vl (HB.out.trans (hB3.mono hszr))
        have hs3 : W3.heap.size = wr.heap.size + 1 := by rw [← hW3]; simp
        have hcm : nm.count (unums n) = nm.count (nmK (n, v)) := rfl
        have HIN : Vl (inVary nm (n, v) = decide ((0 : Int) < ((nm.count (unums n) : Nat) : Int))) := vl (by unfold inVary; rw [hcm]; exact decide_eq_decide.2 (by omega))
        obtain ⟨cn, hcn⟩ : ∃ cn, nm.count (unums n) = cn := ⟨_, rfl⟩
        rw [hcn] at hrun HIN
        clear hr hr2 hf hB3 HM1 HF HB k4 hcm hcn
        by_cases hpos : (0 : Int) < (cn : Int)
        · rw [HIN.out, if_pos (decide_eq_true hpos)] at HT
          have hfl : ((Lr.take k).filter (inVary nm)).length ≤ k := Nat.le_trans (List.length_filter_le _ _) (by rw [List.length_take]; omega)
          generalize (Lr.take k).filter (inVary nm) = FL at *
          obtain ⟨sa, sc, hv⟩ := fown_shape HF3.out
          subst hv
          have HS3 := vl hs3
          clear hs3
          go_wp2_with (at_builtin; refine wpList_fapp W3 rfl _ _ rfl B (.slice sa FL.length sc) FL n v rfl HF3.out rfl (by omega) (by have := HS3.out; omega) ?_)
          intro v3 w4 ho4 hg4
          have HB4 := vl (zbelow_grown (HB3.out.alloc (by have := HB3.out.size; rw [HBB.out] at this; exact this) (.cells #[.string n, .string v] 84)) hg4 (by rw [World.size_alloc]; have := HS3.out; omega) (fun k hk => (HF3.out.lt k hk).1))
          have HM4 : Vl (MOwn w4 mb c D) := vl (mown_same HM3.out ((hg4.block mb (by rw [World.size_alloc]; have := HS3.out; omega) (fun e => by have := (HF3.out.lt mb e.symm).1; omega)).trans (Below.heap_alloc _ _ _ (by have := HS3.out; omega))))
          have HF4 := vl ho4
          clear ho4 hg4 HF3 HM3 HB3 d0 d1 hrun
          go_wp2_with fail
          go_roundw
          case rel => exact ⟨k + 1, by go_num, by omega, by rw [HT.out]; exact HF4, HM4, HB4⟩
          case measure => simp [intOf]; omega
        · rw [HIN.out, if_neg (by simpa using hpos), List.append_nil] at HT
          clear hs3
          go_wp2_with fail
          go_roundw
          case rel => exact ⟨k + 1, by go_num, by omega, by rw [HT.out]; exact HF3, HM3, HB3⟩
          case measure => simp [intOf]; omega
    · have hlt' : ¬ (k : Int) < (rl : Int) := by omega
      have HE : Vl (Lr.take k = Lr) := vl (List.take_of_length_le (by have := HL.out; omega))
      rw [HE.out] at HF
      have hfl : (Lr.filter (inVary nm)).length ≤ 4398046511104 := Nat.le_trans (List.length_filter_le _ _) (by have := HL.out; omega)
      rename_i x4
      have HSO := vl (zsort_own B _ _ wr HF.out hfl hszr)
      obtain ⟨sa, sc, hv⟩ := fown_shape HF.out
      subst hv
      clear HF HM1
      go_wp2_with fail
      refine HSO.out.mono ?_
      rintro _ w5 ⟨⟨u, rfl⟩, ⟨a, c5, E, he, hA5, hb5, hS5, hY5, hE5⟩, hB5⟩
      have HF5 := vl (HVS.out E hS5 hY5)
      have HE5 : Vl (E.length ≤ rl) := vl (by rw [hE5]; exact Nat.le_trans (List.length_filter_le _ _) (by have := HL.out; omega))
      have HA5 := vl hA5
      have HB5 : Vl (Below w.heap.size w w5) := vl (HBW.out.trans (hB5.mono (by omega)))
      have HBK := vl hb5
      rw [he]
      clear HSO hA5 hb5 hS5 hY5 hB5 he hE5
      go_wp2_with fail
      go_ret
      exact ⟨⟨a, c5, E, rfl, HA5.out, fun p hp => by have := HBK.out p hp; omega, HF5.out, HE5.out⟩, HB5.out⟩
end Go.Proofs.YtibipnipeaeonaaGreatDoor
