/-
  WHAT WAS ANSWERED: rows of kept replies; slices.IndexFunc at them. No claim by itself.
-/
import Derived.BigRegion
import Derived.Deep.DeepCutAuto
import Derived.Lib.SliceRun
import Derived.Test.YtibipnipeaeonaaGreatDoorME
namespace Go.Proofs.YtibipnipeaeonaaGreatDoor
open Go Go.RowKit
set_option maxRecDepth 100000
def kz : KpM := ⟨.empty, .empty, none, 0, 0, ⟨0, none, 0, 0, none, 0, 0, [], []⟩, 0, [], []⟩
/-- A kept reply's cells, wherever they lie. -/
structure KBo (W : World) (g o : Nat) (k : KpM) : Prop where
  c0 : W.cell? ⟨g, o, none⟩ = some (.string k.host)
  c1 : W.cell? ⟨g, o + 1, none⟩ = some (.string k.path)
  c2 : W.cell? ⟨g, o + 2, none⟩ = some (.slice k.va k.vn k.vc)
  c3 : W.cell? ⟨g, o + 3, none⟩ = some (.int .i64 k.rp.code)
  c4 : W.cell? ⟨g, o + 4, none⟩ = some (.slice k.rp.fa k.rp.fn k.rp.fc)
  c5 : W.cell? ⟨g, o + 5, none⟩ = some (.slice k.rp.ba k.rp.bn k.rp.bc)
  c6 : W.cell? ⟨g, o + 6, none⟩ = some (.int .i64 k.at_)
theorem KBo.same {W W' : World} {g o : Nat} {k : KpM} (h : KBo W g o k) (hb : W'.heap[g]? = W.heap[g]?) : KBo W' g o k := by
  have q : ∀ i, W'.cell? ⟨g, i, none⟩ = W.cell? ⟨g, i, none⟩ := fun i => World.cell?_of_block (a := ⟨g, i, none⟩) hb
  exact ⟨(q _).trans h.c0, (q _).trans h.c1, (q _).trans h.c2, (q _).trans h.c3, (q _).trans h.c4, (q _).trans h.c5, (q _).trans h.c6⟩
theorem KBo.of_list {W : World} {g o : Nat} {k : KpM} (h : ∀ i v, k.cells[i]? = some v → W.cell? ⟨g, o + i, none⟩ = some v) : KBo W g o k :=
  ⟨h 0 _ rfl, h 1 _ rfl, h 2 _ rfl, h 3 _ rfl, h 4 _ rfl, h 5 _ rfl, h 6 _ rfl⟩
theorem KBo.get {W : World} {g o : Nat} {k : KpM} (h : KBo W g o k) : ∀ i v, k.cells[i]? = some v → W.cell? ⟨g, o + i, none⟩ = some v
  | 0, _, e => by cases e; exact h.c0
  | 1, _, e => by cases e; exact h.c1
  | 2, _, e => by cases e; exact h.c2
  | 3, _, e => by cases e; exact h.c3
  | 4, _, e => by cases e; exact h.c4
  | 5, _, e => by cases e; exact h.c5
  | 6, _, e => by cases e; exact h.c6
  | i + 7, _, e => by simp [KpM.cells] at e
structure KRow (w : World) (g off n cap : Nat) (D : List KpM) : Prop where
  hlen : D.length = n
  hcap : n ≤ cap
  hmax : cap ≤ maxLen
  hc : ∀ t, t < n → KBo w g (off + t * 7) (D.getD t kz)
theorem KRow.same {w w' : World} {g off n cap : Nat} {D : List KpM} (h : KRow w g off n cap D) (hb : w'.heap[g]? = w.heap[g]?) : KRow w' g off n cap D := ⟨h.hlen, h.hcap, h.hmax, fun t ht => (h.hc t ht).same hb⟩
theorem KRow.lt {w : World} {g off n cap : Nat} {D : List KpM} (h : KRow w g off n cap D) (hn : 0 < n) : g < w.heap.size := blk_of_cell (h.hc 0 hn).c0
theorem KRow.below {w w' : World} {g off n cap : Nat} {D : List KpM} (h : KRow w g off n cap D) (hb : Below w.heap.size w w') : KRow w' g off n cap D := by
  by_cases hn : 0 < n
  · exact h.same (hb.block g (h.lt hn))
  · exact ⟨h.hlen, h.hcap, h.hmax, fun t ht => by omega⟩
/-- A function value that tells whether p is so of each kept reply, as long as what lay in w lies, the blocks of S aside. -/
def PrdK (w : World) (S : Nat → Prop) (F : Value) (p : KpM → Prop) : Prop :=
  ∃ (g : Nat) (lb : Array Value), F = .func (.func g) #[] lb ∧ (∀ args w, (callFunc g args).run Tryz.prog w = .ok (.enter g args) w) ∧
    ∀ (W : World) (k : KpM), Tn S w W → KpIn W k → Calls Tryz.prog g (#[k.val] ++ lb) W fun e w' => BoolIs (p k) e ∧ Below W.heap.size W w'
theorem PrdK.step {w w' : World} {S : Nat → Prop} {F : Value} {p : KpM → Prop} (h : PrdK w S F p) (ht : Tn S w w') : PrdK w' S F p := by
  obtain ⟨g, lb, h1, h2, h3⟩ := h
  exact ⟨g, lb, h1, h2, fun W k hT hk => h3 W k (ht.trans' hT) hk⟩
def KIdx (p : KpM → Prop) (D : List KpM) (r : Int) : Prop := (r = -1 ∧ ∀ t, t < D.length → ¬ p (D.getD t kz)) ∨ ∃ i : Nat, r = i ∧ i < D.length ∧ p (D.getD i kz) ∧ ∀ t, t < i → ¬ p (D.getD t kz)
set_option maxHeartbeats 2000000 in
theorem zkidx_any (g off n cap : Nat) (D : List KpM) (F : Value) (p : KpM → Prop) (S : Nat → Prop) (w : World) (hr : KRow w g off n cap D) (hI : ∀ t, t < n → KpIn w (D.getD t kz)) (hn : n ≤ 4294967296) (hF : PrdK w S F p) :
    Calls Tryz.prog 48 #[.slice (some ⟨g, off, none⟩) n cap, F] w fun e w' => (∃ r, e = .returned (.int .i64 r) ∧ KIdx p D r) ∧ Below w.heap.size w w' := by
  obtain ⟨gf, lb, rfl, eg, HC0⟩ := hF
  have HC := vl HC0
  have HR := vl hr
  have HI := vl hI
  have hcap := hr.hcap
  have HL := vl hr.hlen
  clear HC0 hr hI
  go_enter Tryz.func48, Tryz.ntmps48
  go_wp2_with fail
  go_loopw [8, 5] (fun i _u wr => ∃ k : Nat, i = .int .i64 k ∧ k ≤ n ∧ Vl (∀ t, t < k → ¬ p (D.getD t kz)) ∧ Vl (Below w.heap.size w wr)) (fun i _ _ => n - (intOf i).toNat)
  case atStart => exact ⟨0, rfl, by omega, vl (fun t ht => by omega), Below.refl _ _⟩
  case round =>
    obtain ⟨k, rfl, hk, HK, HB⟩ := hrel
    by_cases hlt : k < n
    · have hlt' : (k : Int) < (n : Int) := by omega
      obtain ⟨c0, c1, c2, c3, c4, c5, c6⟩ := (HR.out.below HB.out).hc k hlt
      have H := vl (HC.out wr (D.getD k kz) (Tn.of_below HB.out) ((HI.out k hlt).below HB.out))
      obtain ⟨x, hx⟩ : ∃ x, D.getD k kz = x := ⟨_, rfl⟩
      have HX := vl hx
      rw [hx] at H c0 c1 c2 c3 c4 c5 c6
      clear hx
      unfold KpM.val at H
      obtain ⟨kh, kp, va, vn, vc, ⟨rc, rfa, rfn, rfc, rba, rbn, rbc, RFL, RB⟩, ka, KV, L0⟩ := x
      dsimp only at H c0 c1 c2 c3 c4 c5 c6
      go_wp2_with fail
      refine H.out.mono ?_
      rintro e w1 ⟨⟨b, rfl, hb⟩, hb1⟩
      have HB2 : Vl (Below w.heap.size w w1) := HB.out.trans (hb1.mono HB.out.size)
      have HBE := vl hb
      clear H hb1 HB c0 c1 c2 c3 c4 c5 c6 hb
      cases b with
      | true =>
        have HF : Vl (KIdx p D (k : Nat)) := vl (Or.inr ⟨k, rfl, by have := HL.out; omega, by rw [HX.out]; exact HBE.out.1 rfl, HK.out⟩)
        go_wp2_with fail
        go_ret
        exact ⟨⟨_, rfl, HF.out⟩, HB2.out⟩
      | false =>
        go_wp2_with fail
        go_roundw
        case rel => exact ⟨k + 1, by go_num, by omega, vl (fun t ht => by
          by_cases e : t = k
          · subst e; rw [HX.out]; exact fun h => by have := HBE.out.2 h; cases this
          · exact HK.out t (by omega)), HB2⟩
        case measure => simp [intOf]; omega
    · have hke : k = n := by omega
      subst hke
      have HF : Vl (KIdx p D (-1)) := vl (Or.inl ⟨rfl, by have := HL.out; rw [this]; exact HK.out⟩)
      go_wp2_with fail
      go_ret
      exact ⟨⟨_, rfl, HF.out⟩, HB.out⟩
theorem zkidx_nil (F : Value) (w : World) : Calls Tryz.prog 48 #[.slice none 0 0, F] w fun e w' => e = .returned (.int .i64 (-1)) ∧ w = w' := by
  go_enter Tryz.func48, Tryz.ntmps48
  go_wp2_with fail
  refine wp_loop_rounds 1 ?_
  rw [rounds_succ]
  go_wp2
  go_ret
  exact ⟨rfl, rfl⟩
end Go.Proofs.YtibipnipeaeonaaGreatDoor
/-
  WHAT WAS ANSWERED: rows of kept replies that are written; slices.DeleteFunc at them. No claim by itself.
-/
namespace Go.Proofs.YtibipnipeaeonaaGreatDoor
open Go Go.RowKit
set_option maxRecDepth 100000
theorem farg_tn {S : Nat → Prop} {w w' : World} {a : Option Addr} {n c : Nat} {L : List FB} (h : FArg w a n c L) (ht : Tn S w w') (hn : ∀ p, a = some p → 0 < n → ¬ S p.block) : FArg w' a n c L := by
  rcases h with h | ⟨g, off, rfl, hr⟩
  · exact Or.inl h
  · exact Or.inr ⟨g, off, rfl, hr.hlen, hr.hcap, hr.hmax, fun t h => ht.cell (hr.hname t h) (hn _ rfl (by omega)), fun t h => ht.cell (hr.hvalue t h) (hn _ rfl (by omega))⟩
theorem arg_tn {S : Nat → Prop} {w w' : World} {a : Option Addr} {n c : Nat} {Z : List Int} (h : Arg w a n c Z) (ht : Tn S w w') (hn : ∀ p, a = some p → 0 < n → ¬ S p.block) : Arg w' a n c Z := by
  rcases h with h | ⟨g, off, rfl, hr⟩
  · exact Or.inl h
  · exact Or.inr ⟨g, off, rfl, hr.hlen, hr.hcap, hr.hmax, fun t h => ht.cell (hr.hcell t h) (hn _ rfl (by omega)), hr.hbyte⟩
theorem KpIn.tn {S : Nat → Prop} {w w' : World} {k : KpM} (h : KpIn w k) (ht : Tn S w w') (hn : ∀ b, KpB k b → ¬ S b) : KpIn w' k :=
  ⟨farg_tn h.var ht (fun p hp h0 => hn _ (Or.inl ⟨p, hp, rfl, h0⟩)), ⟨h.rp.code, farg_tn h.rp.fields ht (fun p hp h0 => hn _ (Or.inr (Or.inl ⟨p, hp, rfl, h0⟩))), arg_tn h.rp.body ht (fun p hp h0 => hn _ (Or.inr (Or.inr ⟨p, hp, rfl, h0⟩))), h.rp.nil, h.rp.most, h.rp.each⟩, h.sm, h.said, h.vn, h.time⟩
theorem cs1 {W : World} {g o : Nat} {v : Value} {cur : Array Value} {t : TypeId} (hg : W.heap[g]? = some (.cells cur t (0, 0))) (ho : o < cur.size) (j : Nat) : (W.setCell ⟨g, o, none⟩ v).cell? ⟨g, j, none⟩ = if j = o then some v else W.cell? ⟨g, j, none⟩ := by
  rw [cell_of_row _ g j _ _ _ (heap_setCell_same W g o cur t v hg), cell_of_row _ g j _ _ _ hg, Array.getElem?_setIfInBounds]
  by_cases e : o = j
  · subst e; simp [ho]
  · rw [if_neg e, if_neg (fun h => e h.symm)]
/-- A row of kept replies that is turned in its places: all else stays. -/
structure KW (w0 : World) (g off n cap : Nat) (D : List KpM) (w : World) : Prop where
  row : KRow w g off n cap D
  blk : ∃ cur, w.heap[g]? = some (.cells cur 63 (0, 0)) ∧ cur.size = off + cap * 7
  tn : Tn (fun k => k = g) w0 w
theorem KW.fro {w0 w : World} {g off n cap : Nat} {D : List KpM} (h : KW w0 g off n cap D w) (j : Nat) : w.frozen? ⟨g, j, none⟩ = false := by
  obtain ⟨cur, hg, _⟩ := h.blk
  exact frozen_of_row w g j cur _ hg
theorem KW.below {w0 w w' : World} {g off n cap : Nat} {D : List KpM} (h : KW w0 g off n cap D w) (hb : Below w.heap.size w w') : KW w0 g off n cap D w' := by
  obtain ⟨cur, hg, hs⟩ := h.blk
  exact ⟨h.row.below hb, ⟨cur, (hb.block g (Array.getElem?_eq_some_iff.1 hg).1).trans hg, hs⟩, h.tn.trans' (Tn.of_below hb)⟩
set_option maxHeartbeats 1000000 in
theorem KW.put {w0 w : World} {g off n cap : Nat} {D : List KpM} (h : KW w0 g off n cap D w) (i o : Nat) (hi : i < n) (ho : o = off + i * 7) (k : KpM) :
    KW w0 g off n cap (D.set i k) (((((((w.setCell ⟨g, o, none⟩ (.string k.host)).setCell ⟨g, o + 1, none⟩ (.string k.path)).setCell ⟨g, o + 2, none⟩ (.slice k.va k.vn k.vc)).setCell ⟨g, o + 3, none⟩ (.int .i64 k.rp.code)).setCell ⟨g, o + 4, none⟩ (.slice k.rp.fa k.rp.fn k.rp.fc)).setCell ⟨g, o + 5, none⟩ (.slice k.rp.ba k.rp.bn k.rp.bc)).setCell ⟨g, o + 6, none⟩ (.int .i64 k.at_)) := by
  obtain ⟨cur, hg, hs⟩ := h.blk
  have hl := h.row.hlen
  have hcp := h.row.hcap
  have hlt : o + 6 < cur.size := by omega
  have hrow := h.row.hc
  have e0 := fun j => cs1 (v := .string k.host) hg (show o < cur.size by omega) j
  have g0 := heap_setCell_same w g o cur 63 (.string k.host) hg
  have t0 : Tn (fun k => k = g) w0 (w.setCell ⟨g, o, none⟩ (.string k.host)) := h.tn.trans' (tn_set rfl)
  generalize w.setCell ⟨g, o, none⟩ (.string k.host) = W0 at *
  have s0 : (cur.setIfInBounds o (.string k.host)).size = cur.size := Array.size_setIfInBounds ..
  generalize cur.setIfInBounds o (.string k.host) = r0 at *
  have e1 := fun j => cs1 (v := .string k.path) g0 (show o + 1 < r0.size by omega) j
  have g1 := heap_setCell_same W0 g (o + 1) r0 63 (.string k.path) g0
  have t1 : Tn (fun k => k = g) w0 (W0.setCell ⟨g, o + 1, none⟩ (.string k.path)) := t0.trans' (tn_set rfl)
  generalize W0.setCell ⟨g, o + 1, none⟩ (.string k.path) = W1 at *
  have s1 : (r0.setIfInBounds (o + 1) (.string k.path)).size = r0.size := Array.size_setIfInBounds ..
  generalize r0.setIfInBounds (o + 1) (.string k.path) = r1 at *
  have e2 := fun j => cs1 (v := .slice k.va k.vn k.vc) g1 (show o + 2 < r1.size by omega) j
  have g2 := heap_setCell_same W1 g (o + 2) r1 63 (.slice k.va k.vn k.vc) g1
  have t2 : Tn (fun k => k = g) w0 (W1.setCell ⟨g, o + 2, none⟩ (.slice k.va k.vn k.vc)) := t1.trans' (tn_set rfl)
  generalize W1.setCell ⟨g, o + 2, none⟩ (.slice k.va k.vn k.vc) = W2 at *
  have s2 : (r1.setIfInBounds (o + 2) (.slice k.va k.vn k.vc)).size = r1.size := Array.size_setIfInBounds ..
  generalize r1.setIfInBounds (o + 2) (.slice k.va k.vn k.vc) = r2 at *
  have e3 := fun j => cs1 (v := .int .i64 k.rp.code) g2 (show o + 3 < r2.size by omega) j
  have g3 := heap_setCell_same W2 g (o + 3) r2 63 (.int .i64 k.rp.code) g2
  have t3 : Tn (fun k => k = g) w0 (W2.setCell ⟨g, o + 3, none⟩ (.int .i64 k.rp.code)) := t2.trans' (tn_set rfl)
  generalize W2.setCell ⟨g, o + 3, none⟩ (.int .i64 k.rp.code) = W3 at *
  have s3 : (r2.setIfInBounds (o + 3) (.int .i64 k.rp.code)).size = r2.size := Array.size_setIfInBounds ..
  generalize r2.setIfInBounds (o + 3) (.int .i64 k.rp.code) = r3 at *
  have e4 := fun j => cs1 (v := .slice k.rp.fa k.rp.fn k.rp.fc) g3 (show o + 4 < r3.size by omega) j
  have g4 := heap_setCell_same W3 g (o + 4) r3 63 (.slice k.rp.fa k.rp.fn k.rp.fc) g3
  have t4 : Tn (fun k => k = g) w0 (W3.setCell ⟨g, o + 4, none⟩ (.slice k.rp.fa k.rp.fn k.rp.fc)) := t3.trans' (tn_set rfl)
  generalize W3.setCell ⟨g, o + 4, none⟩ (.slice k.rp.fa k.rp.fn k.rp.fc) = W4 at *
  have s4 : (r3.setIfInBounds (o + 4) (.slice k.rp.fa k.rp.fn k.rp.fc)).size = r3.size := Array.size_setIfInBounds ..
  generalize r3.setIfInBounds (o + 4) (.slice k.rp.fa k.rp.fn k.rp.fc) = r4 at *
  have e5 := fun j => cs1 (v := .slice k.rp.ba k.rp.bn k.rp.bc) g4 (show o + 5 < r4.size by omega) j
  have g5 := heap_setCell_same W4 g (o + 5) r4 63 (.slice k.rp.ba k.rp.bn k.rp.bc) g4
  have t5 : Tn (fun k => k = g) w0 (W4.setCell ⟨g, o + 5, none⟩ (.slice k.rp.ba k.rp.bn k.rp.bc)) := t4.trans' (tn_set rfl)
  generalize W4.setCell ⟨g, o + 5, none⟩ (.slice k.rp.ba k.rp.bn k.rp.bc) = W5 at *
  have s5 : (r4.setIfInBounds (o + 5) (.slice k.rp.ba k.rp.bn k.rp.bc)).size = r4.size := Array.size_setIfInBounds ..
  generalize r4.setIfInBounds (o + 5) (.slice k.rp.ba k.rp.bn k.rp.bc) = r5 at *
  have e6 := fun j => cs1 (v := .int .i64 k.at_) g5 (show o + 6 < r5.size by omega) j
  have g6 := heap_setCell_same W5 g (o + 6) r5 63 (.int .i64 k.at_) g5
  have t6 : Tn (fun k => k = g) w0 (W5.setCell ⟨g, o + 6, none⟩ (.int .i64 k.at_)) := t5.trans' (tn_set rfl)
  generalize W5.setCell ⟨g, o + 6, none⟩ (.int .i64 k.at_) = W6 at *
  have key : ∀ j, W6.cell? ⟨g, j, none⟩ = if j = o + 6 then some (.int .i64 k.at_) else if j = o + 5 then some (.slice k.rp.ba k.rp.bn k.rp.bc) else if j = o + 4 then some (.slice k.rp.fa k.rp.fn k.rp.fc) else if j = o + 3 then some (.int .i64 k.rp.code) else if j = o + 2 then some (.slice k.va k.vn k.vc) else if j = o + 1 then some (.string k.path) else if j = o then some (.string k.host) else w.cell? ⟨g, j, none⟩ := fun j => by
    rw [e6, e5, e4, e3, e2, e1, e0]
  refine ⟨⟨by rw [List.length_set]; exact hl, hcp, h.row.hmax, fun t ht => ?_⟩, ⟨_, g6, by rw [Array.size_setIfInBounds]; omega⟩, t6⟩
  have hgt : (D.set i k).getD t kz = if t = i then k else D.getD t kz := getD_set' _ _ _ _ (by omega)
  rw [hgt]
  by_cases e : t = i
  · subst e
    rw [if_pos rfl, ← ho]
    refine ⟨?_, ?_, ?_, ?_, ?_, ?_, ?_⟩ <;> (rw [key]; repeat' split) <;> first | rfl | (exfalso; omega)
  · rw [if_neg e]
    obtain ⟨c0, c1, c2, c3, c4, c5, c6⟩ := hrow t ht
    have far : ∀ d, d < 7 → W6.cell? ⟨g, off + t * 7 + d, none⟩ = w.cell? ⟨g, off + t * 7 + d, none⟩ := fun d hd => by
      rw [key, if_neg (by omega), if_neg (by omega), if_neg (by omega), if_neg (by omega), if_neg (by omega), if_neg (by omega), if_neg (by omega)]
    exact ⟨(far 0 (by omega)).trans c0, (far 1 (by omega)).trans c1, (far 2 (by omega)).trans c2, (far 3 (by omega)).trans c3, (far 4 (by omega)).trans c4, (far 5 (by omega)).trans c5, (far 6 (by omega)).trans c6⟩
open Classical in
/-- Those of which p is not so. -/
noncomputable def kf (p : KpM → Prop) (D : List KpM) : List KpM := D.filter fun k => decide (¬ p k)
theorem kf_snoc {p : KpM → Prop} {D : List KpM} {k : Nat} (h : k < D.length) : kf p (D.take (k + 1)) = kf p (D.take k) ++ (open Classical in if p (D.getD k kz) then [] else [D.getD k kz]) := by
  unfold kf
  rw [List.take_add_one, List.getElem?_eq_getElem h, List.filter_append, List.getD, List.getElem?_eq_getElem h]
  congr 1
  simp only [Option.toList, Option.getD, List.filter_cons, List.filter_nil]
  by_cases e : p D[k]
  · simp [e]
  · simp [e]
theorem kf_none {p : KpM → Prop} {D : List KpM} (h : ∀ t, t < D.length → ¬ p (D.getD t kz)) : kf p D = D := by
  unfold kf
  rw [List.filter_eq_self]
  intro x hx
  obtain ⟨i, hi, rfl⟩ := List.getElem_of_mem hx
  have := h i hi
  rw [List.getD, List.getElem?_eq_getElem hi] at this
  simpa using this
/-- How far the deletion came. -/
structure DlI (p : KpM → Prop) (D : List KpM) (i j : Nat) (E : List KpM) : Prop where
  len : E.length = D.length
  le : i ≤ j
  front : E.take i = kf p (D.take j)
  back : ∀ t, j ≤ t → E.getD t kz = D.getD t kz
  mem : ∀ t, t < D.length → E.getD t kz ∈ D
end Go.Proofs.YtibipnipeaeonaaGreatDoor
/-
  WHAT WAS ANSWERED: slices.DeleteFunc at kept replies. No claim by itself.
-/
namespace Go.Proofs.YtibipnipeaeonaaGreatDoor
open Go Go.RowKit
set_option maxRecDepth 100000
def kcells (D : List KpM) : List Value := D.flatMap KpM.cells
theorem kcells_len : ∀ D : List KpM, (kcells D).length = D.length * 7
  | [] => rfl
  | k :: D => by
    have := kcells_len D
    unfold kcells at this ⊢
    rw [List.flatMap_cons, List.length_append, this, List.length_cons]
    simp [KpM.cells]; omega
theorem kcells_at : ∀ (D : List KpM) (t c : Nat), t < D.length → c < 7 → (kcells D)[t * 7 + c]? = (D.getD t kz).cells[c]?
  | k :: D, 0, c, _, hc => by
    unfold kcells
    rw [List.flatMap_cons, List.getElem?_append_left (by simp [KpM.cells]; omega)]
    simp
  | k :: D, t + 1, c, ht, hc => by
    have := kcells_at D t c (by simpa using ht) hc
    unfold kcells at this ⊢
    rw [List.flatMap_cons, List.getElem?_append_right (by simp [KpM.cells]; omega)]
    have e : (t + 1) * 7 + c - k.cells.length = t * 7 + c := by simp [KpM.cells]; omega
    rw [e, this]
    simp
theorem kcells_app (D E : List KpM) : kcells (D ++ E) = kcells D ++ kcells E := by simp [kcells]
abbrev KOwn (w : World) (base : Nat) (v : Value) (D : List KpM) : Prop := w.ownsRow base 63 7 v D.length (kcells D)
theorem kown_kw {w : World} {base g cap : Nat} {D : List KpM} (h : KOwn w base (.slice (some ⟨g, 0, none⟩) D.length cap) D) : KW w g 0 D.length cap D w := by
  have h2 := h.2
  rcases h2 with ⟨e, _⟩ | ⟨g', cap', cur, e, hb, hg, hn, hc, hs, ht⟩
  · cases e
  · simp only [Value.slice.injEq, Option.some.injEq, Addr.mk.injEq, and_true, true_and] at e
    obtain ⟨rfl, rfl⟩ := e
    refine ⟨⟨rfl, hn, hc, fun t ht => KBo.of_list (fun i v hv => ?_)⟩, ⟨cur, hg, by omega⟩, Tn.refl _ _⟩
    have hi : i < 7 := by
      have := (List.getElem?_eq_some_iff.1 hv).1
      simpa [KpM.cells] using this
    have := h.cellAt (t * 7 + i) (by omega)
    rw [show 0 + t * 7 + i = t * 7 + i by omega, this, kcells_at D t i ht hi]
    exact hv
theorem kw_list {w : World} {g n cap : Nat} {D : List KpM} {cur : Array Value} (h : KRow w g 0 n cap D) (hg : w.heap[g]? = some (.cells cur 63 (0, 0))) (_hs : cur.size = cap * 7) : cur.toList.take (n * 7) = kcells D := by
  have hl := h.hlen
  have hcp := h.hcap
  refine List.ext_getElem? fun j => ?_
  by_cases hj : j < n * 7
  · rw [List.getElem?_take, if_pos hj]
    have e : j = j / 7 * 7 + j % 7 := by omega
    have hk : ∃ v, (D.getD (j / 7) kz).cells[j % 7]? = some v := by
      refine ⟨_, List.getElem?_eq_getElem (by simp [KpM.cells]; omega)⟩
    obtain ⟨v, hv⟩ := hk
    have h1 := (h.hc (j / 7) (by omega)).get (j % 7) v hv
    rw [show 0 + j / 7 * 7 + j % 7 = j by omega, cell_of_row _ _ _ _ _ _ hg] at h1
    rw [Array.getElem?_toList, h1]
    have h2 := kcells_at D (j / 7) (j % 7) (by omega) (by omega)
    rw [hv, ← e] at h2
    exact h2.symm
  · rw [List.getElem?_eq_none (by rw [List.length_take]; omega), List.getElem?_eq_none (by rw [kcells_len]; omega)]
theorem kw_kown {w0 w : World} {base g n cap : Nat} {D : List KpM} (h : KW w0 g 0 n cap D w) (hb : base ≤ g) : KOwn w base (.slice (some ⟨g, 0, none⟩) n cap) D := by
  obtain ⟨cur, hg, hs⟩ := h.blk
  have hl := h.row.hlen
  show World.ownsRow _ _ _ _ _ _ _
  rw [hl]
  exact ⟨by rw [kcells_len, hl], Or.inr ⟨g, cap, cur, rfl, hb, hg, h.row.hcap, h.row.hmax, by omega, kw_list h.row hg (by omega)⟩⟩
theorem dl_start {p : KpM → Prop} {D : List KpM} {i : Nat} (hi : i < D.length) (hp : p (D.getD i kz)) (hn : ∀ t, t < i → ¬ p (D.getD t kz)) : DlI p D i (i + 1) D := by
  refine ⟨rfl, by omega, ?_, fun t _ => rfl, fun t ht => by rw [List.getD, List.getElem?_eq_getElem ht]; exact List.getElem_mem _⟩
  rw [kf_snoc hi, if_pos hp, List.append_nil]
  exact (kf_none (fun t ht => by
    have ht' : t < i := by rw [List.length_take] at ht; omega
    have : (D.take i).getD t kz = D.getD t kz := by rw [List.getD, List.getD, List.getElem?_take, if_pos ht']
    rw [this]; exact hn t ht')).symm
theorem DlI.yes {p : KpM → Prop} {D E : List KpM} {i j : Nat} (h : DlI p D i j E) (hj : j < D.length) (hp : p (D.getD j kz)) : DlI p D i (j + 1) E :=
  ⟨h.len, by have := h.le; omega, by rw [kf_snoc hj, if_pos hp, List.append_nil]; exact h.front, fun t ht => h.back t (by omega), h.mem⟩
theorem DlI.no {p : KpM → Prop} {D E : List KpM} {i j : Nat} (h : DlI p D i j E) (hj : j < D.length) (hp : ¬ p (D.getD j kz)) : DlI p D (i + 1) (j + 1) (E.set i (D.getD j kz)) := by
  have hle := h.le
  have hl := h.len
  refine ⟨by rw [List.length_set]; exact hl, by omega, ?_, fun t ht => ?_, fun t ht => ?_⟩
  · rw [kf_snoc hj, if_neg hp, ← h.front, List.take_add_one, List.getElem?_set, if_pos rfl, if_pos (by omega), List.take_set]
    congr 1
    rw [List.set_eq_of_length_le (by rw [List.length_take]; omega)]
  · rw [getD_set' _ _ _ _ (by omega), if_neg (by omega)]
    exact h.back t (by omega)
  · rw [getD_set' _ _ _ _ (by omega)]
    split
    · rw [List.getD, List.getElem?_eq_getElem hj]; exact List.getElem_mem _
    · exact h.mem t ht
theorem DlI.fin {p : KpM → Prop} {D E : List KpM} {i j : Nat} (h : DlI p D i j E) (hj : D.length ≤ j) : E.take i = kf p D := by
  rw [h.front, List.take_of_length_le hj]
/-- 'clear(s)' at kept replies: its cells hold zero values. -/
theorem run_clear_rowK (w : World) (ty : TypeId) (g o n c : Nat) (cur : Array Value) (t : TypeId) (hg : w.heap[g]? = some (.cells cur t (0, 0))) (hn : 0 < n) (hfit : o + n * 7 ≤ cur.size) :
    ∃ zs : List Value, zs.length = n * 7 ∧ (Builtin.clear_ #[55] ty #[.slice (some ⟨g, o, none⟩) n c]).run Tryz.prog w = .ok (.tuple #[]) (w.setRow g (cur.toList.take o ++ zs ++ cur.toList.drop (o + zs.length)).toArray) := by
  obtain ⟨i0, hi, hz0, _, _⟩ := info_parts (show (Tryz.prog.info? 63).map (fun i => (i.zero, i.size, i.bytes)) = some (some (.agg #[.string ⟨#[]⟩, .string ⟨#[]⟩, .slice none 0 0, .int .i64 0, .slice none 0 0, .slice none 0 0, .int .i64 0]), 7, 120) by kernel_rfl)
  have hzv : ∀ w, (zeroValue 63).run Tryz.prog w = .ok (.agg #[.string ⟨#[]⟩, .string ⟨#[]⟩, .slice none 0 0, .int .i64 0, .slice none 0 0, .slice none 0 0, .int .i64 0]) w := fun w => by simp [zeroValue, typeInfo, hi, hz0]
  obtain ⟨zs, hzs⟩ : ∃ zs, zs = (Builtin.zeroCells (Value.agg #[.string ⟨#[]⟩, .string ⟨#[]⟩, .slice none 0 0, .int .i64 0, .slice none 0 0, .slice none 0 0, .int .i64 0]).cells n).toList := ⟨_, rfl⟩
  have hl : zs.length = n * 7 := by rw [hzs]; simp [Builtin.zeroCells, Value.cells]
  have h1 : ∀ v ∈ zs, v.oneCell' = true := by
    intro v hv
    rw [hzs] at hv
    simp [Builtin.zeroCells, Value.cells] at hv
    obtain ⟨i, _, rfl⟩ := hv
    have hm : i % 7 < 7 := Nat.mod_lt _ (by omega)
    match i % 7, hm with
    | 0, _ => rfl
    | 1, _ => rfl
    | 2, _ => rfl
    | 3, _ => rfl
    | 4, _ => rfl
    | 5, _ => rfl
    | 6, _ => rfl
  have hst := run_storeCells_at Tryz.prog g o t zs 0 cur w hg (by omega) h1
  refine ⟨zs, hl, ?_⟩
  obtain ⟨m, rfl⟩ : ∃ m, n = m + 1 := ⟨n - 1, by omega⟩
  simp only [Nat.add_zero] at hst
  simp [Builtin.clear_, run_underlying Tryz.underlying55, hzv, ← hzs, hst]
end Go.Proofs.YtibipnipeaeonaaGreatDoor
/-
  WHAT WAS ANSWERED: slices.DeleteFunc at kept replies, walked. No claim by itself.
-/
namespace Go.Proofs.YtibipnipeaeonaaGreatDoor
open Go Go.RowKit
set_option maxRecDepth 100000
theorem setRow_other' (w : World) (g k : Nat) (cs : Array Value) (h : k ≠ g) : (w.setRow g cs).heap[k]? = w.heap[k]? := setRow_other w g k cs h
set_option maxHeartbeats 4000000 in
theorem zkdel_row (g off n cap : Nat) (D : List KpM) (F : Value) (p : KpM → Prop) (w : World) (h : KW w g off n cap D w) (hI : ∀ k ∈ D, KpIn w k ∧ ∀ b, KpB k b → b ≠ g) (hn : n ≤ 4294967296) (hF : PrdK w (fun k => k = g) F p) (hoff : off = 0) :
    Calls Tryz.prog 34 #[.slice (some ⟨g, off, none⟩) n cap, F] w fun e w' => e = .returned (.slice (some ⟨g, off, none⟩) (kf p D).length cap) ∧ KW w g off (kf p D).length cap (kf p D) w' := by
  have HX := vl (zkidx_any g off n cap D F p _ w h.row (fun t ht => (hI _ (by rw [List.getD, List.getElem?_eq_getElem (by rw [h.row.hlen]; exact ht)]; exact List.getElem_mem _)).1) hn hF)
  obtain ⟨gf, lb, rfl, eg, HC0⟩ := hF
  have HC := vl HC0
  have H := vl h
  have HI := vl hI
  have hcap := h.row.hcap
  have HL := vl h.row.hlen
  have hmax := h.row.hmax
  unfold maxLen at hmax
  have HOFF := vl hoff
  clear HC0 hI h hoff
  go_enter Tryz.func34, Tryz.ntmps34
  go_wp2_with fail
  refine HX.out.mono ?_
  rintro e w1 ⟨⟨r, rfl, hr⟩, hb1⟩
  have HW1 := vl (H.out.below hb1)
  clear HX hb1
  rcases hr with ⟨rfl, hnone⟩ | ⟨i, rfl, hi, hp, hno⟩
  · have HE := vl (kf_none hnone)
    clear hnone
    go_wp2_with fail
    go_ret
    refine ⟨by rw [HE.out, HL.out]; rfl, ?_⟩
    rw [HE.out, HL.out]
    exact HW1.out
  · have HD := vl (dl_start hi hp hno)
    have hin : i < n := by have := HL.out; omega
    have hi1 : ¬ (i : Int) = -1 := by omega
    have hi2 : ((i : Int) == -1) = false := beq_eq_false_iff_ne.2 hi1
    clear hp hno hi
    go_wp2_with fail
    go_loopw [5, 6, 7] (fun iv jv _u wr => ∃ (a j : Nat) (E : List KpM), iv = .int .i64 a ∧ jv = .int .i64 j ∧ a < j ∧ j ≤ n ∧ Vl (DlI p D a j E) ∧ Vl (KW w g off n cap E wr)) (fun _ jv _ _ => n - (intOf jv).toNat)
    case atStart => exact ⟨i, i + 1, D, rfl, by go_num, by omega, by omega, HD, HW1⟩
    case round =>
      obtain ⟨a, j, E, rfl, rfl, haj, hjn, HDL, HW⟩ := hrel
      by_cases hlt : j < n
      · have hlt' : (j : Int) < (n : Int) := by omega
        have hx := HDL.out.back j (Nat.le_refl _)
        obtain ⟨c0, c1, c2, c3, c4, c5, c6⟩ := HW.out.row.hc j hlt
        have hDj : D.getD j kz ∈ D := by rw [List.getD, List.getElem?_eq_getElem (by rw [HL.out]; exact hlt)]; exact List.getElem_mem _
        have hKj := HI.out _ hDj
        have HYES := vl (HDL.out.yes (by rw [HL.out]; exact hlt))
        have HNO := vl (HDL.out.no (by rw [HL.out]; exact hlt))
        rw [hx] at c0 c1 c2 c3 c4 c5 c6
        obtain ⟨x, hxx⟩ : ∃ x, D.getD j kz = x := ⟨_, rfl⟩
        rw [hxx] at c0 c1 c2 c3 c4 c5 c6 hKj HYES HNO
        obtain ⟨W3, hW3⟩ : ∃ y, wr.alloc (.cells #[.string x.host, .string x.path, .slice x.va x.vn x.vc, .int .i64 x.rp.code, .slice x.rp.fa x.rp.fn x.rp.fc, .slice x.rp.ba x.rp.bn x.rp.bc, .int .i64 x.at_] 63) = y := ⟨_, rfl⟩
        have hb3 : Below wr.heap.size wr W3 := by rw [← hW3]; exact (Below.refl _ wr).alloc (Nat.le_refl _) _
        have HKB := vl (show KBx W3 wr.heap.size x from KBx.of (t := 63) (by rw [← hW3]; exact heap_alloc_new wr _))
        have HW3 := vl (HW.out.below hb3)
        have HCC := vl (HC.out W3 x HW3.out.tn (hKj.1.tn HW3.out.tn (fun b hb => hKj.2 b hb)))
        unfold KpM.val at HCC
        have hal : a < n := by omega
        have HPUT := vl (fun W (hh : KW w g off n cap E W) o ho => hh.put a o hal ho x)
        clear hx hDj hxx hKj hb3
        obtain ⟨d0, d1, d2, d3, d4, d5, d6⟩ := HKB.out
        obtain ⟨kh, kp, va, vn, vc, ⟨rc, rfa, rfn, rfc, rba, rbn, rbc, RFL, RB⟩, ka, KV, L0⟩ := x
        dsimp only at c0 c1 c2 c3 c4 c5 c6 d0 d1 d2 d3 d4 d5 d6 HCC HPUT hW3
        go_wp2_with fail
        clear hW3 d0 d1 d2 d3 d4 d5 d6 c0 c1 c2 c3 c4 c5 c6
        refine HCC.out.mono ?_
        rintro e w4 ⟨⟨b, rfl, hbp⟩, hb4⟩
        have HBP := vl hbp
        have HW4 := vl (HW3.out.below hb4)
        obtain ⟨d0, d1, d2, d3, d4, d5, d6⟩ := HKB.out.below hb4
        dsimp only at d0 d1 d2 d3 d4 d5 d6
        clear HCC hb4 HKB HW3 HW hbp
        cases b with
        | true =>
          have HDY := vl (HYES.out (HBP.out.1 rfl))
          clear HYES HNO
          go_wp2_with fail
          go_roundw
          case rel => exact ⟨a, j + 1, E, rfl, by go_num, by omega, by omega, HDY, HW4⟩
          case measure => simp [intOf]; omega
        | false =>
          have HDN := vl (HNO.out (fun hh => by have := HBP.out.2 hh; cases this))
          obtain ⟨y0, y1, y2, y3, y4, y5, y6⟩ := HW4.out.row.hc a hal
          have fr := HW4.out.fro
          have ha0 : (a : Int) < (n : Int) := by omega
          obtain ⟨ke, hke⟩ : ∃ ke, E.getD a kz = ke := ⟨_, rfl⟩
          rw [hke] at y0 y1 y2 y3 y4 y5 y6
          have HW6 := vl (HPUT.out w4 HW4.out (off + a * 7) rfl)
          clear hke HYES HNO HPUT
          go_wp2_with fail
          go_roundw
          case rel => exact ⟨a + 1, j + 1, _, by go_num, by go_num, by omega, by omega, HDN, HW6⟩
          case measure => simp [intOf]; omega
      · have hlt' : ¬ (j : Int) < (n : Int) := by omega
        have HFN := vl (HDL.out.fin (by rw [HL.out]; omega))
        have hal : a < n := by omega
        obtain ⟨cur, hg, hsz⟩ := HW.out.blk
        obtain ⟨zs, hzl, hcl⟩ : ∃ zs : List Value, zs.length = (n - a) * 7 ∧ ∀ ty, (Builtin.clear_ #[55] ty #[.slice (some ⟨g, off + a * 7, none⟩) (n - a) (cap - a)]).run Tryz.prog wr = .ok (.tuple #[]) (wr.setRow g (cur.toList.take (off + a * 7) ++ zs ++ cur.toList.drop (off + a * 7 + zs.length)).toArray) := by
          have hz := fun ty => run_clear_rowK wr ty g (off + a * 7) (n - a) (cap - a) cur 63 hg (by omega) (by omega)
          obtain ⟨zs, h1, _⟩ := hz 0
          refine ⟨(hz 0).choose, (hz 0).choose_spec.1, fun ty => (hz 0).choose_spec.2⟩
        obtain ⟨W5, hW5⟩ : ∃ x, wr.setRow g (cur.toList.take (off + a * 7) ++ zs ++ cur.toList.drop (off + a * 7 + zs.length)).toArray = x := ⟨_, rfl⟩
        have hg5 : W5.heap[g]? = some (.cells (cur.toList.take (off + a * 7) ++ zs ++ cur.toList.drop (off + a * 7 + zs.length)).toArray 63 (0, 0)) := by rw [← hW5]; exact setRow_heap wr g cur _ 63 (0, 0) hg
        have HKW : Vl (KW w g off (kf p D).length cap (kf p D) W5) := vl (by
          have hEl := HDL.out.len
          have hDl := HL.out
          have hfl : (kf p D).length = a := by rw [← HFN.out, List.length_take]; omega
          rw [hfl]
          refine ⟨⟨hfl, by omega, HW.out.row.hmax, fun t ht => ?_⟩, ⟨_, hg5, ?_⟩, HW.out.tn.trans' ?_⟩
          · have e1 : (kf p D).getD t kz = E.getD t kz := by rw [← HFN.out, List.getD, List.getD, List.getElem?_take, if_pos ht]
            rw [e1]
            refine KBo.of_list (fun d v hv => ?_)
            have hd : d < 7 := by
              have := (List.getElem?_eq_some_iff.1 hv).1
              simpa [KpM.cells] using this
            have h0 := (HW.out.row.hc t (by omega)).get d v hv
            rw [cell_of_row _ _ _ _ _ _ hg] at h0
            rw [cell_of_row _ _ _ _ _ _ hg5, List.getElem?_toArray, List.append_assoc, List.getElem?_append_left (by rw [List.length_take, Array.length_toList]; omega), List.getElem?_take, if_pos (by omega), Array.getElem?_toList]
            exact h0
          · simp only [List.size_toArray, List.length_append, List.length_take, List.length_drop, Array.length_toList]
            omega
          · rw [← hW5]
            exact ⟨rfl, rfl, rfl, by simp [World.setRow], fun k _ hs => setRow_other wr g k _ hs⟩)
        have hfl : Vl ((kf p D).length = a) := vl (by rw [← HFN.out, List.length_take]; have := HDL.out.len; have := HL.out; omega)
        simp only [hW5] at hcl
        have hca : ¬ cap = a := by omega
        have hca2 : (a : Int) ≤ (n : Int) := by omega
        have hca3 : (a : Int) ≤ (cap : Int) := by omega
        have hca4 : (0 : Int) ≤ (a : Int) := by omega
        clear hW5 hg5 hg hsz hzl HDL HW
        go_wp2_with fail
        go_ret
        exact ⟨by rw [hfl.out]; rfl, HKW.out⟩
end Go.Proofs.YtibipnipeaeonaaGreatDoor
/-
  WHAT WAS ANSWERED: a store in memory; the developers' leaveOut, Drop, Len, New. No claim by itself.
-/
namespace Go.Proofs.YtibipnipeaeonaaGreatDoor
open Go Go.RowKit
set_option maxRecDepth 100000
def StS (sb : Nat) (v : Value) (k : Nat) : Prop := k = sb ∨ v.ownBlock = some k
/-- A store in memory: its box, its row, what it keeps. -/
structure StM (w : World) (sb : Nat) (v : Value) (ks : List KpM) : Prop where
  box : w.heap[sb]? = some (.cells #[v] 57 (0, 0))
  own : KOwn w 0 v ks
  each : ∀ k ∈ ks, KpIn w k
  apart : ∀ k ∈ ks, ∀ b, KpB k b → ¬ StS sb v b
  self : v.ownBlock ≠ some sb
  most : ks.length ≤ 21
theorem StM.lt {w : World} {sb : Nat} {v : Value} {ks : List KpM} (h : StM w sb v ks) : sb < w.heap.size := (Array.getElem?_eq_some_iff.1 h.box).1
theorem StM.cell {w : World} {sb : Nat} {v : Value} {ks : List KpM} (h : StM w sb v ks) : w.cell? ⟨sb, 0, none⟩ = some v := by rw [cell_of_row _ _ _ _ _ _ h.box]; rfl
theorem StM.fro {w : World} {sb : Nat} {v : Value} {ks : List KpM} (h : StM w sb v ks) (j : Nat) : w.frozen? ⟨sb, j, none⟩ = false := frozen_of_row w sb j _ _ h.box
theorem StM.shape {w : World} {sb : Nat} {v : Value} {ks : List KpM} (h : StM w sb v ks) : (v = .slice none 0 0 ∧ ks = []) ∨ ∃ g cap, v = .slice (some ⟨g, 0, none⟩) ks.length cap := by
  rcases h.own.2 with ⟨e, h0⟩ | ⟨g, cap, _, e, _⟩
  · exact Or.inl ⟨e, List.length_eq_zero_iff.1 h0⟩
  · exact Or.inr ⟨g, cap, e⟩
theorem kown_tn {S : Nat → Prop} {w w' : World} {base : Nat} {v : Value} {D : List KpM} (h : KOwn w base v D) (ht : Tn S w w') (hn : ∀ k, v.ownBlock = some k → ¬ S k) : KOwn w' base v D := by
  obtain ⟨h1, h2⟩ := h
  refine ⟨h1, ?_⟩
  rcases h2 with h2 | ⟨g, cap, cur, rfl, hb, hg, r⟩
  · exact Or.inl h2
  · exact Or.inr ⟨g, cap, cur, rfl, hb, (ht.block g (Array.getElem?_eq_some_iff.1 hg).1 (hn g rfl)).trans hg, r⟩
/-- A step that turns neither the store nor what it keeps leaves it. -/
theorem StM.tn {S : Nat → Prop} {w w' : World} {sb : Nat} {v : Value} {ks : List KpM} (h : StM w sb v ks) (ht : Tn S w w') (h1 : ∀ k, StS sb v k → ¬ S k) (h2 : ∀ k ∈ ks, ∀ b, KpB k b → ¬ S b) : StM w' sb v ks :=
  ⟨(ht.block sb h.lt (h1 sb (Or.inl rfl))).trans h.box, kown_tn h.own ht (fun k hk => h1 k (Or.inr hk)), fun k hk => (h.each k hk).tn ht (h2 k hk), h.apart, h.self, h.most⟩
theorem StM.below {w w' : World} {sb : Nat} {v : Value} {ks : List KpM} (h : StM w sb v ks) (hb : Below w.heap.size w w') : StM w' sb v ks :=
  h.tn (S := fun _ => False) (Tn.of_below hb) (fun _ _ e => e) (fun _ _ _ _ e => e)
theorem PrdK.mono {w : World} {S S' : Nat → Prop} {F : Value} {p : KpM → Prop} (h : PrdK w S F p) (hs : ∀ k, S' k → S k) : PrdK w S' F p := by
  obtain ⟨g, lb, h1, h2, h3⟩ := h
  exact ⟨g, lb, h1, h2, fun W k hT hk => h3 W k ⟨hT.os, hT.tape, hT.output, hT.size, fun i hi hn => hT.block i hi (fun e => hn (hs i e))⟩ hk⟩
theorem zkdel_nil (F : Value) (w : World) : Calls Tryz.prog 34 #[.slice none 0 0, F] w fun e w' => e = .returned (.slice none 0 0) ∧ w = w' := by
  go_enter Tryz.func34, Tryz.ntmps34
  go_wp2_with fail
  refine (zkidx_nil F w).mono ?_
  rintro _ _ ⟨rfl, rfl⟩
  go_wp2
  go_ret
  exact ⟨rfl, rfl⟩
/-- What DeleteFunc owes of a store's row. -/
theorem zkdel_st (sb : Nat) (v : Value) (ks : List KpM) (F : Value) (p : KpM → Prop) (w : World) (h : StM w sb v ks) (hF : PrdK w (StS sb v) F p) :
    Calls Tryz.prog 34 #[v, F] w fun e w' => ∃ v', e = .returned v' ∧ KOwn w' 0 v' (kf p ks) ∧ v'.ownBlock = v.ownBlock ∧ Tn (fun k => v.ownBlock = some k) w w' ∧ (∃ a c, v' = .slice a (kf p ks).length c) := by
  rcases h.shape with ⟨rfl, rfl⟩ | ⟨g, cap, rfl⟩
  · refine (zkdel_nil F w).mono ?_
    rintro _ w' ⟨rfl, rfl⟩
    exact ⟨_, rfl, ⟨rfl, Or.inl ⟨rfl, rfl⟩⟩, rfl, Tn.refl _ _, none, 0, rfl⟩
  · have hown := h.own
    have hkw := kown_kw hown
    refine (zkdel_row g 0 ks.length cap ks F p w hkw (fun k hk => ⟨h.each k hk, fun b hb e => h.apart k hk b hb (Or.inr (by rw [e]; rfl))⟩) (by have := h.most; omega) (hF.mono (fun k e => by have e' : k = g := e; exact Or.inr (by rw [e']; rfl))) rfl).mono ?_
    rintro _ w' ⟨rfl, hk⟩
    refine ⟨_, rfl, kw_kown hk (Nat.zero_le _), rfl, ⟨hk.tn.os, hk.tn.tape, hk.tn.output, hk.tn.size, fun i hi hn => hk.tn.block i hi (fun e => hn (by have e' : i = g := e; rw [e']; rfl))⟩, _, _, rfl⟩
theorem kf_sub {p : KpM → Prop} {D : List KpM} {k : KpM} (h : k ∈ kf p D) : k ∈ D := (List.mem_filter.1 h).1
theorem kf_len (p : KpM → Prop) (D : List KpM) : (kf p D).length ≤ D.length := List.length_filter_le _ _
def LvE (w : World) (sb : Nat) (v : Value) (ks : List KpM) (p : KpM → Prop) (e : Ending) (w' : World) : Prop :=
  e = .returned (.int .i64 ((ks.length : Int) - ((kf p ks).length : Int))) ∧ ∃ v', StM w' sb v' (kf p ks) ∧ Tn (StS sb v) w w' ∧ ∀ k, StS sb v' k → StS sb v k
set_option maxHeartbeats 1000000 in
theorem zleave_any (sb : Nat) (v : Value) (ks : List KpM) (F : Value) (p : KpM → Prop) (w : World) (h : StM w sb v ks) (hF : PrdK w (StS sb v) F p) :
    Calls Tryz.prog 17 #[.pointer (some ⟨sb, 0, none⟩), F] w fun e w' => LvE w sb v ks p e w' := by
  have HD := vl (zkdel_st sb v ks F p w h hF)
  have c0 := h.cell
  have H := vl h
  have hm := h.most
  have hkl := kf_len p ks
  obtain ⟨va, vn, vc, hv⟩ : ∃ a n c, v = .slice a n c := by
    rcases h.shape with ⟨e, _⟩ | ⟨g, cap, e⟩
    · exact ⟨_, _, _, e⟩
    · exact ⟨_, _, _, e⟩
  have hvn : vn = ks.length := by
    rcases h.shape with ⟨e, e2⟩ | ⟨g, cap, e⟩
    · rw [hv] at e; cases e; rw [e2]; rfl
    · rw [hv] at e; cases e; rfl
  have hvm : vn ≤ 21 := by omega
  have hvk : (kf p ks).length ≤ vn := by omega
  have HV := vl hv
  have HVN := vl hvn
  rw [hv] at HD c0
  clear h hF hv hvn
  go_enter Tryz.func17, Tryz.ntmps17
  go_wp2_with fail
  refine HD.out.mono ?_
  rintro _ w1 ⟨v', rfl, hO1, hOB, hT1, a1, k1, hv1⟩
  have hne : ¬ (Value.slice va vn vc).ownBlock = some sb := by rw [← HV.out]; exact H.out.self
  have hbx : w1.heap[sb]? = some (.cells #[.slice va vn vc] 57 (0, 0)) := by
    rw [← HV.out]; exact (hT1.block sb H.out.lt (by rw [← HV.out]; exact H.out.self)).trans H.out.box
  have c1 : w1.cell? ⟨sb, 0, none⟩ = some (.slice va vn vc) := by rw [cell_of_row _ _ _ _ _ _ hbx]; rfl
  have f1 : ∀ j, w1.frozen? ⟨sb, j, none⟩ = false := fun j => frozen_of_row w1 sb j _ _ hbx
  obtain ⟨W2, hW2⟩ : ∃ x, w1.setCell ⟨sb, 0, none⟩ v' = x := ⟨_, rfl⟩
  have hb2 : W2.heap[sb]? = some (.cells #[v'] 57 (0, 0)) := by rw [← hW2]; exact heap_setCell_same w1 sb 0 _ _ _ hbx
  have c2 : W2.cell? ⟨sb, 0, none⟩ = some v' := by rw [cell_of_row _ _ _ _ _ _ hb2]; rfl
  have hTS : Tn (fun k => k = sb) w1 W2 := by rw [← hW2]; exact tn_set rfl
  have hSS : ∀ k, StS sb v' k → StS sb v k := by
    rintro k (e | e)
    · exact Or.inl e
    · exact Or.inr (by rw [HV.out, ← hOB]; exact e)
  have HT2 : Vl (Tn (StS sb v) w W2) := vl (Tn.trans' ⟨hT1.os, hT1.tape, hT1.output, hT1.size, fun i hi hn => hT1.block i hi (fun e => hn (Or.inr (by rw [HV.out]; exact e)))⟩ ⟨hTS.os, hTS.tape, hTS.output, hTS.size, fun i hi hn => hTS.block i hi (fun e => hn (Or.inl e))⟩)
  have HST : Vl (StM W2 sb v' (kf p ks)) := vl ⟨hb2, kown_tn hO1 hTS (fun k hk e => by have e' : k = sb := e; subst e'; rw [hOB] at hk; exact hne hk), fun k hk => (H.out.each k (kf_sub hk)).tn HT2.out (H.out.apart k (kf_sub hk)), fun k hk b hb hs => H.out.apart k (kf_sub hk) b hb (hSS b hs), by rw [hOB]; exact hne, by omega⟩
  have HSS := vl hSS
  subst hv1
  clear hO1 hOB hT1 hne hbx hb2 hTS hSS HD c0
  go_wp2_with fail
  clear hW2 c1 f1
  go_ret
  exact ⟨by rw [HVN.out]; rfl, _, HST.out, HT2.out, HSS.out⟩
/- the closures -/
/-- No package variable is turned. -/
def OffG (S : Nat → Prop) : Prop := ∀ k, S k → 9 ≤ k
theorem mxP.tn {S : Nat → Prop} {w w' : World} (h : mxP w) (ht : Tn S w w') (hS : OffG S) : mxP w' := by
  obtain ⟨m, hm⟩ := h
  exact ⟨m, ht.cell hm (fun e => by have := hS _ e; omega)⟩
theorem QOk.tn {S : Nat → Prop} {w w' : World} (h : QOk w) (ht : Tn S w w') (hS : OffG S) : QOk w' := by
  refine ⟨h.mx.tn ht hS, ⟨⟨?_, ?_⟩, ?_⟩⟩
  · exact ht.cell (show w.cell? ⟨6, 15, none⟩ = some (.int .u8 4) from h.ld.1.1) (fun e => by have := hS _ e; omega)
  · have h := h.ld.1.2
    have hgn : Tryz.prog.globalNamed "internal/strconv.uint64pow10" = some 4 := by kernel_rfl
    unfold Lib.TabIs World.var? at h ⊢
    rw [hgn] at h ⊢
    simp only [Option.bind_some] at h ⊢
    have hlt : 4 < w.heap.size := by
      rcases Nat.lt_or_ge 4 w.heap.size with h' | h'
      · exact h'
      · rw [Array.getElem?_eq_none h'] at h; cases h
    rw [ht.block 4 hlt (fun e => by have := hS _ e; omega)]
    exact h
  · obtain ⟨⟨t, p, h1⟩, ⟨t2, p2, h2⟩⟩ := h.ld.2
    exact ⟨⟨t, p, ht.cell h1 (fun e => by have := hS _ e; omega)⟩, ⟨t2, p2, ht.cell h2 (fun e => by have := hS _ e; omega)⟩⟩
/-- The blocks that a request's rows lie in. -/
def RqB (q : RqM) (b : Nat) : Prop := (∃ p, q.fa = some p ∧ p.block = b ∧ 0 < q.fn) ∨ (∃ p, q.ba = some p ∧ p.block = b ∧ 0 < q.bn)
theorem RqIn.tn {S : Nat → Prop} {w w' : World} {q : RqM} (h : RqIn w q) (ht : Tn S w w') (hn : ∀ b, RqB q b → ¬ S b) : RqIn w' q :=
  ⟨farg_tn h.fields ht (fun p hp h0 => hn _ (Or.inl ⟨p, hp, rfl, h0⟩)), arg_tn h.body ht (fun p hp h0 => hn _ (Or.inr ⟨p, hp, rfl, h0⟩)), h.nil, h.most, h.texts, h.each⟩
def RpB (q : RpM) (b : Nat) : Prop := (∃ p, q.fa = some p ∧ p.block = b ∧ 0 < q.fn) ∨ (∃ p, q.ba = some p ∧ p.block = b ∧ 0 < q.bn)
theorem RpIn.tn {S : Nat → Prop} {w w' : World} {q : RpM} (h : RpIn w q) (ht : Tn S w w') (hn : ∀ b, RpB q b → ¬ S b) : RpIn w' q :=
  ⟨h.code, farg_tn h.fields ht (fun p hp h0 => hn _ (Or.inl ⟨p, hp, rfl, h0⟩)), arg_tn h.body ht (fun p hp h0 => hn _ (Or.inr ⟨p, hp, rfl, h0⟩)), h.nil, h.most, h.each⟩
theorem RqIn.lt {w : World} {q : RqM} (h : RqIn w q) {b : Nat} (hb : RqB q b) : b < w.heap.size := by
  rcases hb with ⟨p, hp, rfl, h0⟩ | ⟨p, hp, rfl, h0⟩
  · rcases h.fields with ⟨e, _⟩ | ⟨g, off, e, hr⟩
    · omega
    · rw [hp] at e; cases e; exact blk_of_cell (hr.hname 0 h0)
  · rcases h.body with ⟨e, _⟩ | ⟨g, off, e, hr⟩
    · omega
    · rw [hp] at e; cases e; exact blk_of_cell (hr.hcell 0 h0)
theorem RpIn.lt {w : World} {q : RpM} (h : RpIn w q) {b : Nat} (hb : RpB q b) : b < w.heap.size := by
  rcases hb with ⟨p, hp, rfl, h0⟩ | ⟨p, hp, rfl, h0⟩
  · rcases h.fields with ⟨e, _⟩ | ⟨g, off, e, hr⟩
    · omega
    · rw [hp] at e; cases e; exact blk_of_cell (hr.hname 0 h0)
  · rcases h.body with ⟨e, _⟩ | ⟨g, off, e, hr⟩
    · omega
    · rw [hp] at e; cases e; exact blk_of_cell (hr.hcell 0 h0)
theorem QBx.tn {S : Nat → Prop} {W W' : World} {n : Nat} {q : RqM} (h : QBx W n q) (ht : Tn S W W') (hn : ¬ S n) : QBx W' n q :=
  ⟨ht.cell h.c0 hn, ht.cell h.c1 hn, ht.cell h.c2 hn, ht.cell h.c3 hn, ht.cell h.c4 hn⟩
set_option maxHeartbeats 2000000 in
theorem zput1_any (k : KpM) (q : RqM) (rb : Nat) (w : World) (hk : KpIn w k) (hq : RqIn w q) (hqs : RqS q) (hm : QOk w) (hb : QBx w rb q) :
    Calls Tryz.prog 18 (#[k.val] ++ #[.pointer (some ⟨rb, 0, none⟩)]) w fun e w' => BoolIs (fitP k q) e ∧ Below w.heap.size w w' := by
  obtain ⟨W1, hW1⟩ : ∃ x, w.alloc (.cells #[.string k.host, .string k.path, .slice k.va k.vn k.vc, .int .i64 k.rp.code, .slice k.rp.fa k.rp.fn k.rp.fc, .slice k.rp.ba k.rp.bn k.rp.bc, .int .i64 k.at_] 63) = x := ⟨_, rfl⟩
  have hB1 : Below w.heap.size w W1 := by rw [← hW1]; exact (Below.refl _ w).alloc (Nat.le_refl _) _
  have hKB : KBx W1 w.heap.size k := KBx.of (t := 63) (by rw [← hW1]; exact heap_alloc_new w _)
  have HFI := vl (zfits_any k q W1 (hk.below hB1) (hq.below hB1) hqs (hm.below hB1))
  unfold KpM.val RqM.val at HFI
  obtain ⟨d0, d1, d2, d3, d4⟩ := hb.below hB1
  obtain ⟨c0, c1, c2, c3, c4, c5, c6⟩ := hKB
  have HB1 := vl hB1
  clear hk hq hqs hm hb hB1
  show Calls Tryz.prog 18 #[.agg #[.string k.host, .string k.path, .slice k.va k.vn k.vc, .int .i64 k.rp.code, .slice k.rp.fa k.rp.fn k.rp.fc, .slice k.rp.ba k.rp.bn k.rp.bc, .int .i64 k.at_], .pointer (some ⟨rb, 0, none⟩)] w _
  obtain ⟨PR, hPR⟩ : ∃ P : Prop, P = fitP k q := ⟨_, rfl⟩
  rw [← hPR] at HFI ⊢
  clear hPR
  obtain ⟨kh, kp, va, vn, vc, ⟨rc, rfa, rfn, rfc, rba, rbn, rbc, RFL, RB⟩, ka, KV, L0⟩ := k
  obtain ⟨qm, qp, qh, qfa, qfn, qfc, qba, qbn, qbc, QFL, QB⟩ := q
  dsimp only at c0 c1 c2 c3 c4 c5 c6 d0 d1 d2 d3 d4 HFI hW1 ⊢
  go_enter Tryz.func18, Tryz.ntmps18
  go_wp2_with fail
  clear hW1 c0 c1 c2 c3 c4 c5 c6 d0 d1 d2 d3 d4
  refine HFI.out.mono ?_
  rintro _ w2 ⟨⟨b, rfl, hbb⟩, hb2⟩
  have HB2 : Vl (Below w.heap.size w w2) := vl (HB1.out.trans (hb2.mono HB1.out.size))
  have HBB := vl hbb
  clear hb2 hbb HFI
  go_wp2_with fail
  go_ret
  exact ⟨⟨b, rfl, HBB.out⟩, HB2.out⟩
theorem prd_fit {w : World} {S : Nat → Prop} {rb : Nat} {q : RqM} (hq : RqIn w q) (hqs : RqS q) (hm : QOk w) (hb : QBx w rb q) (hS : OffG S) (hr : ¬ S rb) (hqb : ∀ b, RqB q b → ¬ S b) : PrdK w S (.func (.func 18) #[] #[.pointer (some ⟨rb, 0, none⟩)]) (fun k => fitP k q) :=
  ⟨18, _, rfl, enters_of Tryz.func18 (by kernel_rfl) rfl, fun W k hT hk => zput1_any k q rb W hk (hq.tn hT hqb) hqs (hm.tn hT hS) (hb.tn hT hr)⟩
theorem zdrop1_any (k : KpM) (s : ByteArray) (rb : Nat) (w : World) (hc : w.cell? ⟨rb, 0, none⟩ = some (.string s)) :
    Calls Tryz.prog 23 (#[k.val] ++ #[.pointer (some ⟨rb, 0, none⟩)]) w fun e w' => BoolIs (unums k.path = unums s) e ∧ Below w.heap.size w w' := by
  obtain ⟨W1, hW1⟩ : ∃ x, w.alloc (.cells #[.string k.host, .string k.path, .slice k.va k.vn k.vc, .int .i64 k.rp.code, .slice k.rp.fa k.rp.fn k.rp.fc, .slice k.rp.ba k.rp.bn k.rp.bc, .int .i64 k.at_] 63) = x := ⟨_, rfl⟩
  have hB1 : Below w.heap.size w W1 := by rw [← hW1]; exact (Below.refl _ w).alloc (Nat.le_refl _) _
  have hKB : KBx W1 w.heap.size k := KBx.of (t := 63) (by rw [← hW1]; exact heap_alloc_new w _)
  have c1 := hKB.c1
  have d1 : W1.cell? ⟨rb, 0, none⟩ = some (.string s) := (hB1.cell (p := ⟨rb, 0, none⟩) (blk_of_cell hc)).trans hc
  have HB1 := vl hB1
  have HE : Vl ((k.path.toList == s.toList) = true ↔ unums k.path = unums s) := vl (by rw [beq_iff_eq]; exact un_list)
  obtain ⟨b, hb⟩ : ∃ b, (k.path.toList == s.toList) = b := ⟨_, rfl⟩
  rw [hb] at HE
  clear hB1 hKB hc
  show Calls Tryz.prog 23 #[.agg #[.string k.host, .string k.path, .slice k.va k.vn k.vc, .int .i64 k.rp.code, .slice k.rp.fa k.rp.fn k.rp.fc, .slice k.rp.ba k.rp.bn k.rp.bc, .int .i64 k.at_], .pointer (some ⟨rb, 0, none⟩)] w _
  go_enter Tryz.func23, Tryz.ntmps23
  go_wp2_with fail
  go_ret
  exact ⟨⟨b, rfl, HE.out⟩, HB1.out⟩
theorem prd_path {w : World} {S : Nat → Prop} {rb : Nat} {s : ByteArray} (hc : w.cell? ⟨rb, 0, none⟩ = some (.string s)) (hr : ¬ S rb) : PrdK w S (.func (.func 23) #[] #[.pointer (some ⟨rb, 0, none⟩)]) (fun k => unums k.path = unums s) :=
  ⟨23, _, rfl, enters_of Tryz.func23 (by kernel_rfl) rfl, fun W k hT _ => zdrop1_any k s rb W (hT.cell hc hr)⟩
theorem sts_lt {w : World} {sb : Nat} {v : Value} {ks : List KpM} (h : StM w sb v ks) {k : Nat} (hk : StS sb v k) : k < w.heap.size := by
  rcases hk with rfl | e
  · exact h.lt
  · exact (h.own.lt k e).2
theorem zdrop_any (sb : Nat) (v : Value) (ks : List KpM) (s : ByteArray) (w : World) (h : StM w sb v ks) :
    Calls Tryz.prog 8 #[.pointer (some ⟨sb, 0, none⟩), .string s] w fun e w' => LvE w sb v ks (fun k => unums k.path = unums s) e w' := by
  obtain ⟨W1, hW1⟩ : ∃ x, w.alloc (.cells #[.string s] 9) = x := ⟨_, rfl⟩
  have hB1 : Below w.heap.size w W1 := by rw [← hW1]; exact (Below.refl _ w).alloc (Nat.le_refl _) _
  have hc : W1.cell? ⟨w.heap.size, 0, none⟩ = some (.string s) := by
    rw [cell_of_row _ _ _ _ _ _ (show W1.heap[w.heap.size]? = some (.cells #[.string s] 9 (0, 0)) by rw [← hW1]; exact heap_alloc_new w _)]; rfl
  have h1 := h.below hB1
  have HLV := vl (zleave_any sb v ks _ _ W1 h1 (prd_path (S := StS sb v) hc (fun e => by have := sts_lt h e; omega)))
  have HB1 := vl hB1
  clear h h1 hB1 hc
  go_enter Tryz.func8, Tryz.ntmps8
  go_wp2_with fail
  clear hW1
  refine HLV.out.mono ?_
  rintro _ w2 ⟨rfl, v', hS, hT, hSS⟩
  have HF : Vl (∃ v', StM w2 sb v' (kf (fun k => unums k.path = unums s) ks) ∧ Tn (StS sb v) w w2 ∧ ∀ k, StS sb v' k → StS sb v k) := vl ⟨v', hS, (Tn.of_below HB1.out).trans' hT, hSS⟩
  clear hS hT hSS HLV
  go_wp2_with fail
  go_ret
  exact ⟨rfl, HF.out⟩
theorem zlen_any (sb : Nat) (v : Value) (ks : List KpM) (w : World) (h : StM w sb v ks) :
    Calls Tryz.prog 12 #[.pointer (some ⟨sb, 0, none⟩)] w fun e w' => e = .returned (.int .i64 (ks.length : Nat)) ∧ w = w' := by
  have c0 := h.cell
  obtain ⟨va, vn, vc, hv, hn⟩ : ∃ a n c, v = .slice a n c ∧ n = ks.length := by
    rcases h.shape with ⟨e, e2⟩ | ⟨g, cap, e⟩
    · exact ⟨_, _, _, e, by rw [e2]; rfl⟩
    · exact ⟨_, _, _, e, rfl⟩
  rw [hv] at c0
  have HN := vl hn
  clear h hv hn
  go_enter Tryz.func12, Tryz.ntmps12
  go_wp2
  go_ret
  exact ⟨by rw [← HN.out]; rfl, rfl⟩
theorem znew_any (w : World) : Calls Tryz.prog 4 #[] w fun e w' => e = .returned (.pointer (some ⟨w.heap.size, 0, none⟩)) ∧ StM w' w.heap.size (.slice none 0 0) [] ∧ w' = w.alloc (.cells #[.slice none 0 0] 57) := by
  go_enter Tryz.func4, Tryz.ntmps4
  go_wp2
  go_ret
  exact ⟨rfl, ⟨heap_alloc_new w _, ⟨rfl, Or.inl ⟨rfl, rfl⟩⟩, (fun k hk => by cases hk), (fun k hk => by cases hk), (by simp [Value.ownBlock]), (by simp)⟩, rfl⟩
end Go.Proofs.YtibipnipeaeonaaGreatDoor
