/-
  A LOOP OVER AN ITERATOR THAT WRITES A VARIABLE OF ITS OWN BETWEEN TWO ROUNDS: what such an iterator owes (SeqBx2), and how its caller is walked. No claim by itself.
-/
import Derived.RangeFuncNested
import Derived.RangeFuncBound
import Derived.RangeFuncCalls
import Derived.RangeFuncLeaves
import Derived.Stop.RegionWithIn
import Derived.Test.YtibipnipeaeonaaGreatDoorWbox2
import Derived.Test.YtibipnipeaeonaaGreatDoorMF
import Derived.Test.YtibipnipeaeonaaGreatDoorZy2X
namespace Go.Proofs.YtibipnipeaeonaaGreatDoor
open Go Go.RowKit
variable {F : Fence} {n : Nat} {P : Program}
theorem wpIn_range_bx3 {α : Type} {g : Operand} {ps : Array Tmp} {assign body : Code} {Q : Exit → Act → World → Prop} {a : Act} {w : World}
    (hro : F.round = none) (h1 : 1 ≤ n) {gf : Nat} {lb : Array Value} (hg : a.eval g = .func (.func gf) #[] lb) (hFg : F.fn gf) (eg : ∀ args w, (callFunc gf args).run P w = .ok (.enter gf args) w)
    {encs : α → Array Value} {b : Nat} {K : Nat → Prop} {S Sp : List α → Prop} {N : Nat} {w0 : World} (hseq : SeqBx2 F (n - 1) P gf lb encs b K S Sp N w0) (hbw : b < w.heap.size) (hKw : ∀ k, K k → k < w.heap.size) (hb0 : Below w0.heap.size w0 w) (hps : ∀ x, (encs x).size = ps.size)
    (I : List α → World → Prop) (Ix : Code → List α → World → Prop) (hIb : ∀ pre v W1, I pre W1 → I pre (W1.setCell ⟨b, 0, none⟩ v)) (hI : OwnFrom w.heap.size I) (hIx : ∀ c, OwnFrom w.heap.size (Ix c)) (h0 : I [] w) (Ax : α → Act → World → Prop) (hAx : ∀ x a', OwnFrom w.heap.size (fun (_ : Unit) W => Ax x a' W))
    (hassign : ∀ (l : Nat) (pre : List α) (x : α) (W : World) (K' : Act → World → Prop), I pre W → w.heap.size + 2 ≤ W.heap.size → (∀ a' W', KeepsFrom w.heap.size W W' → (∀ k, K k → W'.heap[k]? = W.heap[k]?) → I pre W' → Ax x a' W' → K' a' W') →
      assign.wpIn (F.inRound l) (n - 1 - 1) P (Exit.then K' (fun _ _ _ => False)) { tmps := (ps.zip (encs x)).foldl (fun t (p, v) => t.setIfInBounds p v) a.tmps, defers := [] } W)
    (hbody : ∀ (l : Nat) (pre : List α) (x : α) (a' : Act) (W : World), I pre W → Ax x a' W → pre.length < N → w.heap.size + 2 ≤ W.heap.size → body.wpIn (F.inRound l) (n - 1 - 1) P (ownPostG w.heap.size (fun X Y => ∀ k, K k → Y.heap[k]? = X.heap[k]?) I Ix (pre ++ [x]) W) a' W)
    (hdone : ∀ (D : Nat) (xs : List α) (W : World), w.heap.size ≤ D → S xs → I xs W → W.heap[D]? = some (.deferred (some [])) → Q .normal { a with defers := { target := .collected D, args := #[] } :: a.defers } W)
    (hstop : ∀ (D : Nat) (c : Code) (pre : List α) (W : World), w.heap.size ≤ D → Sp pre → Ix c pre W → W.heap[D]? = some (.deferred (some [])) → c.wpIn F n P Q { a with defers := { target := .collected D, args := #[] } :: a.defers } W) :
    (Code.rangeFunc g ps assign body).wpIn F n P Q a w := by
  refine wpIn_rangeFunc ?_
  intro fn hfn
  rw [hro]
  obtain ⟨R, hR⟩ : ∃ R : LoopState → Option Code → Loop, R = fun st pe => { state := st, pending := pe, fn, tmps := a.tmps, params := ps, assign, body, defers := w.heap.size } := ⟨_, rfl⟩
  obtain ⟨W1, hW1⟩ : ∃ W1, (w.alloc (.deferred (some []))).alloc (.loop (R .ready none)) = W1 := ⟨_, rfl⟩
  have hs1 : W1.heap.size = w.heap.size + 2 := by rw [← hW1]; simp
  have kL : W1.heap[w.heap.size + 1]? = some (.loop (R .ready none)) := by
    rw [← hW1]; have := World.alloc_heap_new (w.alloc (.deferred (some []))) (.loop (R .ready none)); rwa [World.size_alloc] at this
  have kD : W1.heap[w.heap.size]? = some (.deferred (some [])) := by
    rw [← hW1]; exact (Below.heap_alloc _ _ _ (by simp)).trans (World.alloc_heap_new w _)
  have kI : I [] W1 := by rw [← hW1]; exact hI.alloc _ (hI.alloc _ h0)
  have kB : Below w0.heap.size w0 W1 := by
    rw [← hW1]; exact hb0.trans ((((Below.refl _ w).alloc (Nat.le_refl _) _).alloc (by simp) _).mono hb0.size)
  have eIn : (Instr.enterLoop fn a.tmps ps assign body none).run P w = .ok (w.heap.size + 1, [{ target := .collected w.heap.size, args := #[] }]) W1 := by rw [← hW1, hR]; exact run_enterLoop_outer _ _ _ _ _
  refine ⟨w.heap.size + 1, [{ target := .collected w.heap.size, args := #[] }], W1, { target := .fn (.func gf) lb, args := #[.func (.yield (w.heap.size + 1)) #[] #[]] }, W1, gf,
    #[.func (.yield (w.heap.size + 1)) #[] #[]] ++ lb, W1, eIn, ?r1, ?r2, ?r3, fun _ => h1, ?r4⟩
  case r1 => simp only [resolve, hg]; simp [go_sem]
  case r2 => intro f' hf'; simp [Target.leads] at hf'; subst hf'; exact hFg
  case r3 => simp [invoke, go_sem, eg]
  case r4 =>
    have own2 : ∀ {X : World} {row : Option Nat}, (∀ r, row = some r → W1.heap.size ≤ r ∧ ∃ o : Obj, X.heap[r]? = some o ∧ o.isCells = false) → (∀ r, row = some r → w.heap.size ≤ r ∧ ∃ o : Obj, X.heap[r]? = some o ∧ o.isCells = false) :=
      fun h r e => ⟨by have := (h r e).1; omega, (h r e).2⟩
    refine (hseq (w.heap.size + 1)
      (fun pre W => I pre W ∧ W.heap[w.heap.size + 1]? = some (.loop (R .ready none)) ∧ W.heap[w.heap.size]? = some (.deferred (some [])))
      (fun pre W => ∃ c, Ix c pre W ∧ W.heap[w.heap.size + 1]? = some (.loop (R .done (some c))) ∧ W.heap[w.heap.size]? = some (.deferred (some [])))
      W1 kB ?j1 ?j2 ?jb ?rounds ⟨kI, kL, kD⟩).mono ?after
    case j1 =>
      rintro s X Y row ⟨q1, q2, q3⟩ hg' hr
      exact ⟨hI s X Y row q1 hg' (own2 hr), under_kept hg' (fun r e => (hr r e).1) (by omega) q2, under_kept hg' (fun r e => (hr r e).1) (by omega) q3⟩
    case j2 =>
      rintro s X Y row ⟨c, q1, q2, q3⟩ hg' hr
      exact ⟨c, hIx c s X Y row q1 hg' (own2 hr), under_kept hg' (fun r e => (hr r e).1) (by omega) q2, under_kept hg' (fun r e => (hr r e).1) (by omega) q3⟩
    case jb =>
      rintro pre v X ⟨q1, q2, q3⟩
      exact ⟨hIb pre v X q1, (Below.heap_setCell _ _ _ _ (by show w.heap.size + 1 ≠ b; omega)).trans q2, (Below.heap_setCell _ _ _ _ (by show w.heap.size ≠ b; omega)).trans q3⟩
    case after =>
      rintro e W2 ⟨⟨v, rfl⟩, (⟨xs, hS, hi, hl, hk⟩ | ⟨pre, hSp, c, hi, hl, hk⟩)⟩
      · have hend := run_endLoop (P := P) hl (by rw [hR]; simp)
        rw [hR] at hend
        exact ⟨none, _, hend, hdone _ xs _ (Nat.le_refl _) hS (hI.putObj _ hi (by omega) hl rfl) ((World.putObj_heap_other (by omega)).trans hk)⟩
      · have hend := run_endLoop (P := P) hl (by rw [hR]; simp)
        rw [hR] at hend
        exact ⟨some c, _, hend, hstop _ c pre _ (Nat.le_refl _) hSp ((hIx c).putObj _ hi (by omega) hl rfl) ((World.putObj_heap_other (by omega)).trans hk)⟩
    case rounds =>
      rintro pre x Wy ⟨hi, hl, hk⟩ hlen hsz
      have hlt : w.heap.size + 1 < Wy.heap.size := by omega
      have hy := run_yield (P := P) (args := encs x) hl (by rw [hR]; exact hps x)
      rw [hR] at hy
      refine ⟨fn, _, assign, body, hy, roundIn_of_wpIn hfn (hassign _ pre x Wy _ hi (by omega) ?_)⟩
      clear hy
      intro a' W hka hkb hia hax
      replace hl := hka.same _ _ (by omega) hl rfl
      replace hk := hka.same _ _ (by omega) hk rfl
      replace hsz := Nat.le_trans hsz hka.size
      replace hlt := Nat.lt_of_lt_of_le hlt hka.size
      obtain ⟨Wb, hWb⟩ : ∃ Wb, W.putObj (w.heap.size + 1) (.loop { R .ready none with state := .busy }) = Wb := ⟨_, rfl⟩
      have eB : (Instr.beginRound (w.heap.size + 1)).run P W = .ok () Wb := by rw [← hWb]; exact run_beginRound hl (by rw [hR])
      have lB : Wb.heap[w.heap.size + 1]? = some (.loop { R .ready none with state := .busy }) := by rw [← hWb]; exact World.putObj_heap_same hlt
      have dB : Wb.heap[w.heap.size]? = some (.deferred (some [])) := by rw [← hWb]; exact (World.putObj_heap_other (by omega)).trans hk
      have iB : I pre Wb := by rw [← hWb]; exact hI.putObj _ hia (by omega) hl rfl
      have xB : Ax x a' Wb := by rw [← hWb]; exact (hAx x a').putObj (s := ()) _ hax (by omega) hl rfl
      have bB : ∀ k, K k → Wb.heap[k]? = Wy.heap[k]? := fun k hk => by rw [← hWb]; exact (World.putObj_heap_other (by have := hKw k hk; omega)).trans (hkb k hk)
      have fB : KeepsFrom W1.heap.size Wy Wb := by rw [← hWb]; exact (keepsFrom_mono hka (by omega)).trans (keepsFrom_put _ _ (by omega))
      have zB : w.heap.size + 2 ≤ Wb.heap.size := by rw [← hWb]; simp; omega
      refine ⟨Wb, eB, wpIn_mono (hbody _ pre x a' Wb iB xB hlen zB) ?_⟩
      have fin : ∀ (jump : Option Code) (W3 : World), KeepsFrom w.heap.size Wb W3 →
          ∃ W4, W4 = W3.putObj (w.heap.size + 1) (.loop (R (if jump.isNone then .ready else .done) jump)) ∧ (Instr.endRound (w.heap.size + 1) jump).run P W3 = .ok (.bool jump.isNone) W4 ∧
          W3.heap[w.heap.size + 1]? = some (.loop { R .ready none with state := .busy }) ∧
          W4.heap[w.heap.size + 1]? = some (.loop (R (if jump.isNone then .ready else .done) jump)) ∧ W4.heap[w.heap.size]? = some (.deferred (some [])) ∧ KeepsFrom W1.heap.size Wy W4 := fun jump W3 hk3 => by
        have l3 := hk3.same _ _ (by omega) lB rfl
        have d3 := hk3.same _ _ (Nat.le_refl _) dB rfl
        have hend := run_endRound (P := P) jump l3
        rw [hR] at hend
        refine ⟨_, rfl, ?_, l3, World.putObj_heap_same (Array.getElem?_eq_some_iff.1 l3).1, (World.putObj_heap_other (by omega)).trans d3, fB.trans ((keepsFrom_mono hk3 (by omega)).trans (keepsFrom_put _ _ (by omega)))⟩
        rw [hR]; exact hend
      rintro e a3 W3 hp
      cases e with
      | normal =>
        obtain ⟨hk3, hkp3, hi3⟩ := hp
        obtain ⟨W4, e4, hr, hl3, hl4, hk4, hf4⟩ := fin none W3 hk3
        refine ⟨_, _, hr, .inl ⟨rfl, ⟨?_, hl4, hk4⟩, ?_, hf4.size⟩⟩
        · rw [e4]; exact hI.putObj _ hi3 (by omega) hl3 rfl
        · rw [e4]; exact fun k hk => (World.putObj_heap_other (by have := hKw k hk; omega)).trans ((hkp3 k hk).trans (bB k hk))
      | ret =>
        obtain ⟨hk3, hi3⟩ := hp
        obtain ⟨W4, e4, hr, hl3, hl4, hk4, hf4⟩ := fin (some .ret) W3 hk3
        exact ⟨_, _, hr, .inr ⟨rfl, ⟨.ret, by rw [e4]; exact (hIx _).putObj _ hi3 (by omega) hl3 rfl, hl4, hk4⟩⟩⟩
      | exit id =>
        obtain ⟨hk3, hi3⟩ := hp
        obtain ⟨W4, e4, hr, hl3, hl4, hk4, hf4⟩ := fin (some (.exit id)) W3 hk3
        exact ⟨_, _, hr, .inr ⟨rfl, ⟨.exit id, by rw [e4]; exact (hIx _).putObj _ hi3 (by omega) hl3 rfl, hl4, hk4⟩⟩⟩
      | goto t =>
        obtain ⟨hk3, hi3⟩ := hp
        obtain ⟨W4, e4, hr, hl3, hl4, hk4, hf4⟩ := fin (some (.goto t)) W3 hk3
        exact ⟨_, _, hr, .inr ⟨rfl, ⟨.goto t, by rw [e4]; exact (hIx _).putObj _ hi3 (by omega) hl3 rfl, hl4, hk4⟩⟩⟩
      | panic ch => exact hp.elim
      | outgrown => exact hp.elim
end Go.Proofs.YtibipnipeaeonaaGreatDoor
/-
  WHAT WAS ANSWERED: slices.Backward at kept replies. No claim by itself.
-/
namespace Go.Proofs.YtibipnipeaeonaaGreatDoor
open Go Go.RowKit Go.Shelf
set_option maxRecDepth 100000
attribute [local go_sem] Oper.semAt_some
theorem zback_any (v : Value) (w : World) (hv : ∃ a n c, v = .slice a n c) : Calls Tryz.prog 24 #[v] w fun e w' => e = .returned (.func (.func 38) #[] #[.pointer (some ⟨w.heap.size, 0, none⟩)]) ∧ w' = w.alloc (.cells #[v] 55) := by
  obtain ⟨a, n, c, rfl⟩ := hv
  go_enter Tryz.func24, Tryz.ntmps24
  go_wp2
  go_ret
  exact ⟨rfl, rfl⟩
/-- A kept reply at its place. -/
abbrev Bk (D : List KpM) := { x : Nat × KpM // x.1 < D.length ∧ x.2 = D.getD x.1 kz }
def bkV {D : List KpM} (x : Bk D) : Array Value := #[.int .i64 (x.1.1 : Nat), x.1.2.val]
/-- The places from the last one on. -/
def BkI (D : List KpM) (pre : List (Bk D)) : Prop := pre.length ≤ D.length ∧ ∀ i, i < pre.length → ∃ x, pre[i]? = some x ∧ x.1.1 = D.length - 1 - i
theorem BkI.snoc {D : List KpM} {pre : List (Bk D)} {x : Bk D} (h : BkI D pre) (hx : x.1.1 + pre.length + 1 = D.length) : BkI D (pre ++ [x]) := by
  refine ⟨by rw [List.length_append]; simp; omega, fun i hi => ?_⟩
  by_cases e : i < pre.length
  · obtain ⟨y, h1, h2⟩ := h.2 i e
    exact ⟨y, by rw [List.getElem?_append_left e]; exact h1, h2⟩
  · have ei : i = pre.length := by rw [List.length_append] at hi; simp at hi; omega
    subst ei
    exact ⟨x, by simp, by omega⟩
set_option maxHeartbeats 4000000 in
theorem back_stops (n : Nat) (hn : 1 ≤ n) (v : Value) (D : List KpM) (b : Nat) (w : World) (hbx : Boxed w b 55 v) (hown : KOwn w 0 v D) (hl : D.length ≤ 21) :
    SeqBx2 Fence.wide n Tryz.prog 38 #[.pointer (some ⟨b, 0, none⟩)] (bkV (D := D)) b (fun k => k = b ∨ v.ownBlock = some k) (fun xs => BkI D xs ∧ xs.length = D.length) (BkI D) (D.length + 1) w := by
  intro l J Jx W hBW _hJ _hJx _hJb hY h0
  have HY := vl hY
  have H0 := vl h0
  have HBX : Vl (Boxed W b 55 v) := vl ((hBW.block b hbx.lt).trans hbx)
  have HOW : Vl (KOwn W 0 v D) := vl (kown_tn (S := fun _ => False) hown (Tn.of_below hBW) (fun _ _ e => e))
  clear hBW hY h0 hbx hown
  obtain ⟨va, vc, hv⟩ : ∃ a c, v = .slice a D.length c := by
    rcases HOW.out.2 with ⟨e, h0⟩ | ⟨g, cap, _, e, _⟩
    · exact ⟨_, _, by rw [e, h0]⟩
    · exact ⟨_, _, e⟩
  have HVV := vl hv
  have cS : W.cell? ⟨b, 0, none⟩ = some (.slice va D.length vc) := by rw [HBX.out.cell, hv]
  clear hv
  refine callsIn_of_wp Tryz.func38 rfl trivial ?_ rfl
  simp only [Tryz.ntmps38, List.size_toArray, List.length_cons, List.length_nil, Nat.reduceAdd, Nat.reduceSub, Array.replicate_succ, Array.replicate_zero, List.push_toArray, List.append_toArray, List.nil_append, List.cons_append]
  gi_wp2
  clear cS
  gi_loopw [3] (fun iv wr => ∃ pre : List (Bk D), iv = .int .i64 ((D.length : Int) - 1 - (pre.length : Int)) ∧ pre.length ≤ D.length ∧ Vl (BkI D pre) ∧ Vl (J pre wr) ∧ Vl (W.heap.size ≤ wr.heap.size) ∧ Vl (Boxed wr b 55 v) ∧ Vl (KOwn wr 0 v D)) (fun iv _ => (intOf iv + 1).toNat)
  case atStart => exact ⟨[], by simp, Nat.zero_le _, vl ⟨by simp, fun i hi => by simp at hi⟩, H0, vl (Nat.le_refl _), HBX, HOW⟩
  case round =>
    obtain ⟨pre, rfl, hpl, HBK, HJ1, HS, HB, HO⟩ := hrel
    by_cases hlt : pre.length < D.length
    · obtain ⟨i, hi⟩ : ∃ i, i + pre.length + 1 = D.length := ⟨D.length - 1 - pre.length, by omega⟩
      have ei : (D.length : Int) - 1 - (pre.length : Int) = (i : Int) := by omega
      rw [ei]
      have hge : (0 : Int) ≤ (i : Int) := by omega
      have hid : i < D.length := by omega
      have hid' : (i : Int) < (D.length : Int) := by omega
      obtain ⟨g, cap, hvg⟩ : ∃ g cap, v = .slice (some ⟨g, 0, none⟩) D.length cap := by
        rcases HO.out.2 with ⟨e, h0⟩ | ⟨g, cap, _, e, _⟩
        · omega
        · exact ⟨g, cap, e⟩
      have cB : wr.cell? ⟨b, 0, none⟩ = some (.slice (some ⟨g, 0, none⟩) D.length cap) := by rw [HB.out.cell, hvg]
      have hrow := (kown_kw (by have := HO.out; rw [hvg] at this; exact this)).row
      have hcap := hrow.hcap
      obtain ⟨c0, c1, c2, c3, c4, c5, c6⟩ := hrow.hc i hid
      rw [show 0 + i * 7 = i * 7 by omega] at c0 c1 c2 c3 c4 c5 c6
      obtain ⟨X, hX⟩ : ∃ X : Bk D, X.1 = (i, D.getD i kz) := ⟨⟨(i, D.getD i kz), hid, rfl⟩, rfl⟩
      obtain ⟨fn, tmps, assign, body, hy, hR⟩ := HY.out pre X wr HJ1.out (by omega) HS.out
      have HBN := vl (HBK.out.snoc (x := X) (by rw [hX]; exact hi))
      have hpx : bkV X = #[.int .i64 (i : Nat), (D.getD i kz).val] := by unfold bkV; rw [hX]
      rw [hpx] at hy
      obtain ⟨kk, hkk⟩ : ∃ kk, D.getD i kz = kk := ⟨_, rfl⟩
      rw [hkk] at hy c0 c1 c2 c3 c4 c5 c6
      unfold KpM.val at hy
      have HR := vl hR
      have HVG := vl hvg
      have HII := vl hi
      clear hpx hR hX hkk hrow hvg ei hi
      gi_wp2_with fail
      clear hy
      refine HR.out.mono ?_
      rintro e W5 (⟨rfl, hJ5, hk5, hs5⟩ | ⟨rfl, hJ5⟩)
      · have HJ5 := vl hJ5
        have HB5 : Vl (Boxed W5 b 55 v) := vl ((hk5 b (Or.inl rfl)).trans HB.out)
        have HO5 : Vl (KOwn W5 0 v D) := vl (by
          obtain ⟨h1, h2⟩ := HO.out
          refine ⟨h1, ?_⟩
          rcases h2 with h2 | ⟨g', cap', cur, e, q1, q2, q3⟩
          · exact Or.inl h2
          · exact Or.inr ⟨g', cap', cur, e, q1, (hk5 g' (Or.inr (by rw [e]; rfl))).trans q2, q3⟩)
        have HS5 : Vl (W.heap.size ≤ W5.heap.size) := vl (Nat.le_trans HS.out hs5)
        clear hJ5 hk5 hs5 c0 c1 c2 c3 c4 c5 c6 cB
        gi_wp2_with fail
        go_roundw
        case rel => exact ⟨pre ++ [X], by rw [List.length_append]; have := HII.out; congr 1; simp; omega, by rw [List.length_append]; simp; omega, HBN, HJ5, HS5, HB5, HO5⟩
        case measure => simp [intOf]
      · have HJ5 := vl hJ5
        clear hJ5
        gi_wp2_with fail
        refine bodyPost_ret (results_none rfl _ _ _) rfl ?_
        exact ⟨⟨_, rfl⟩, Or.inr ⟨_, HBN.out, HJ5.out⟩⟩
    · have hpe : pre.length = D.length := by omega
      have ei : (D.length : Int) - 1 - (pre.length : Int) = -1 := by omega
      rw [ei]
      have HPE := vl hpe
      clear ei hpe
      gi_wp2_with fail
      go_end0
      exact ⟨⟨_, rfl⟩, Or.inl ⟨pre, ⟨HBK.out, HPE.out⟩, HJ1.out⟩⟩
end Go.Proofs.YtibipnipeaeonaaGreatDoor
