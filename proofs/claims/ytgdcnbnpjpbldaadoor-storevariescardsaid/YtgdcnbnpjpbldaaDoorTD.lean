/-
  A LOOP OVER AN ITERATOR THAT WRITES A VARIABLE OF ITS OWN BETWEEN TWO ROUNDS: what such an iterator owes (SeqBx2), and how its caller is walked. No claim by itself.
-/
import Derived.RangeFuncNested
import Derived.RangeFuncBound
import Derived.RangeFuncCalls
import Derived.RangeFuncLeaves
import Derived.Stop.RegionWithIn
import Derived.Deep.RegionLaw
import Derived.Deep.AppendLies
import Derived.Deep.DeepCutAuto
import Derived.Deep.CutRange
import Derived.Test.YtgdcnbnpjpbldaaDoorWbox2
import Derived.Test.YtgdcnbnpjpbldaaDoorTC
import Derived.Test.YtgdcnbnpjpbldaaDoorZy2
namespace Go.Proofs.YtgdcnbnpjpbldaaDoor
open Go Go.RowKit
variable {F : Fence} {n : Nat} {P : Program}
theorem wpIn_range_bx3 {α : Type} {g : Operand} {ps : Array Tmp} {assign body : Code} {Q : Exit → Act → World → Prop} {a : Act} {w : World}
    (hro : F.round = none) (h1 : 1 ≤ n) {gf : Nat} {lb : Array Value} (hg : a.eval g = .func (.func gf) #[] lb) (hFg : F.fn gf) (eg : ∀ args w, (callFunc gf args).run P w = .ok (.enter gf args) w)
    {encs : α → Array Value} {b : Nat} {K : Nat → Prop} {S Sp : List α → Prop} {N : Nat} {w0 : World} (hseq : SeqBx2 F (n - 1) P gf lb encs b K S Sp N w0) (hbw : b < w.heap.size) (hKw : ∀ k, K k → k < w.heap.size) (hb0 : Below w0.heap.size w0 w) (hps : ∀ x, (encs x).size = ps.size)
    (I : List α → World → Prop) (Ix : Code → List α → World → Prop) (hIb : ∀ pre v W1, I pre W1 → I pre (W1.setCell ⟨b, 0, none⟩ v)) (hI : OwnFrom w.heap.size I) (hIx : ∀ c, OwnFrom w.heap.size (Ix c)) (h0 : I [] w) (Ax : α → Act → World → Prop) (hAx : ∀ x a', OwnFrom w.heap.size (fun (_ : Unit) W => Ax x a' W))
    (hassign : ∀ (l : Nat) (pre : List α) (x : α) (W : World) (K' : Act → World → Prop), I pre W → w.heap.size + 2 ≤ W.heap.size → (∀ a' W', KeepsFrom w.heap.size W W' → (∀ k, K k → W'.heap[k]? = W.heap[k]?) → I pre W' → Ax x a' W' → K' a' W') →
      assign.wpIn (F.inRound l) (n - 1 - 1) P (Exit.then K' (fun _ _ _ => False)) { tmps := (ps.zip (encs x)).foldl (fun t (p, v) => t.setIfInBounds p v) a.tmps, defers := [] } W)
    (hbody : ∀ (l : Nat) (pre : List α) (x : α) (a' : Act) (W : World), I pre W → Ax x a' W → pre.length < N → w.heap.size + 2 ≤ W.heap.size → body.wpIn (F.inRound l) (n - 1 - 1) P (ownPostG w.heap.size (fun X Y => ∀ k, K k → Y.heap[k]? = X.heap[k]?) I Ix (pre ++ [x]) W) a' W)
    (hdone : ∀ (D : Nat) (xs : List α) (W : World), w.heap.size ≤ D → S xs → I xs W → W.heap[D]? = some (.deferred (some [])) → Q .normal { a with defers := { target := .collected D, args := #[] } :: a.defers } W)
    (hstop : ∀ (D : Nat) (c : Code) (pre : List α) (W : World), w.heap.size ≤ D → Sp pre → Ix c pre W → W.heap[D]? = some (.deferred (some [])) → c.wpIn F n P Q { a with defers := { target := .collected D, args := #[] } :: a.defers } W) :
    (Code.rangeFunc g ps assign body).wpIn F n P Q a w := by
  refine wpIn_rangeFunc ?_
  intro fn hfn
  rw [hro]
  obtain ⟨R, hR⟩ : ∃ R : LoopState → Option Code → Loop, R = fun st pe => { state := st, pending := pe, fn, tmps := a.tmps, params := ps, assign, body, defers := w.heap.size } := ⟨_, rfl⟩
  obtain ⟨W1, hW1⟩ : ∃ W1, (w.alloc (.deferred (some []))).alloc (.loop (R .ready none)) = W1 := ⟨_, rfl⟩
  have hs1 : W1.heap.size = w.heap.size + 2 := by rw [← hW1]; simp
  have kL : W1.heap[w.heap.size + 1]? = some (.loop (R .ready none)) := by
    rw [← hW1]; have := World.alloc_heap_new (w.alloc (.deferred (some []))) (.loop (R .ready none)); rwa [World.size_alloc] at this
  have kD : W1.heap[w.heap.size]? = some (.deferred (some [])) := by
    rw [← hW1]; exact (Below.heap_alloc _ _ _ (by simp)).trans (World.alloc_heap_new w _)
  have kI : I [] W1 := by rw [← hW1]; exact hI.alloc _ (hI.alloc _ h0)
  have kB : Below w0.heap.size w0 W1 := by
    rw [← hW1]; exact hb0.trans ((((Below.refl _ w).alloc (Nat.le_refl _) _).alloc (by simp) _).mono hb0.size)
  have eIn : (Instr.enterLoop fn a.tmps ps assign body none).run P w = .ok (w.heap.size + 1, [{ target := .collected w.heap.size, args := #[] }]) W1 := by rw [← hW1, hR]; exact run_enterLoop_outer _ _ _ _ _
  refine ⟨w.heap.size + 1, [{ target := .collected w.heap.size, args := #[] }], W1, { target := .fn (.func gf) lb, args := #[.func (.yield (w.heap.size + 1)) #[] #[]] }, W1, gf,
    #[.func (.yield (w.heap.size + 1)) #[] #[]] ++ lb, W1, eIn, ?r1, ?r2, ?r3, fun _ => h1, ?r4⟩
  case r1 => simp only [resolve, hg]; simp [go_sem]
  case r2 => intro f' hf'; simp [Target.leads] at hf'; subst hf'; exact hFg
  case r3 => simp [invoke, go_sem, eg]
  case r4 =>
    have own2 : ∀ {X : World} {row : Option Nat}, (∀ r, row = some r → W1.heap.size ≤ r ∧ ∃ o : Obj, X.heap[r]? = some o ∧ o.isCells = false) → (∀ r, row = some r → w.heap.size ≤ r ∧ ∃ o : Obj, X.heap[r]? = some o ∧ o.isCells = false) :=
      fun h r e => ⟨by have := (h r e).1; omega, (h r e).2⟩
    refine (hseq (w.heap.size + 1)
      (fun pre W => I pre W ∧ W.heap[w.heap.size + 1]? = some (.loop (R .ready none)) ∧ W.heap[w.heap.size]? = some (.deferred (some [])))
      (fun pre W => ∃ c, Ix c pre W ∧ W.heap[w.heap.size + 1]? = some (.loop (R .done (some c))) ∧ W.heap[w.heap.size]? = some (.deferred (some [])))
      W1 kB ?j1 ?j2 ?jb ?rounds ⟨kI, kL, kD⟩).mono ?after
    case j1 =>
      rintro s X Y row ⟨q1, q2, q3⟩ hg' hr
      exact ⟨hI s X Y row q1 hg' (own2 hr), under_kept hg' (fun r e => (hr r e).1) (by omega) q2, under_kept hg' (fun r e => (hr r e).1) (by omega) q3⟩
    case j2 =>
      rintro s X Y row ⟨c, q1, q2, q3⟩ hg' hr
      exact ⟨c, hIx c s X Y row q1 hg' (own2 hr), under_kept hg' (fun r e => (hr r e).1) (by omega) q2, under_kept hg' (fun r e => (hr r e).1) (by omega) q3⟩
    case jb =>
      rintro pre v X ⟨q1, q2, q3⟩
      exact ⟨hIb pre v X q1, (Below.heap_setCell _ _ _ _ (by show w.heap.size + 1 ≠ b; omega)).trans q2, (Below.heap_setCell _ _ _ _ (by show w.heap.size ≠ b; omega)).trans q3⟩
    case after =>
      rintro e W2 ⟨⟨v, rfl⟩, (⟨xs, hS, hi, hl, hk⟩ | ⟨pre, hSp, c, hi, hl, hk⟩)⟩
      · have hend := run_endLoop (P := P) hl (by rw [hR]; simp)
        rw [hR] at hend
        exact ⟨none, _, hend, hdone _ xs _ (Nat.le_refl _) hS (hI.putObj _ hi (by omega) hl rfl) ((World.putObj_heap_other (by omega)).trans hk)⟩
      · have hend := run_endLoop (P := P) hl (by rw [hR]; simp)
        rw [hR] at hend
        exact ⟨some c, _, hend, hstop _ c pre _ (Nat.le_refl _) hSp ((hIx c).putObj _ hi (by omega) hl rfl) ((World.putObj_heap_other (by omega)).trans hk)⟩
    case rounds =>
      rintro pre x Wy ⟨hi, hl, hk⟩ hlen hsz
      have hlt : w.heap.size + 1 < Wy.heap.size := by omega
      have hy := run_yield (P := P) (args := encs x) hl (by rw [hR]; exact hps x)
      rw [hR] at hy
      refine ⟨fn, _, assign, body, hy, roundIn_of_wpIn hfn (hassign _ pre x Wy _ hi (by omega) ?_)⟩
      clear hy
      intro a' W hka hkb hia hax
      replace hl := hka.same _ _ (by omega) hl rfl
      replace hk := hka.same _ _ (by omega) hk rfl
      replace hsz := Nat.le_trans hsz hka.size
      replace hlt := Nat.lt_of_lt_of_le hlt hka.size
      obtain ⟨Wb, hWb⟩ : ∃ Wb, W.putObj (w.heap.size + 1) (.loop { R .ready none with state := .busy }) = Wb := ⟨_, rfl⟩
      have eB : (Instr.beginRound (w.heap.size + 1)).run P W = .ok () Wb := by rw [← hWb]; exact run_beginRound hl (by rw [hR])
      have lB : Wb.heap[w.heap.size + 1]? = some (.loop { R .ready none with state := .busy }) := by rw [← hWb]; exact World.putObj_heap_same hlt
      have dB : Wb.heap[w.heap.size]? = some (.deferred (some [])) := by rw [← hWb]; exact (World.putObj_heap_other (by omega)).trans hk
      have iB : I pre Wb := by rw [← hWb]; exact hI.putObj _ hia (by omega) hl rfl
      have xB : Ax x a' Wb := by rw [← hWb]; exact (hAx x a').putObj (s := ()) _ hax (by omega) hl rfl
      have bB : ∀ k, K k → Wb.heap[k]? = Wy.heap[k]? := fun k hk => by rw [← hWb]; exact (World.putObj_heap_other (by have := hKw k hk; omega)).trans (hkb k hk)
      have fB : KeepsFrom W1.heap.size Wy Wb := by rw [← hWb]; exact (keepsFrom_mono hka (by omega)).trans (keepsFrom_put _ _ (by omega))
      have zB : w.heap.size + 2 ≤ Wb.heap.size := by rw [← hWb]; simp; omega
      refine ⟨Wb, eB, wpIn_mono (hbody _ pre x a' Wb iB xB hlen zB) ?_⟩
      have fin : ∀ (jump : Option Code) (W3 : World), KeepsFrom w.heap.size Wb W3 →
          ∃ W4, W4 = W3.putObj (w.heap.size + 1) (.loop (R (if jump.isNone then .ready else .done) jump)) ∧ (Instr.endRound (w.heap.size + 1) jump).run P W3 = .ok (.bool jump.isNone) W4 ∧
          W3.heap[w.heap.size + 1]? = some (.loop { R .ready none with state := .busy }) ∧
          W4.heap[w.heap.size + 1]? = some (.loop (R (if jump.isNone then .ready else .done) jump)) ∧ W4.heap[w.heap.size]? = some (.deferred (some [])) ∧ KeepsFrom W1.heap.size Wy W4 := fun jump W3 hk3 => by
        have l3 := hk3.same _ _ (by omega) lB rfl
        have d3 := hk3.same _ _ (Nat.le_refl _) dB rfl
        have hend := run_endRound (P := P) jump l3
        rw [hR] at hend
        refine ⟨_, rfl, ?_, l3, World.putObj_heap_same (Array.getElem?_eq_some_iff.1 l3).1, (World.putObj_heap_other (by omega)).trans d3, fB.trans ((keepsFrom_mono hk3 (by omega)).trans (keepsFrom_put _ _ (by omega)))⟩
        rw [hR]; exact hend
      rintro e a3 W3 hp
      cases e with
      | normal =>
        obtain ⟨hk3, hkp3, hi3⟩ := hp
        obtain ⟨W4, e4, hr, hl3, hl4, hk4, hf4⟩ := fin none W3 hk3
        refine ⟨_, _, hr, .inl ⟨rfl, ⟨?_, hl4, hk4⟩, ?_, hf4.size⟩⟩
        · rw [e4]; exact hI.putObj _ hi3 (by omega) hl3 rfl
        · rw [e4]; exact fun k hk => (World.putObj_heap_other (by have := hKw k hk; omega)).trans ((hkp3 k hk).trans (bB k hk))
      | ret =>
        obtain ⟨hk3, hi3⟩ := hp
        obtain ⟨W4, e4, hr, hl3, hl4, hk4, hf4⟩ := fin (some .ret) W3 hk3
        exact ⟨_, _, hr, .inr ⟨rfl, ⟨.ret, by rw [e4]; exact (hIx _).putObj _ hi3 (by omega) hl3 rfl, hl4, hk4⟩⟩⟩
      | exit id =>
        obtain ⟨hk3, hi3⟩ := hp
        obtain ⟨W4, e4, hr, hl3, hl4, hk4, hf4⟩ := fin (some (.exit id)) W3 hk3
        exact ⟨_, _, hr, .inr ⟨rfl, ⟨.exit id, by rw [e4]; exact (hIx _).putObj _ hi3 (by omega) hl3 rfl, hl4, hk4⟩⟩⟩
      | goto t =>
        obtain ⟨hk3, hi3⟩ := hp
        obtain ⟨W4, e4, hr, hl3, hl4, hk4, hf4⟩ := fin (some (.goto t)) W3 hk3
        exact ⟨_, _, hr, .inr ⟨rfl, ⟨.goto t, by rw [e4]; exact (hIx _).putObj _ hi3 (by omega) hl3 rfl, hl4, hk4⟩⟩⟩
      | panic ch => exact hp.elim
      | outgrown => exact hp.elim
end Go.Proofs.YtgdcnbnpjpbldaaDoor
/-
  WHAT WAS ANSWERED: slices.Backward at kept replies. No claim by itself.
-/
namespace Go.Proofs.YtgdcnbnpjpbldaaDoor
open Go Go.RowKit Go.Shelf
set_option maxRecDepth 100000
attribute [local go_sem] Oper.semAt_some
theorem zback_any (v : Value) (w : World) (hv : ∃ a n c, v = .slice a n c) : Calls Tryd.prog 22 #[v] w fun e w' => e = .returned (.func (.func 36) #[] #[.pointer (some ⟨w.heap.size, 0, none⟩)]) ∧ w' = w.alloc (.cells #[v] 52) := by
  obtain ⟨a, n, c, rfl⟩ := hv
  go_enter Tryd.func22, Tryd.ntmps22
  go_wp2
  go_ret
  exact ⟨rfl, rfl⟩
/-- A kept reply at its place. -/
abbrev Bk (D : List KpM) := { x : Nat × KpM // x.1 < D.length ∧ x.2 = D.getD x.1 kz }
def bkV {D : List KpM} (x : Bk D) : Array Value := #[.int .i64 (x.1.1 : Nat), x.1.2.val]
/-- The places from the last one on. -/
def BkI (D : List KpM) (pre : List (Bk D)) : Prop := pre.length ≤ D.length ∧ ∀ i, i < pre.length → ∃ x, pre[i]? = some x ∧ x.1.1 = D.length - 1 - i
theorem BkI.snoc {D : List KpM} {pre : List (Bk D)} {x : Bk D} (h : BkI D pre) (hx : x.1.1 + pre.length + 1 = D.length) : BkI D (pre ++ [x]) := by
  refine ⟨by rw [List.length_append]; simp; omega, fun i hi => ?_⟩
  by_cases e : i < pre.length
  · obtain ⟨y, h1, h2⟩ := h.2 i e
    exact ⟨y, by rw [List.getElem?_append_left e]; exact h1, h2⟩
  · have ei : i = pre.length := by rw [List.length_append] at hi; simp at hi; omega
    subst ei
    exact ⟨x, by simp, by omega⟩
set_option maxHeartbeats 4000000 in
theorem back_stops (n : Nat) (hn : 1 ≤ n) (v : Value) (D : List KpM) (b : Nat) (w : World) (hbx : Boxed w b 52 v) (hown : KOwn w 0 v D) (hl : D.length ≤ 21) :
    SeqBx2 Fence.wide n Tryd.prog 36 #[.pointer (some ⟨b, 0, none⟩)] (bkV (D := D)) b (fun k => k = b ∨ v.ownBlock = some k) (fun xs => BkI D xs ∧ xs.length = D.length) (BkI D) (D.length + 1) w := by
  intro l J Jx W hBW _hJ _hJx _hJb hY h0
  have HY := vl hY
  have H0 := vl h0
  have HBX : Vl (Boxed W b 52 v) := vl ((hBW.block b hbx.lt).trans hbx)
  have HOW : Vl (KOwn W 0 v D) := vl (kown_tn (S := fun _ => False) hown (Tn.of_below hBW) (fun _ _ e => e))
  clear hBW hY h0 hbx hown
  obtain ⟨va, vc, hv⟩ : ∃ a c, v = .slice a D.length c := by
    rcases HOW.out.2 with ⟨e, h0⟩ | ⟨g, cap, _, e, _⟩
    · exact ⟨_, _, by rw [e, h0]⟩
    · exact ⟨_, _, e⟩
  have HVV := vl hv
  have cS : W.cell? ⟨b, 0, none⟩ = some (.slice va D.length vc) := by rw [HBX.out.cell, hv]
  clear hv
  refine callsIn_of_wp Tryd.func36 rfl trivial ?_ rfl
  simp only [Tryd.ntmps36, List.size_toArray, List.length_cons, List.length_nil, Nat.reduceAdd, Nat.reduceSub, Array.replicate_succ, Array.replicate_zero, List.push_toArray, List.append_toArray, List.nil_append, List.cons_append]
  gi_wp2
  clear cS
  gi_loopw [3] (fun iv wr => ∃ pre : List (Bk D), iv = .int .i64 ((D.length : Int) - 1 - (pre.length : Int)) ∧ pre.length ≤ D.length ∧ Vl (BkI D pre) ∧ Vl (J pre wr) ∧ Vl (W.heap.size ≤ wr.heap.size) ∧ Vl (Boxed wr b 52 v) ∧ Vl (KOwn wr 0 v D)) (fun iv _ => (intOf iv + 1).toNat)
  case atStart => exact ⟨[], by simp, Nat.zero_le _, vl ⟨by simp, fun i hi => by simp at hi⟩, H0, vl (Nat.le_refl _), HBX, HOW⟩
  case round =>
    obtain ⟨pre, rfl, hpl, HBK, HJ1, HS, HB, HO⟩ := hrel
    by_cases hlt : pre.length < D.length
    · obtain ⟨i, hi⟩ : ∃ i, i + pre.length + 1 = D.length := ⟨D.length - 1 - pre.length, by omega⟩
      have ei : (D.length : Int) - 1 - (pre.length : Int) = (i : Int) := by omega
      rw [ei]
      have hge : (0 : Int) ≤ (i : Int) := by omega
      have hid : i < D.length := by omega
      have hid' : (i : Int) < (D.length : Int) := by omega
      obtain ⟨g, cap, hvg⟩ : ∃ g cap, v = .slice (some ⟨g, 0, none⟩) D.length cap := by
        rcases HO.out.2 with ⟨e, h0⟩ | ⟨g, cap, _, e, _⟩
        · omega
        · exact ⟨g, cap, e⟩
      have cB : wr.cell? ⟨b, 0, none⟩ = some (.slice (some ⟨g, 0, none⟩) D.length cap) := by rw [HB.out.cell, hvg]
      have hrow := (kown_kw (by have := HO.out; rw [hvg] at this; exact this)).row
      have hcap := hrow.hcap
      obtain ⟨c0, c1, c2, c3, c4, c5, c6⟩ := hrow.hc i hid
      rw [show 0 + i * 7 = i * 7 by omega] at c0 c1 c2 c3 c4 c5 c6
      obtain ⟨X, hX⟩ : ∃ X : Bk D, X.1 = (i, D.getD i kz) := ⟨⟨(i, D.getD i kz), hid, rfl⟩, rfl⟩
      obtain ⟨fn, tmps, assign, body, hy, hR⟩ := HY.out pre X wr HJ1.out (by omega) HS.out
      have HBN := vl (HBK.out.snoc (x := X) (by rw [hX]; exact hi))
      have hpx : bkV X = #[.int .i64 (i : Nat), (D.getD i kz).val] := by unfold bkV; rw [hX]
      rw [hpx] at hy
      obtain ⟨kk, hkk⟩ : ∃ kk, D.getD i kz = kk := ⟨_, rfl⟩
      rw [hkk] at hy c0 c1 c2 c3 c4 c5 c6
      unfold KpM.val at hy
      have HR := vl hR
      have HVG := vl hvg
      have HII := vl hi
      clear hpx hR hX hkk hrow hvg ei hi
      gi_wp2_with fail
      clear hy
      refine HR.out.mono ?_
      rintro e W5 (⟨rfl, hJ5, hk5, hs5⟩ | ⟨rfl, hJ5⟩)
      · have HJ5 := vl hJ5
        have HB5 : Vl (Boxed W5 b 52 v) := vl ((hk5 b (Or.inl rfl)).trans HB.out)
        have HO5 : Vl (KOwn W5 0 v D) := vl (by
          obtain ⟨h1, h2⟩ := HO.out
          refine ⟨h1, ?_⟩
          rcases h2 with h2 | ⟨g', cap', cur, e, q1, q2, q3⟩
          · exact Or.inl h2
          · exact Or.inr ⟨g', cap', cur, e, q1, (hk5 g' (Or.inr (by rw [e]; rfl))).trans q2, q3⟩)
        have HS5 : Vl (W.heap.size ≤ W5.heap.size) := vl (Nat.le_trans HS.out hs5)
        clear hJ5 hk5 hs5 c0 c1 c2 c3 c4 c5 c6 cB
        gi_wp2_with fail
        go_roundw
        case rel => exact ⟨pre ++ [X], by rw [List.length_append]; have := HII.out; congr 1; simp; omega, by rw [List.length_append]; simp; omega, HBN, HJ5, HS5, HB5, HO5⟩
        case measure => simp [intOf]
      · have HJ5 := vl hJ5
        clear hJ5
        gi_wp2_with fail
        refine bodyPost_ret (results_none rfl _ _ _) rfl ?_
        exact ⟨⟨_, rfl⟩, Or.inr ⟨_, HBN.out, HJ5.out⟩⟩
    · have hpe : pre.length = D.length := by omega
      have ei : (D.length : Int) - 1 - (pre.length : Int) = -1 := by omega
      rw [ei]
      have HPE := vl hpe
      clear ei hpe
      gi_wp2_with fail
      go_end0
      exact ⟨⟨_, rfl⟩, Or.inl ⟨pre, ⟨HBK.out, HPE.out⟩, HJ1.out⟩⟩
end Go.Proofs.YtgdcnbnpjpbldaaDoor
/-
  WHAT WAS ANSWERED: the developers' Put, where a reply is kept. No claim by itself.
-/
namespace Go.Proofs.YtgdcnbnpjpbldaaDoor
open Go Go.RowKit
set_option maxRecDepth 100000
def getN : List Int := [71, 69, 84]
theorem PBx.tn {S : Nat → Prop} {W W' : World} {n : Nat} {q : RpM} (h : PBx W n q) (ht : Tn S W W') (hn : ¬ S n) : PBx W' n q :=
  ⟨ht.cell h.c0 hn, ht.cell h.c1 hn, ht.cell h.c2 hn⟩
theorem k_info : (Tryd.prog.info? 58).map (fun i => (i.zero, i.size, i.bytes)) = some (some (.agg #[.string ⟨#[]⟩, .string ⟨#[]⟩, .slice none 0 0, .int .i64 0, .slice none 0 0, .slice none 0 0, .int .i64 0]), 7, 120) := by kernel_rfl
/-- Append of one kept reply, inside a region that draws its order. -/
theorem step_kapp {ops : Array Oper} {o : Oper} {a : Act} {K : Act → World → Prop} {Q : Exit → Act → World → Prop} {E : Prop} (w4 : World) (k : KpM) (hgd : o.guard = none) (s x : Operand)
    (ho : o.op = .call { callee := .builtin .append, args := #[s, x], argTypes := #[52, 52] }) (v : Value) (D : List KpM) (hs : a.eval s = v) (hown : KOwn w4 0 v D)
    (hx : a.eval x = .slice (some ⟨w4.heap.size, 0, none⟩) 1 1) (hlen : D.length ≤ 4294967296)
    (h : ∀ g cap w', KOwn w' 0 (.slice (some ⟨g, 0, none⟩) (D.length + 1) cap) (D ++ [k]) → (w4.alloc (.cells #[.string k.host, .string k.path, .slice k.va k.vn k.vc, .int .i64 k.rp.code, .slice k.rp.fa k.rp.fn k.rp.fc, .slice k.rp.ba k.rp.bn k.rp.bc, .int .i64 k.at_] 58)).grownBy w' v.ownBlock → (v.ownBlock = some g ∨ g = w4.heap.size + 1) → K (a.put o.dst (.slice (some ⟨g, 0, none⟩) (D.length + 1) cap)) w') :
    if Region.wanted o (yielded ops a.tmps) = true then Oper.wp Tryd.prog o a (w4.alloc (.cells #[.string k.host, .string k.path, .slice k.va k.vn k.vc, .int .i64 k.rp.code, .slice k.rp.fa k.rp.fn k.rp.fc, .slice k.rp.ba k.rp.bn k.rp.bc, .int .i64 k.at_] 58)) K Q else E := by
  obtain ⟨i0, hi, hz0, hz1, hz2⟩ := info_parts k_info
  refine step_append_lies _ hgd s x 52 ho 0 58 i0 (.agg #[.string ⟨#[]⟩, .string ⟨#[]⟩, .slice none 0 0, .int .i64 0, .slice none 0 0, .slice none 0 0, .int .i64 0]) 7 120 Tryd.underlying52 hi hz0 hz1 hz2 rfl (by decide) v D.length (kcells D) hs (hown.alloc _) ⟨w4.heap.size, 0, none⟩ 1 1 k.cells hx rfl ?_ ?_ (by decide) (by unfold maxLen; omega) (by omega) (Nat.zero_le _) (w4.heap.size + 1) (by simp) ?_
  · intro j u hj
    have hh := heap_alloc_new w4 (.cells #[.string k.host, .string k.path, .slice k.va k.vn k.vc, .int .i64 k.rp.code, .slice k.rp.fa k.rp.fn k.rp.fc, .slice k.rp.ba k.rp.bn k.rp.bc, .int .i64 k.at_] 58 (0, 0))
    rw [n_add, cell_of_row _ _ _ _ _ _ hh, Nat.zero_add]
    unfold KpM.cells at hj
    simpa using hj
  · intro u hu
    simp only [KpM.cells, List.mem_cons, List.not_mem_nil, or_false] at hu
    rcases hu with rfl | rfl | rfl | rfl | rfl | rfl | rfl <;> rfl
  · intro g cap w' h1 h2 h3 _
    refine h g cap w' ?_ h2 h3
    show World.ownsRow _ _ _ _ _ _ _
    rw [show (D ++ [k]).length = D.length + 1 by simp, kcells_app, show kcells [k] = k.cells by simp [kcells]]
    exact h1
def PutY (w : World) (sb : Nat) (v : Value) (ks : List KpM) (q : RqM) (a : RpM) (now : Int) (w' : World) : Prop :=
  ∃ v' k, StM w' sb v' (kf (fun k => fitP k q) ks ++ [k]) ∧ KeptOf w q a now k ∧ Tn (StS sb v) w w' ∧ ∀ b, StS sb v' b → StS sb v b ∨ w.heap.size ≤ b
theorem put_fin {w w3 w4 w5 : World} {sb : Nat} {v v3 : Value} {ks : List KpM} {q : RqM} {a : RpM} {now : Int} {k : KpM} {o : Obj} {g5 c5 : Nat} (hS3 : StM w3 sb v3 (kf (fun k => fitP k q) ks)) (hT3 : Tn (StS sb v) w w3) (hSS : ∀ b, StS sb v3 b → StS sb v b)
    (hK : KpIn w4 k) (hO : KeptOf w3.drew q a now k) (hb4 : Below w3.drew.heap.size w3.drew w4) (ho5 : KOwn w5 0 (.slice (some ⟨g5, 0, none⟩) ((kf (fun k => fitP k q) ks).length + 1) c5) (kf (fun k => fitP k q) ks ++ [k])) (hg5 : (w4.alloc o).grownBy w5 v3.ownBlock) (hw5 : v3.ownBlock = some g5 ∨ g5 = w4.heap.size + 1) (hlow : (kf (fun k => fitP k q) ks).length < 21) :
    PutY w sb v ks q a now (w5.setCell ⟨sb, 0, none⟩ (.slice (some ⟨g5, 0, none⟩) ((kf (fun k => fitP k q) ks).length + 1) c5)) := by
  have hb4' : Below w3.heap.size w3 w4 := ((Below.refl _ w3).drew).trans (hb4.mono (Nat.le_refl _))
  have hlt := hS3.lt
  have hsz4 : w3.heap.size ≤ w4.heap.size := hb4'.size
  have hT45 : Tn (StS sb v3) w3 w5 := by
    refine ⟨hg5.os.trans hb4'.os, hg5.tape.trans hb4'.tape, hg5.output.trans hb4'.output, Nat.le_trans hsz4 (Nat.le_trans (by simp) hg5.size), fun i hi hn => ?_⟩
    exact (hg5.block i (by rw [World.size_alloc]; omega) (fun e => hn (Or.inr e.symm))).trans ((Below.heap_alloc _ _ _ (by omega)).trans (hb4'.block i hi))
  have hbx5 : w5.heap[sb]? = some (.cells #[v3] 54 (0, 0)) := (hg5.block sb (by rw [World.size_alloc]; omega) (fun e => hS3.self e.symm)).trans ((Below.heap_alloc _ _ _ (by omega)).trans ((hb4'.block sb hlt).trans hS3.box))
  have hgne : g5 ≠ sb := by
    rcases hw5 with e | e
    · exact fun h => hS3.self (by rw [← h]; exact e)
    · omega
  obtain ⟨W6, hW6⟩ : ∃ x, w5.setCell ⟨sb, 0, none⟩ (.slice (some ⟨g5, 0, none⟩) ((kf (fun k => fitP k q) ks).length + 1) c5) = x := ⟨_, rfl⟩
  have hT56 : Tn (fun k => k = sb) w5 W6 := by rw [← hW6]; exact tn_set rfl
  have hbx6 : W6.heap[sb]? = some (.cells #[.slice (some ⟨g5, 0, none⟩) ((kf (fun k => fitP k q) ks).length + 1) c5] 54 (0, 0)) := by rw [← hW6]; exact heap_setCell_same w5 sb 0 _ _ _ hbx5
  have hT36 : Tn (StS sb v3) w3 W6 := hT45.trans' ⟨hT56.os, hT56.tape, hT56.output, hT56.size, fun i hi hn => hT56.block i hi (fun e => hn (Or.inl e))⟩
  have hKn : ∀ b, KpB k b → w3.heap.size ≤ b ∧ b < w4.heap.size := fun b hb => ⟨hO.new b hb, hK.lt hb⟩
  have hrow : ∀ b, v3.ownBlock = some b → b < w3.heap.size := fun b hb => (hS3.own.lt b hb).2
  rw [hW6]
  refine ⟨_, k, ⟨hbx6, ?_, fun k' hk' => ?_, fun k' hk' b hb => ?_, fun e => hgne (Option.some.inj e), by simp; omega⟩, ⟨hO.host, hO.path, ⟨hO.rep.code, hO.rep.fn, hO.rep.bn, hO.rep.FL, hO.rep.B, fun p hp => Nat.le_trans hT3.size (hO.rep.newF p hp), fun p hp => Nat.le_trans hT3.size (hO.rep.newB p hp)⟩, hO.at_, hO.L0, fun b hb => Nat.le_trans hT3.size (hO.new b hb)⟩, hT3.trans' ⟨hT36.os, hT36.tape, hT36.output, hT36.size, fun i hi hn => hT36.block i hi (fun e => hn (hSS i e))⟩, fun b hb => ?_⟩
  · have := kown_tn ho5 hT56 (fun j hj e => hgne ((Option.some.inj hj).trans e))
    show World.ownsRow _ _ _ _ _ _ _
    exact this
  · rcases List.mem_append.1 hk' with h | h
    · exact (hS3.each k' h).tn hT36 (hS3.apart k' h)
    · rw [List.mem_singleton.1 h]
      refine KpIn.blk hK (fun b hb => ?_)
      obtain ⟨h1, h2⟩ := hKn b hb
      exact (hT56.block b (Nat.lt_of_lt_of_le h2 (Nat.le_trans (by simp) hg5.size)) (fun e => by have e' : b = sb := e; omega)).trans ((hg5.block b (by rw [World.size_alloc]; omega) (fun e => by have := hrow b e.symm; omega)).trans (Below.heap_alloc _ _ _ h2))
  · rintro (e | e)
    · rcases List.mem_append.1 hk' with h | h
      · exact hS3.apart k' h b hb (Or.inl e)
      · rw [List.mem_singleton.1 h] at hb
        have := (hKn b hb).1
        omega
    · have e' : g5 = b := Option.some.inj e
      rcases List.mem_append.1 hk' with h | h
      · rcases hw5 with h5 | h5
        · exact hS3.apart k' h b hb (Or.inr (by rw [← e']; exact h5))
        · have := (hS3.each k' h).lt hb
          omega
      · rw [List.mem_singleton.1 h] at hb
        have := hKn b hb
        rcases hw5 with h5 | h5
        · have := hrow g5 h5; omega
        · omega
  · rcases hb with e | e
    · exact Or.inl (Or.inl e)
    · have e' : g5 = b := Option.some.inj e
      rcases hw5 with h5 | h5
      · exact Or.inl (hSS b (Or.inr (by rw [← e']; exact h5)))
      · right
        have := hT3.size
        omega
set_option maxHeartbeats 4000000 in
theorem zput_yes (sb : Nat) (v : Value) (ks : List KpM) (q : RqM) (a : RpM) (now : Int) (w : World) (h : StM w sb v ks) (hq : RqIn w q) (ha : RpIn w a) (hqs : RqS q) (has : RpS a) (hm : QOk w) (hn : 0 ≤ now ∧ now ≤ 1000000)
    (hget : unums q.m = getN) (hcode : a.code = 200) (hlife : 0 < lifeR (fdsOf a.FL)) (hlow : (kf (fun k => fitP k q) ks).length < 20) (hS : OffG (StS sb v)) (hqo : ∀ b, RqB q b → ¬ StS sb v b) (hao : ∀ b, RpB a b → ¬ StS sb v b) :
    Calls Tryd.prog 7 #[.pointer (some ⟨sb, 0, none⟩), q.val, a.val, .int .i64 now] w fun e w' => e = .returned (.tuple #[.bool true, .nilIface]) ∧ PutY w sb v ks q a now w' := by
  obtain ⟨W1, hW1⟩ : ∃ x, (w.alloc (.cells #[.string q.m, .string q.p, .string q.h, .slice q.fa q.fn q.fc, .slice q.ba q.bn q.bc] 25)).alloc (.cells #[.int .i64 a.code, .slice a.fa a.fn a.fc, .slice a.ba a.bn a.bc] 27) = x := ⟨_, rfl⟩
  have hB1 : Below w.heap.size w W1 := by rw [← hW1]; exact ((Below.refl _ w).alloc (Nat.le_refl _) _).alloc (by simp) _
  have hs1 : W1.heap.size = w.heap.size + 2 := by rw [← hW1]; simp
  have hQB : QBx W1 w.heap.size q := QBx.of (t := 25) (by rw [← hW1]; exact (Below.heap_alloc _ _ _ (by simp)).trans (heap_alloc_new w _))
  have hPB : PBx W1 (w.heap.size + 1) a := PBx.of (t := 27) (by
    rw [← hW1]
    have := heap_alloc_new (w.alloc (.cells #[.string q.m, .string q.p, .string q.h, .slice q.fa q.fn q.fc, .slice q.ba q.bn q.bc] 25)) (.cells #[.int .i64 a.code, .slice a.fa a.fn a.fc, .slice a.ba a.bn a.bc] 27 (0, 0))
    rwa [World.size_alloc] at this)
  have HIT := vl (zistime_any now W1)
  rw [decide_eq_true hn] at HIT
  have HLI := vl (zlife_any a.code a.fa a.fn a.fc a.ba a.bn a.bc a.FL W1 (ha.fields.below hB1) (by have := has.fn; omega) ha.each (hm.ld.below hB1))
  have hst1 := h.below hB1
  have HLV := vl (fun W (hb : Below W1.heap.size W1 W) => zleave_any sb v ks _ _ W (hst1.below hb) (prd_fit (S := StS sb v) ((hq.below hB1).below hb) hqs ((hm.below hB1).below hb) (hQB.below hb) hS (fun e => by have := sts_lt h e; omega) hqo))
  have HKE := vl (fun W (hT : Tn (StS sb v) w W) => zkeep_any q a now W (hq.tn hT hqo) (ha.tn hT hao) hqs has (hm.tn hT hS) hn)
  have hgm : q.m.toList = [71, 69, 84] := un_lit.2 hget
  have hlf : ¬ ((lifeR (fdsOf a.FL) : Nat) : Int) = 0 := by omega
  have hlf2 : (((lifeR (fdsOf a.FL) : Nat) : Int) == 0) = false := beq_eq_false_iff_ne.2 hlf
  have HST := vl h
  have HB1 := vl hB1
  have HQB := vl hQB
  have HPB := vl hPB
  have HLOW := vl hlow
  have HS1 := vl hs1
  obtain ⟨c0, c1, c2, c3, c4⟩ := hQB
  obtain ⟨d0, d1, d2⟩ := hPB
  show Calls Tryd.prog 7 #[.pointer (some ⟨sb, 0, none⟩), .agg #[.string q.m, .string q.p, .string q.h, .slice q.fa q.fn q.fc, .slice q.ba q.bn q.bc], .agg #[.int .i64 a.code, .slice a.fa a.fn a.fc, .slice a.ba a.bn a.bc], .int .i64 now] w _
  rw [hcode] at d0 HLI hW1 ⊢
  obtain ⟨lf, hlfe⟩ : ∃ lf, lifeR (fdsOf a.FL) = lf := ⟨_, rfl⟩
  rw [hlfe] at HLI hlf hlf2
  clear h hq ha hqs has hm hget hlife hlow hst1 hB1 hs1 hlfe
  go_enter Tryd.func7, Tryd.ntmps7
  go_wp2_with fail
  refine HIT.out.mono ?_
  rintro _ _ ⟨rfl, rfl⟩
  go_wp2_with fail
  refine HLI.out.mono ?_
  rintro _ w2 ⟨rfl, hb2⟩
  have HLV2 := vl (HLV.out w2 hb2)
  have HB2 := vl hb2
  clear hW1 HIT HLI hb2 HLV c0 c1 c2 c3 c4 d0 d1 d2
  go_wp2_with fail
  refine HLV2.out.mono ?_
  rintro _ w3 ⟨rfl, v3, hS3, hT3, hSS3⟩
  have hTW3 : Tn (StS sb v) w w3 := (Tn.of_below (HB1.out.trans (HB2.out.mono HB1.out.size))).trans' hT3
  have hn0 : ¬ StS sb v w.heap.size := fun e => by have := sts_lt HST.out e; omega
  have hn1 : ¬ StS sb v (w.heap.size + 1) := fun e => by have := sts_lt HST.out e; omega
  have HKE3 := vl (HKE.out w3.drew (hTW3.trans' (Tn.of_below ((Below.refl _ w3).drew))))
  obtain ⟨c0, c1, c2, c3, c4⟩ := (HQB.out.below HB2.out).tn hT3 hn0
  obtain ⟨d0, d1, d2⟩ := (HPB.out.below HB2.out).tn hT3 hn1
  rw [hcode] at d0
  have HS3 := vl hS3
  have HTW := vl hTW3
  have HSS := vl hSS3
  have f0 := hS3.cell
  have HF0 := vl f0
  obtain ⟨va, vn, vc, hv, hvn⟩ : ∃ a n c, v3 = .slice a n c ∧ n = (kf (fun k => fitP k q) ks).length := by
    rcases hS3.shape with ⟨e, e2⟩ | ⟨g, cap, e⟩
    · exact ⟨_, _, _, e, by rw [e2]; rfl⟩
    · exact ⟨_, _, _, e, rfl⟩
  rw [hv] at f0
  unfold RqM.val RpM.val at HKE3
  rw [hcode] at HKE3
  clear hT3 hTW3 hS3 hSS3 HLV2 HKE
  go_upto_region 6 with fail
  go_cut [] (fun wx => PutY w sb v ks q a now wx)
  case first =>
    have HOW := vl (fun W (hb : Below w3.drew.heap.size w3.drew W) => (show KOwn W 0 v3 _ from kown_tn (S := fun _ => False) HS3.out.own (Tn.of_below (((Below.refl _ w3).drew).trans (hb.mono (Nat.le_refl _)))) (fun _ _ e => e)))
    rw [hv] at HOW
    have HBX : Vl (∀ (w4 w5 : World) (o : Obj), Below w3.drew.heap.size w3.drew w4 → (w4.alloc o).grownBy w5 (Value.slice va vn vc).ownBlock → w5.heap[sb]? = some (.cells #[.slice va vn vc] 54 (0, 0))) := vl (fun w4 w5 o hb hg => by
      have h := HS3.out.below (((Below.refl _ w3).drew).trans (hb.mono (Nat.le_refl _)))
      rw [hv] at h
      exact (hg.block sb (by rw [World.size_alloc]; have := h.lt; omega) (fun e => h.self e.symm)).trans ((Below.heap_alloc _ _ _ h.lt).trans h.box))
    have HBC : Vl (∀ w4 : World, Below w3.drew.heap.size w3.drew w4 → w4.cell? ⟨sb, 0, none⟩ = some (.slice va vn vc) ∧ ∀ o, (w4.alloc o).cell? ⟨sb, 0, none⟩ = some (.slice va vn vc)) := vl (fun w4 hb => by
      have h := HS3.out.below (((Below.refl _ w3).drew).trans (hb.mono (Nat.le_refl _)))
      rw [hv] at h
      exact ⟨h.cell, fun o => (World.cell?_of_block (a := ⟨sb, 0, none⟩) (Below.heap_alloc _ _ _ h.lt)).trans h.cell⟩)
    have HVV := vl hv
    have HVN := vl hvn
    clear hv hvn
    go_region_law (first
      | (go_simp; go_at_call 20; refine HKE3.out.mono ?_; rintro e w4 ⟨⟨⟨kh, kp, kva, kvn, kvc, ⟨rc, rfa, rfn, rfc, rba, rbn, rbc, RFL, RB⟩, ka, KV, L0⟩, rfl, hK4, hO4⟩, hb4⟩; obtain ⟨u4, v4⟩ := HBC.out w4 hb4; dsimp only [KpM.val])
      | (refine step_kapp w4 ⟨kh, kp, kva, kvn, kvc, ⟨rc, rfa, rfn, rfc, rba, rbn, rbc, RFL, RB⟩, ka, KV, L0⟩ rfl (.tmp 34) (.tmp 39) rfl (.slice va vn vc) _ (by simp [Act.eval]) (HOW.out w4 hb4) (by simp [Act.eval]) (by have := HLOW.out; omega) ?_; intro g5 c5 w5 ho5 hg5 hw5; have k5 := HBX.out w4 w5 _ hb4 hg5; have z5 : w5.cell? ⟨sb, 0, none⟩ = some (.slice va vn vc) := (cell_of_row _ _ _ _ _ _ k5).trans rfl; have y5 : ∀ j, w5.frozen? ⟨sb, j, none⟩ = false := fun j => frozen_of_row w5 sb j _ _ k5))
    all_goals
      have HPY := vl (put_fin (v3 := .slice va vn vc) (HVV.out ▸ HS3.out) HTW.out (HVV.out ▸ HSS.out) hK4 hO4 hb4 ho5 hg5 hw5 (by have := HLOW.out; omega))
      clear hK4 hO4 hb4 ho5 hg5 hw5 k5 z5 y5 u4 v4
      go_wp2_with fail
      go_meet
      exact HPY.out
  case rest =>
    obtain ⟨v7, k7, hS7, hO7, hT7, hN7⟩ := hcut
    have z7 := hS7.cell
    obtain ⟨ua, un, uc, hu, hun⟩ : ∃ a n c, v7 = .slice a n c ∧ n = (kf (fun k => fitP k q) ks ++ [k7]).length := by
      rcases hS7.shape with ⟨e, e2⟩ | ⟨g, cap, e⟩
      · exact ⟨_, _, _, e, by rw [e2]; rfl⟩
      · exact ⟨_, _, _, e, rfl⟩
    rw [hu] at z7
    have hunl : ¬ (20 : Int) < (un : Int) := by
      have := HLOW.out
      rw [hun, List.length_append]
      simp
      omega
    have HPY : Vl (PutY w sb v ks q a now wc) := vl ⟨v7, k7, hS7, hO7, hT7, hN7⟩
    clear hS7 hO7 hT7 hN7 hu hun
    go_wp2_with fail
    go_returns
    exact ⟨rfl, HPY.out⟩
end Go.Proofs.YtgdcnbnpjpbldaaDoor
