/-
  CONTRACTS of the Go function chunk.pieces, and of what it hands back. No claim by itself.
-/
import Derived.Test.YtgjolljhjagngafDoorUd4
import Derived.Test.YtgjolljhjagngafDoorUenc
import Derived.BigQuiet
import Derived.Deep.QuietTactic
namespace Go.Proofs.YtgjolljhjagngafDoor
open Go Go.RowKit Go.Shelf
set_option maxRecDepth 100000
attribute [local go_sem] Oper.semAt_some
/-- A piece that is handed over: where it lies, how many bytes it takes, its error, its bytes. -/
structure PE where
  sl : Value
  used : Nat
  er : Value
  P : List Int
structure PV (w : World) (x : PE) : Prop where
  small : x.P.length ≤ 8000
  used : x.used ≤ 281474976710656
  kind : (x.er = .nilIface ∧ ∃ o c, x.sl = .slice (some o) x.P.length c ∧ Arg w (some o) x.P.length c x.P) ∨ (∃ e : Int, e ≠ 0 ∧ x.er = .iface 58 (.int .i64 e) ∧ x.sl = .slice none 0 0 ∧ x.P = [] ∧ x.used = 0)
abbrev PX (w : World) := { x : PE // PV w x }
def pxV (w : World) (x : PX w) : Array Value := #[.agg #[x.1.sl, .int .i64 (x.1.used : Int)], x.1.er]
def allP {w : World} (l : List (PX w)) : List Int := (l.map fun x => x.1.P).flatten
def sumU {w : World} : List (PX w) → Nat
  | [] => 0
  | x :: r => x.1.used + sumU r
theorem allP_snoc {w : World} (l : List (PX w)) (x : PX w) : allP (l ++ [x]) = allP l ++ x.1.P := by simp [allP]
theorem sumU_snoc {w : World} (l : List (PX w)) (x : PX w) : sumU (l ++ [x]) = sumU l + x.1.used := by
  induction l with
  | nil => simp [sumU]
  | cons y r ih => simp only [List.cons_append, sumU, ih]; omega
/-- What a round keeps: what lay below n₀, and each piece's own two cells. -/
structure KpP (n₀ : Nat) (W W' : World) : Prop where
  below : Below n₀ W W'
  keep : ∀ (k : Nat) (a : Option Addr) (n c : Nat) (y : Value), W.heap[k]? = some (.cells #[.slice a n c, y] 67 (0, 0)) → W'.heap[k]? = some (.cells #[.slice a n c, y] 67 (0, 0))
theorem KpP.refl (n₀ : Nat) (W : World) : KpP n₀ W W := ⟨Below.refl _ _, fun _ _ _ _ _ h => h⟩
theorem KpP.trans {n₀ : Nat} {A B C : World} (h : KpP n₀ A B) (k : KpP n₀ B C) : KpP n₀ A C := ⟨h.below.trans k.below, fun i a n c y hi => k.keep i a n c y (h.keep i a n c y hi)⟩
theorem KpP.put {n₀ : Nat} {w : World} (hn : n₀ ≤ w.heap.size) (W : World) (l : Nat) (o o' : Obj) (hl : w.heap.size ≤ l) (h : W.heap[l]? = some o) (h1 : o.isCells = false) (h2 : o.isWalk = false) : KpP n₀ W (W.putObj l o') :=
  ⟨belowK_b hn W l o o' hl h h1 h2, fun k a n c y hk => (World.putObj_heap_other (fun e => by subst e; rw [hk] at h; cases h; cases h1)).trans hk⟩
/-- All pieces have come. -/
def PAll (w : World) (Z : List Int) (xs : List (PX w)) : Prop := ∃ q y, xs = q ++ [y] ∧ ((y.1.er = .nilIface ∧ unchF Z = (0, allP xs, (sumU xs : Int))) ∨ (∃ e : Int, e ≠ 0 ∧ y.1.er = .iface 58 (.int .i64 e) ∧ unchF Z = (e, [], 0)))
/-- Some have. -/
def PSome (w : World) (Z : List Int) (xs : List (PX w)) : Prop := ∃ q y, xs = q ++ [y] ∧ ∀ e : Int, e ≠ 0 → y.1.er = .iface 58 (.int .i64 e) → unchF Z = (e, [], 0)
theorem below_grown {W W' : World} (h : Below W.heap.size W W') : W.grownBy W' none := ⟨h.os, h.tape, h.output, h.size, fun k hk _ => h.block k hk⟩
theorem abides_below {β : Type} {B : Nat} {J : β → World → Prop} (hJ : AbidesFrom B J) {s : β} {W W' : World} (h : J s W) (hb : Below W.heap.size W W') : J s W' := hJ s W W' none h (below_grown hb) (fun r e => by cases e)
theorem Arg.cut {w : World} {g off len cap : Nat} {Z : List Int} (h : Arg w (some ⟨g, off, none⟩) len cap Z) (h1 : 1 ≤ len) : Row w g off len cap Z := by
  rcases h with ⟨h0, _⟩ | ⟨g', off', he, hr⟩
  · omega
  · cases he; exact hr
/-- The pieces, one by one. -/
theorem pieces_call (a : Option Addr) (len cap : Nat) (w : World) :
    Calls Tryd.prog 29 #[.slice a len cap] w fun e w' => e = .returned (.func (.func 73) #[] #[.pointer (some ⟨w.heap.size, 0, none⟩)]) ∧ w' = w.alloc (.cells #[.slice a len cap] 22) := by
  go_enter Tryd.func29, Tryd.ntmps29
  go_wp2
  go_ret
  exact ⟨rfl, rfl⟩
/-- A piece's cells, laid anew. -/
def laidP (w : World) (x y : Value) : World := w.alloc (.cells #[x, y] 67)
theorem laidP_at (w : World) (x y : Value) : (laidP w x y).heap[w.heap.size]? = some (.cells #[x, y] 67 (0, 0)) := heap_alloc_new w _
theorem laidP_below (w : World) (x y : Value) : Below w.heap.size w (laidP w x y) := (Below.refl _ _).alloc (Nat.le_refl _) _
set_option maxHeartbeats 4000000 in
theorem pieces_in (n : Nat) (hn : 1 ≤ n) (l Bb : Nat) (w : World) (a : Option Addr) (len cap : Nat) (Z : List Int) (hA : Arg w a len cap Z) (hl : len ≤ 281474976710656) (B : Nat) (J Jx : List (PX w) → World → Prop) (hJ : AbidesFrom B J)
    (hY : ∀ pre x W, J pre W → pre.length < 8002 → YieldAt Fence.wide (n - 1) Tryd.prog l (pxV w x) W fun e W' =>
      (e = .returned (.bool true) ∧ J (pre ++ [x]) W' ∧ KpP w.heap.size W W') ∨ (e = .returned (.bool false) ∧ Jx (pre ++ [x]) W'))
    (W : World) (hBW : Below w.heap.size w W) (hB : Boxed W Bb 22 (.slice a len cap)) (h0 : J [] W) :
    CallsIn Fence.wide n Tryd.prog 73 #[.func (.yield l) #[] #[], .pointer (some ⟨Bb, 0, none⟩)] W fun e W' => (∃ v, e = .returned v) ∧
      ((∃ ys, PAll w Z ys ∧ J ys W') ∨ (∃ pre, PSome w Z pre ∧ Jx pre W')) := by
  have hlen := hA.len
  have cB := hB.cell
  have HA := vl hA
  have HBW := vl hBW
  have HJ := vl hJ
  have HY := vl hY
  have H0 := vl h0
  clear hA hBW hB hJ hY h0
  refine callsIn_of_wp Tryd.func73 rfl trivial ?_ rfl
  simp only [Tryd.ntmps73, List.size_toArray, List.length_cons, List.length_nil, Nat.reduceAdd, Nat.reduceSub, Array.replicate_succ, Array.replicate_zero, List.push_toArray, List.append_toArray, List.nil_append, List.cons_append]
  gi_wp2
  gi_loopw [3, 4] (fun x y wr => ∃ (pre : List (PX w)) (av : Option Addr) (cv p M : Nat), x = .slice av (len - p) cv ∧ y = .int .i64 ((8000 - M : Nat) : Int) ∧ p ≤ len ∧ M ≤ 8000 ∧ pre.length ≤ M ∧
      Vl (Arg w av (len - p) cv (Z.drop p)) ∧ Vl (UnS Z (allP pre) p ∧ (allP pre).length = M ∧ sumU pre = p) ∧ Vl (J pre wr) ∧ Vl (Below w.heap.size w wr)) (fun x _ _ => match x with | .slice _ n _ => n | _ => 0)
  case atStart => exact ⟨[], a, cap, 0, 0, rfl, rfl, by omega, by omega, by simp, HA.out, ⟨UnS.start Z, rfl, rfl⟩, H0.out, HBW.out⟩
  case round =>
    obtain ⟨pre, av, cv, p, M, rfl, rfl, hp, hM, hpl, HAv, HU, HJ1, HB1⟩ := hrel
    have H1 := vl (urdp_any av (len - p) cv (Z.drop p) M wr (HAv.out.below HB1.out) (by omega) hM)
    clear cB
    gi_wp2_with fail
    refine ⟨trivial, ?_⟩
    refine (callsIn_wide.2 H1.out).mono ?_
    rintro e w2 ⟨r, rfl, ht, hb2⟩
    have HJ2 := vl (abides_below HJ.out HJ1.out hb2)
    have HB2 : Vl (Below w.heap.size w w2) := HB1.out.trans (hb2.mono HB1.out.size)
    clear H1 hb2 HJ1 HB1
    obtain ⟨c0, c1, f0, f1⟩ := pb_cell (show (w2.alloc (.cells #[.slice none 0 0, .int .i64 0] 67)).heap[w2.heap.size]? = _ from heap_alloc_new w2 _)
    rcases ht with ⟨x, hx0, hun, rfl⟩ | ⟨q, nn, g, off, hpa, rfl, rfl⟩
    · have HF : Vl (unchF Z = (x, [], 0)) := HU.out.1.fault hx0 (hun _ _ HU.out.2.1)
      obtain ⟨X, hX⟩ : ∃ X : PX w, X.1 = ⟨.slice none 0 0, 0, .iface 58 (.int .i64 x), []⟩ := ⟨⟨⟨.slice none 0 0, 0, .iface 58 (.int .i64 x), []⟩, by simp, by simp, Or.inr ⟨x, hx0, rfl, rfl, rfl, rfl⟩⟩, rfl⟩
      have HJ3 := vl (abides_below HJ.out HJ2.out (laidP_below w2 (.slice none 0 0) (.int .i64 0)))
      obtain ⟨fn, tmps, assign, body, hy, hR⟩ := HY.out pre X _ HJ3.out (by omega)
      have hpx : pxV w X = #[.agg #[.slice none 0 0, .int .i64 0], .iface 58 (.int .i64 x)] := by unfold pxV; rw [hX]; rfl
      rw [hpx] at hy
      have d0 := (pb_cell (laidP_at w2 (.slice none 0 0) (.int .i64 0))).1
      have d1 := (pb_cell (laidP_at w2 (.slice none 0 0) (.int .i64 0))).2.1
      have HR := vl hR
      have HX := vl hX
      clear hun hpx hR HJ3 HJ2 hX
      unfold laidP at d0 d1 hy HR
      gi_wp2
      refine HR.out.mono ?_
      rintro e W4 (⟨rfl, hJ4, hk4⟩ | ⟨rfl, hJ4⟩)
      · have HJ4 := vl hJ4
        clear hJ4 hk4
        gi_wp2
        refine bodyPost_ret (results_none rfl _ _ _) rfl ?_
        exact ⟨⟨_, rfl⟩, Or.inl ⟨_, ⟨pre, X, rfl, Or.inr ⟨x, hx0, by rw [HX.out], HF.out⟩⟩, HJ4.out⟩⟩
      · have HJ4 := vl hJ4
        clear hJ4
        gi_wp2
        refine bodyPost_ret (results_none rfl _ _ _) rfl ?_
        exact ⟨⟨_, rfl⟩, Or.inr ⟨_, ⟨pre, X, rfl, fun e he h => by rw [HX.out] at h; cases h; exact HF.out⟩, HJ4.out⟩⟩
    · have h5 := hpa.h5
      have h6 := hpa.h6
      rw [List.length_drop, hlen] at h5
      have HPA := vl hpa
      have HRW := vl (HAv.out.cut (by omega))
      have hcv := HRW.out.hcap
      obtain ⟨u, hu⟩ : ∃ u, u = q + 2 + nn + 2 := ⟨_, rfl⟩
      rw [← hu] at h5 ⊢
      have hprow : Row w g (off + (q + 2)) nn (cv - (q + 2)) (((Z.drop p).drop (q + 2)).take nn) := by
        obtain ⟨o6, ho6, hr6⟩ := u_cut HRW.out (q + 2) nn (by omega)
        rw [if_neg (show ¬ (cv = q + 2) by omega)] at ho6
        obtain rfl : o6 = off + (q + 2) := by simp at ho6; exact ho6.symm
        exact hr6
      have hPl := hprow.hlen
      obtain ⟨P, hP⟩ : ∃ P, P = ((Z.drop p).drop (q + 2)).take nn := ⟨_, rfl⟩
      rw [← hP] at hprow hPl
      obtain ⟨X, hX⟩ : ∃ X : PX w, X.1 = ⟨.slice (some ⟨g, off + (q + 2), none⟩) nn (cv - (q + 2)), u, .nilIface, P⟩ := ⟨⟨⟨.slice (some ⟨g, off + (q + 2), none⟩) nn (cv - (q + 2)), u, .nilIface, P⟩, by show P.length ≤ 8000; omega, by show u ≤ _; omega, Or.inl ⟨rfl, _, _, by show _ = Value.slice _ P.length _; rw [hPl], by show Arg w _ P.length _ P; rw [hPl]; exact Or.inr ⟨_, _, rfl, hprow⟩⟩⟩, rfl⟩
      obtain ⟨sl, hsl⟩ : ∃ sl, sl = some (⟨g, off + (q + 2), none⟩ : Addr) := ⟨_, rfl⟩
      obtain ⟨sc, hsc⟩ : ∃ sc, sc = cv - (q + 2) := ⟨_, rfl⟩
      rw [← hsl, ← hsc] at hX ⊢
      clear hsl hsc hprow
      have HJ3 := vl (abides_below HJ.out HJ2.out (laidP_below w2 (.slice sl nn sc) (.int .i64 u)))
      have HB3 : Vl (Below w.heap.size w (laidP w2 (.slice sl nn sc) (.int .i64 u))) := HB2.out.trans ((laidP_below _ _ _).mono HB2.out.size)
      obtain ⟨fn, tmps, assign, body, hy, hR⟩ := HY.out pre X _ HJ3.out (by omega)
      have hpx : pxV w X = #[.agg #[.slice sl nn sc, .int .i64 (u : Int)], .nilIface] := by unfold pxV; rw [hX]
      rw [hpx] at hy
      have d0 := (pb_cell (laidP_at w2 (.slice sl nn sc) (.int .i64 u))).1
      have d1 := (pb_cell (laidP_at w2 (.slice sl nn sc) (.int .i64 u))).2.1
      have HL := vl (laidP_at w2 (.slice sl nn sc) (.int .i64 u))
      have HR := vl hR
      have HX := vl hX
      have HUE := vl hu
      have HPE := vl hP
      obtain ⟨GB, hGB⟩ : ∃ GB, GB = w2.heap.size := ⟨_, rfl⟩
      clear hpx hR HJ3 HJ2 hX hu hP hpa
      unfold laidP at d0 d1 hy HR
      gi_wp2
      refine HR.out.mono ?_
      rintro e W4 (⟨rfl, hJ4, hk4⟩ | ⟨rfl, hJ4⟩)
      · have hk := hk4.keep _ _ _ _ _ HL.out
        obtain ⟨e0, e1, _, _⟩ := pb_cell hk
        have HJ4 := vl hJ4
        have HB4 : Vl (Below w.heap.size w W4) := HB3.out.trans hk4.below
        clear hJ4 hk4 hk hGB d0 d1 hy
        by_cases hn0 : nn = 0
        · subst hn0
          gi_wp2
          refine bodyPost_ret (results_none rfl _ _ _) rfl ?_
          refine ⟨⟨_, rfl⟩, Or.inl ⟨_, ⟨pre, X, rfl, Or.inl ⟨by rw [HX.out], ?_⟩⟩, HJ4.out⟩⟩
          have hpc := HPA.out.pc HU.out.2.1
          have he3 : (Z.drop p).drop (q + 2 + 0 + 2) = Z.drop (p + u) := by rw [List.drop_drop, HUE.out]
          rw [he3] at hpc
          have hd := HU.out.1.done (q := p + u) (by omega) (unF_end hpc)
          rw [allP_snoc, sumU_snoc, HX.out, HU.out.2.2, hd]
          show (_ : Int × List Int × Int) = _
          have hPn : P = [] := List.eq_nil_of_length_eq_zero hPl
          rw [hPn, List.append_nil]
        · have hn0' : ¬ ((nn : Int) = 0) := by omega
          obtain ⟨o7, ho7, hr7⟩ := u_cut HRW.out u (len - p - u) (by omega)
          have HR7 : Vl (Arg w (some ⟨g, o7, none⟩) (len - (p + u)) (cv - u) (Z.drop (p + u))) := by
            rw [List.take_of_length_le (by simp; omega), List.drop_drop, show len - p - u = len - (p + u) by omega] at hr7
            exact Or.inr ⟨_, _, rfl, hr7⟩
          have HU7 : Vl (UnS Z (allP (pre ++ [X])) (p + u) ∧ (allP (pre ++ [X])).length = M + nn ∧ sumU (pre ++ [X]) = p + u) := by
            have hpc := HPA.out.pc HU.out.2.1
            have he3 : (Z.drop p).drop (q + 2 + nn + 2) = Z.drop (p + u) := by rw [List.drop_drop, HUE.out]
            rw [he3] at hpc
            have hal : allP (pre ++ [X]) = allP pre ++ ((Z.drop p).drop (q + 2)).take nn := by rw [allP_snoc, HX.out, ← HPE.out]
            have hle : (allP (pre ++ [X])).length = M + nn := by rw [hal, List.length_append, HU.out.2.1, ← HPE.out, hPl]
            have hnx := HU.out.1.next hpc (by omega) (by omega) (by rw [Int.toNat_natCast, ← hal, hle]; omega)
            rw [Int.toNat_natCast, ← hal] at hnx
            exact ⟨hnx, hle, by rw [sumU_snoc, HX.out, HU.out.2.2]⟩
          have hu1 : (u : Int) ≤ ((len - p : Nat) : Int) := by omega
          have hu2 : (u : Int) ≤ (cv : Int) := by omega
          clear hr7
          gi_wp2_with fail
          refine wpIn_wide.2 ?_
          go_quiet (fail)
          go_wp2
          have hmi : ((8000 - M : Nat) : Int) - (nn : Int) = ((8000 - (M + nn) : Nat) : Int) := by omega
          refine ⟨⟨pre ++ [X], some ⟨g, o7, none⟩, cv - u, p + u, M + nn, by rw [show len - p - u = len - (p + u) by omega], by rw [hmi], by omega, by omega, by rw [List.length_append]; simp; omega, HR7.out, HU7.out, abides_below HJ.out HJ4.out (dN_below (Below.refl _ _) _), dN_below HB4.out _⟩, ?_⟩
          show len - p - u < len - p
          have := HUE.out
          omega
      · have HJ4 := vl hJ4
        clear hJ4
        gi_wp2
        refine bodyPost_ret (results_none rfl _ _ _) rfl ?_
        exact ⟨⟨_, rfl⟩, Or.inr ⟨_, ⟨pre, X, rfl, fun e he h => by rw [HX.out] at h; cases h⟩, HJ4.out⟩⟩
/-- What chunk.pieces hands back gives the pieces, in their order. -/
theorem pieces_stops (n : Nat) (hn : 1 ≤ n) (Bb : Nat) (w : World) (a : Option Addr) (len cap : Nat) (Z : List Int) (hA : Arg w a len cap Z) (hl : len ≤ 281474976710656) (W0 : World) (hb0 : Below w.heap.size w W0) (hB : Boxed W0 Bb 22 (.slice a len cap)) :
    SeqStopsK Fence.wide n Tryd.prog 73 #[.pointer (some ⟨Bb, 0, none⟩)] (pxV w) (KpP w.heap.size) (PAll w Z) (PSome w Z) 8002 W0 := fun l J Jx W hW hJ _ hY h0 =>
  pieces_in n hn l Bb w a len cap Z hA hl W.heap.size J Jx hJ hY W (hb0.trans (hW.mono hb0.size)) ((hW.block _ hB.lt).trans hB) h0
end Go.Proofs.YtgjolljhjagngafDoor
