/-
  WHAT WAS DONE: slices.Values of numbers, and slices.AppendSeq of it. No claim by itself.
-/
import Derived.Test.YteohgkgahkkjlaaGreatDoorNopen
import Derived.Test.YteohgkgahkkjlaaGreatDoorWspec0
import Derived.RangeFuncBox
import Derived.RangeFuncWrites
import Derived.RangeFuncKeeps
import Derived.Below
import Derived.Shelf.Abstract
import Derived.WalkKit
import Derived.OwnWalkIn
import Derived.TacticsInMore
import Derived.LoopNIn
import Derived.LoopIn
import Derived.BigRegionIn
namespace Go.Proofs.YteohgkgahkkjlaaGreatDoor
open Go Go.RowKit
set_option maxRecDepth 100000
attribute [local go_sem] Oper.semAt_some
/-- The first n numbers. -/
def zl (n : Nat) (Z : List Int) : List Int := (List.range n).map fun t => Z.getD t 0
theorem zl_len (n : Nat) (Z : List Int) : (zl n Z).length = n := by simp [zl]
theorem zl_snoc (n : Nat) (Z : List Int) : zl (n + 1) Z = zl n Z ++ [Z.getD n 0] := by simp [zl, List.range_succ]
theorem zl_at {n t : Nat} (Z : List Int) (h : t < n) : (zl n Z).getD t 0 = Z.getD t 0 := by simp [zl, List.getD, h]
theorem zl_self (L : List Int) : zl L.length L = L := by
  refine List.ext_getElem (by simp [zl]) fun i h1 h2 => ?_
  simp [zl, List.getElem?_eq_getElem h2]
theorem ivals_any (v : Value) (w : World) (hv : ∃ a n c, v = .slice a n c) : Calls Tryz.prog 31 #[v] w fun e w' => e = .returned (.func (.func 51) #[] #[.pointer (some ⟨w.heap.size, 0, none⟩)]) ∧ w' = w.alloc (.cells #[v] 37) := by
  obtain ⟨a, n, c, rfl⟩ := hv
  go_enter Tryz.func31, Tryz.ntmps31
  go_wp2
  go_ret
  exact ⟨rfl, rfl⟩
/-- What lay below n lies as it lay. -/
def KpL (n : Nat) (X Y : World) : Prop := ∀ k, k < n → Y.heap[k]? = X.heap[k]?
set_option maxHeartbeats 4000000 in
theorem ivals_stops (n : Nat) (hn : 1 ≤ n) (g off len cap : Nat) (Z : List Int) (b : Nat) (w : World) (hbx : Boxed w b 37 (.slice (some ⟨g, off, none⟩) len cap)) (hl : len ≤ 1000) (hcell : ∀ t, t < len → w.cell? ⟨g, off + t, none⟩ = some (.int .i64 (Z.getD t 0))) (hg : g < w.heap.size) :
    SeqStopsK Fence.wide n Tryz.prog 51 #[.pointer (some ⟨b, 0, none⟩)] (fun x : Int => #[.int .i64 x]) (KpL w.heap.size) (fun xs => xs = zl len Z) (fun _ => True) len w := by
  intro l J Jx W hBW _hJ _hJx hY h0
  have HY := vl hY
  have H0 := vl h0
  have HBX : Vl (Boxed W b 37 (.slice (some ⟨g, off, none⟩) len cap)) := vl ((hBW.block b hbx.lt).trans hbx)
  have HCE : Vl (∀ t, t < len → W.cell? ⟨g, off + t, none⟩ = some (.int .i64 (Z.getD t 0))) := vl (fun t ht => (hBW.cell (p := ⟨g, off + t, none⟩) hg).trans (hcell t ht))
  have hlen : (len : Int) ≤ 1000 := by omega
  clear hBW hY h0 hbx hcell
  have cS := HBX.out.cell
  refine callsIn_of_wp Tryz.func51 rfl trivial ?_ rfl
  simp only [Tryz.ntmps51, List.size_toArray, List.length_cons, List.length_nil, Nat.reduceAdd, Nat.reduceSub, Array.replicate_succ, Array.replicate_zero, List.push_toArray, List.append_toArray, List.nil_append, List.cons_append]
  gi_wp2
  clear cS
  gi_loopw [7] (fun iv wr => ∃ i : Nat, iv = .int .i64 i ∧ i ≤ len ∧ Vl (J (zl i Z) wr) ∧ Vl (∀ t, t < len → wr.cell? ⟨g, off + t, none⟩ = some (.int .i64 (Z.getD t 0)))) (fun iv _ => (len - (intOf iv).toNat))
  case atStart => exact ⟨0, rfl, Nat.zero_le _, H0, HCE⟩
  case round =>
    obtain ⟨i, rfl, hi, HJ1, HC⟩ := hrel
    by_cases hlt : i < len
    · have hlt' : (i : Int) < (len : Int) := by omega
      have c0 := HC.out i hlt
      obtain ⟨x, hx⟩ : ∃ x, Z.getD i 0 = x := ⟨_, rfl⟩
      rw [hx] at c0
      obtain ⟨fn, tmps, assign, body, hy, hR⟩ := HY.out (zl i Z) x wr HJ1.out (by rw [zl_len]; omega)
      have HZ : Vl (zl i Z ++ [x] = zl (i + 1) Z) := vl (by rw [zl_snoc, hx])
      have HR := vl hR
      clear hR hx
      gi_wp2_with fail
      clear hy
      refine HR.out.mono ?_
      rintro e W5 (⟨rfl, hJ5, hk5⟩ | ⟨rfl, hJ5⟩)
      · have HJ5 : Vl (J (zl (i + 1) Z) W5) := vl (HZ.out ▸ hJ5)
        have HC5 : Vl (∀ t, t < len → W5.cell? ⟨g, off + t, none⟩ = some (.int .i64 (Z.getD t 0))) := vl (fun t ht => (World.cell?_of_block (a := ⟨g, off + t, none⟩) (hk5 g hg)).trans (HC.out t ht))
        clear hJ5 hk5 c0
        gi_wp2_with fail
        go_roundw
        case rel => exact ⟨i + 1, by go_num, by omega, HJ5, HC5⟩
        case measure => simp [intOf]; omega
      · have HJ5 := vl hJ5
        clear hJ5
        gi_wp2_with fail
        refine bodyPost_ret (results_none rfl _ _ _) rfl ?_
        exact ⟨⟨_, rfl⟩, Or.inr ⟨_, trivial, HJ5.out⟩⟩
    · have hpe : i = len := by omega
      have hlt' : ¬ (i : Int) < (len : Int) := by omega
      have HJE : Vl (J (zl len Z) wr) := by rw [← hpe]; exact HJ1
      clear hpe
      gi_wp2_with fail
      go_end0
      exact ⟨⟨_, rfl⟩, Or.inl HJE.out⟩
/-- What holds behind the numbers pre. -/
def ApI (w : World) (pre : List Int) (X : World) : Prop := (∃ v, Boxed X w.heap.size 37 v ∧ X.ownsRow w.heap.size 3 1 v pre.length (pre.map (Value.int .i64)) ∧ True) ∧ Below w.heap.size w X
theorem i_info : (Tryz.prog.info? 3).map (fun i => (i.zero, i.size, i.bytes)) = some (some (.int .i64 0), 1, 8) := by kernel_rfl
set_option maxHeartbeats 4000000 in
theorem iapps_in (g off len cap : Nat) (Z : List Int) (b : Nat) (w : World) (hbx : Boxed w b 37 (.slice (some ⟨g, off, none⟩) len cap)) (hl : len ≤ 1000) (hcell : ∀ t, t < len → w.cell? ⟨g, off + t, none⟩ = some (.int .i64 (Z.getD t 0))) (hg : g < w.heap.size) :
    CallsIn Fence.wide 5 Tryz.prog 74 #[.slice none 0 0, .func (.func 51) #[] #[.pointer (some ⟨b, 0, none⟩)]] w fun e w' => ∃ v, e = .returned v ∧ w'.ownsRow w.heap.size 3 1 v len ((zl len Z).map (Value.int .i64)) ∧ Below w.heap.size w w' := by
  have hb := hbx.lt
  obtain ⟨i0, hi, hz0, hz1, hz2⟩ := info_parts i_info
  have HI := vl hi
  clear hi
  refine callsIn_of_wp_marks Tryz.func74 rfl trivial ?_ rfl
  simp only [Tryz.ntmps74, List.size_toArray, List.length_cons, List.length_nil, Nat.reduceAdd, Nat.reduceSub, Array.replicate_succ, Array.replicate_zero, List.push_toArray, List.append_toArray, List.nil_append, List.cons_append]
  have hseq := ivals_stops 4 (by decide) g off len cap Z b w hbx hl hcell hg
  clear hbx hcell
  gi_wp2
  obtain ⟨W0, hW0⟩ : ∃ W0, w.alloc (.cells #[.slice none 0 0] 37) = W0 := ⟨_, rfl⟩
  have hs0 : W0.heap.size = w.heap.size + 1 := by rw [← hW0]; simp
  have hv0 : Boxed W0 w.heap.size 37 (.slice none 0 0) := by rw [← hW0]; exact Boxed.new _ _ _
  have hb0 : Below w.heap.size w W0 := by rw [← hW0]; exact (Below.refl _ w).alloc (Nat.le_refl _) _
  rw [hW0]
  clear hW0
  have h00 : ApI w [] W0 := ⟨⟨_, hv0, ⟨rfl, .inl ⟨rfl, rfl⟩⟩, trivial⟩, hb0⟩
  have hOwn := holdsRow_own (β := List Int) w.heap.size w.heap.size 37 3 1 (fun s => s.length) (fun s => s.map (Value.int .i64)) (fun _ _ => True)
  refine wpIn_rangeFunc_ownG (N := len) (Kp := KpL w.heap.size) rfl (by decide) (gf := 51) (lb := #[.pointer (some ⟨b, 0, none⟩)]) rfl trivial (enters_of Tryz.func51 (by kernel_rfl) rfl)
    hseq (fun h1 h2 k hk => (h2 k hk).trans (h1 k hk)) (fun W l o o' h1 _ _ _ k hk => World.putObj_heap_other (by omega)) hb0 (fun _ => rfl)
    (ApI w) (fun _ _ _ => False) ?hI (fun c s X Y row h _ _ => h) h00 (fun x => { tmps := #[.slice none 0 0, .func (.func 51) #[] #[.pointer (some ⟨b, 0, none⟩)], .pointer (some ⟨w.heap.size, 0, none⟩), undef, .slice none 0 0, .int .i64 x, .func (.func 51) #[] #[.pointer (some ⟨b, 0, none⟩)], .int .i64 x, undef, undef, undef, undef, undef], defers := [] }) ?assign ?body ?done ?stop
  case hI =>
    rintro s X Y row ⟨h1, h5⟩ hgr hr
    refine ⟨hOwn s X Y row h1 hgr (fun r e => (hr r e).2), h5.grown hgr h5.size (fun k e => by have := (hr k e).1; omega)⟩
  case assign =>
    intro l x X K hK
    gi_wp2
    exact hK
  case body =>
    rintro l pre x X ⟨⟨v, hbv, hrow, _⟩, hBl⟩ hlt
    have cV := hbv.cell
    have HBV := vl hbv
    have HBL := vl hBl
    have hsX := hBl.size
    clear hbv hBl h00 hseq hOwn hv0 hb0
    gi_wp2_with (gi_at_builtin; refine wpListIn_append_own _ rfl _ _ 37 rfl w.heap.size 3 i0 (.int .i64 0) 1 8 Tryz.underlying37 HI.out hz0 hz1 hz2 rfl (by decide) v pre.length _ rfl (hrow.alloc _) ⟨X.heap.size, 0, none⟩ 1 1 [.int .i64 x] rfl rfl (cell_one_new _ _ _) (by simp [Value.oneCell']) (by unfold maxLen; omega) (by omega) (by simp; omega) ?_)
    intro v' w3 hown3 hg3 _
    obtain ⟨q1, q2, q3, q4, q5⟩ := HBV.out.appended (by decide) hrow hsX (Nat.le_refl _) hown3 hg3
    obtain ⟨g', cap', hv'⟩ := ownsRow_succ hown3
    subst hv'
    have c3 := q1.cell
    have f3 := q1.frozen
    have HFIN : Vl (KeepsFrom W0.heap.size X (w3.setCell ⟨w.heap.size, 0, none⟩ (.slice (some ⟨g', 0, none⟩) (pre.length + 1) cap')) ∧ KpL w.heap.size X (w3.setCell ⟨w.heap.size, 0, none⟩ (.slice (some ⟨g', 0, none⟩) (pre.length + 1) cap')) ∧ ApI w (pre ++ [x]) (w3.setCell ⟨w.heap.size, 0, none⟩ (.slice (some ⟨g', 0, none⟩) (pre.length + 1) cap'))) := vl (by
      refine ⟨q4.from _, fun k hk => q5.block k hk, ⟨_, q2, ?_, trivial⟩, HBL.out.trans q5⟩
      rw [List.length_append, List.map_append]
      exact q3)
    clear q1 q2 q3 q4 q5 hown3 hg3 cV
    gi_wp2_with fail
    exact HFIN.out
  case done =>
    rintro D xs X hD rfl ⟨⟨v, hbv, hrow, _⟩, hBl⟩ hX
    have cV := hbv.cell
    have HX := vl hX
    have HR := vl hrow
    have HBL := vl hBl
    have HD := vl hD
    clear hbv hrow hBl hX hD h00 hseq hOwn hv0 hb0
    gi_wp2_with fail
    refine ⟨by simp, .inl ⟨_, _, rfl, run_takeDeferred (b := D) (ds := []) HX.out, ?_⟩⟩
    have hD := HD.out
    refine ⟨v, by simp [results, Tryz.results74, go_sem], v, rfl, ?_, HBL.out.grown (grownBy_putObj' _ _ _) HBL.out.size (fun k e => by cases e; omega)⟩
    have := ownsRow_putObj HR.out (.deferred none) HX.out rfl
    rw [zl_len] at this
    exact this
  case stop =>
    intro D c pre W _ _ h
    exact h.elim
end Go.Proofs.YteohgkgahkkjlaaGreatDoor
