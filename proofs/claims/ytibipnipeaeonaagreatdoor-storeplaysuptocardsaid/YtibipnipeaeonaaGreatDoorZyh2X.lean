/-
  WHAT WAS ANSWERED: the developers' Get. No claim by itself.
-/
import Derived.Test.YtibipnipeaeonaaGreatDoorMH
import Derived.Test.YtibipnipeaeonaaGreatDoorMG
import Derived.Test.YtibipnipeaeonaaGreatDoorWheldX
namespace Go.Proofs.YtibipnipeaeonaaGreatDoor
open Go Go.RowKit Go.Shelf
set_option maxRecDepth 100000
attribute [local go_sem] Oper.semAt_some
def hitP (q : RqM) (now : Int) (k : KpM) : Prop := fitP k q ∧ livesP k now
/-- What Get tells. -/
def GetE (w : World) (ks : List KpM) (q : RqM) (now : Int) (e : Ending) (w' : World) : Prop :=
  (∃ t p, t < ks.length ∧ hitP q now (ks.getD t kz) ∧ (∀ s, t < s → s < ks.length → ¬ hitP q now (ks.getD s kz)) ∧ e = .returned (.tuple #[p.val, .int .i64 (now - (ks.getD t kz).at_), .nilIface]) ∧ RpIn w' p ∧ SameR w (ks.getD t kz).rp p) ∨
  ((∀ s, s < ks.length → ¬ hitP q now (ks.getD s kz)) ∧ e = .returned (.tuple #[.agg #[.int .i64 0, .slice none 0 0, .slice none 0 0], .int .i64 0, .iface 60 (.int .i64 5)]))
/-- What holds behind the places pre. -/
def GtI (w2 : World) (b : Nat) (ks : List KpM) (q : RqM) (now : Int) (pre : List (Bk ks)) (W : World) : Prop := (∀ x ∈ pre, ¬ hitP q now x.1.2) ∧ Tn (fun k => k = b) w2 W
/-- What holds where one was found. -/
def GtX (w w2 : World) (b n0 : Nat) (ks : List KpM) (q : RqM) (now : Int) (c : Code) (pre : List (Bk ks)) (W : World) : Prop :=
  c = .ret ∧ ∃ p0 x p, pre = p0 ++ [x] ∧ (∀ y ∈ p0, ¬ hitP q now y.1.2) ∧ hitP q now x.1.2 ∧ RpIn W p ∧ SameR w x.1.2.rp p ∧ (∀ d, RpB p d → w2.heap.size ≤ d) ∧
    W.heap[n0 + 2]? = some (.cells #[.int .i64 p.code, .slice p.fa p.fn p.fc, .slice p.ba p.bn p.bc] 38 (0, 0)) ∧ Boxed W (n0 + 3) 3 (.int .i64 (now - x.1.2.at_)) ∧ Boxed W (n0 + 4) 41 .nilIface ∧ Tn (fun k => k = b ∨ k = n0 + 2 ∨ k = n0 + 3 ∨ k = n0 + 4) w2 W
/-- The cells of Get's results, zero yet. -/
structure RsC (W : World) (n : Nat) : Prop where
  r20 : W.cell? ⟨n + 1 + 1, 0, none⟩ = some (.int .i64 0)
  r21 : W.cell? ⟨n + 1 + 1, 1, none⟩ = some (.slice none 0 0)
  r22 : W.cell? ⟨n + 1 + 1, 2, none⟩ = some (.slice none 0 0)
  r30 : W.cell? ⟨n + 1 + 1 + 1, 0, none⟩ = some (.int .i64 0)
  r40 : W.cell? ⟨n + 1 + 1 + 1 + 1, 0, none⟩ = some .nilIface
  f2 : ∀ j, W.frozen? ⟨n + 1 + 1, j, none⟩ = false
  f3 : ∀ j, W.frozen? ⟨n + 1 + 1 + 1, j, none⟩ = false
  f4 : ∀ j, W.frozen? ⟨n + 1 + 1 + 1 + 1, j, none⟩ = false
theorem RsC.of {W : World} {n : Nat} {t t3 t4 : TypeId} (h2 : W.heap[n + 2]? = some (.cells #[.int .i64 0, .slice none 0 0, .slice none 0 0] t (0, 0))) (h3 : W.heap[n + 3]? = some (.cells #[.int .i64 0] t3 (0, 0))) (h4 : W.heap[n + 4]? = some (.cells #[.nilIface] t4 (0, 0))) : RsC W n := by
  refine ⟨?_, ?_, ?_, ?_, ?_, fun j => frozen_of_row W _ j _ _ h2, fun j => frozen_of_row W _ j _ _ h3, fun j => frozen_of_row W _ j _ _ h4⟩
  · rw [cell_of_row _ _ _ _ _ _ h2]; rfl
  · rw [cell_of_row _ _ _ _ _ _ h2]; rfl
  · rw [cell_of_row _ _ _ _ _ _ h2]; rfl
  · rw [cell_of_row _ _ _ _ _ _ h3]; rfl
  · rw [cell_of_row _ _ _ _ _ _ h4]; rfl
theorem rp_own {X Y : World} {row : Option Nat} {p : RpM} (h : RpIn X p) (hgr : X.grownBy Y row) (hr : ∀ r, row = some r → ∃ o : Obj, X.heap[r]? = some o ∧ o.isCells = false) : RpIn Y p := by
  refine h.tn (S := fun k => row = some k) ⟨hgr.os, hgr.tape, hgr.output, hgr.size, fun k hk hn => hgr.block k hk (fun e => hn e.symm)⟩ (fun b hb e => ?_)
  obtain ⟨o, ho, hc⟩ := hr b e
  have no : ∀ j v, X.cell? ⟨b, j, none⟩ ≠ some v := fun j v hv => by
    unfold World.cell? at hv
    rw [ho] at hv
    cases o <;> simp_all [Obj.isCells]
  rcases hb with ⟨a, ha, rfl, h0⟩ | ⟨a, ha, rfl, h0⟩
  · rcases h.fields with ⟨e0, _⟩ | ⟨g, off, e0, hrw⟩
    · omega
    · rw [ha] at e0; cases e0; exact no _ _ (hrw.hname 0 h0)
  · rcases h.body with ⟨e0, _⟩ | ⟨g, off, e0, hrw⟩
    · omega
    · rw [ha] at e0; cases e0; exact no _ _ (hrw.hcell 0 h0)
theorem gbox_set {w : World} {n : Nat} {t : TypeId} {u v : Value} (h : w.heap[n]? = some (.cells #[u] t (0, 0))) : (w.setCell ⟨n, 0, none⟩ v).heap[n]? = some (.cells #[v] t (0, 0)) := heap_setCell_same w n 0 _ t v h
theorem gbox_set3 {w : World} {n : Nat} {t : TypeId} {a b c x y z : Value} (h : w.heap[n]? = some (.cells #[a, b, c] t (0, 0))) : (((w.setCell ⟨n, 0, none⟩ x).setCell ⟨n, 1, none⟩ y).setCell ⟨n, 2, none⟩ z).heap[n]? = some (.cells #[x, y, z] t (0, 0)) :=
  heap_setCell_same _ n 2 _ t z (heap_setCell_same _ n 1 _ t y (heap_setCell_same w n 0 _ t x h))
theorem get_below {w V2 X : World} (h : Below w.heap.size w V2) (hs : V2.heap.size = w.heap.size + 6) (ht : Tn (fun k => k = w.heap.size + 5 ∨ k = w.heap.size + 2 ∨ k = w.heap.size + 3 ∨ k = w.heap.size + 4) V2 X) : Below w.heap.size w X :=
  ⟨by rw [ht.os, h.os], by rw [ht.tape, h.tape], by rw [ht.output, h.output], Nat.le_trans h.size ht.size, fun k hk => (ht.block k (by omega) (fun e => by rcases e with e | e | e | e <;> omega)).trans (h.block k hk)⟩
theorem get_belowD {w X : World} {D : Nat} (h : Below w.heap.size w X) (hD : w.heap.size ≤ D) : Below w.heap.size w (X.putObj D (.deferred none)) :=
  ⟨h.os, h.tape, h.output, by rw [World.putObj_size]; exact h.size, fun k hk => (World.putObj_heap_other (by omega)).trans (h.block k hk)⟩
set_option maxHeartbeats 8000000 in
theorem zget_in (sb : Nat) (v : Value) (ks : List KpM) (q : RqM) (now : Int) (w : World) (h : StM w sb v ks) (hq : RqIn w q) (hqs : RqS q) (hm : QOk w) (hn : 0 ≤ now ∧ now ≤ 1000000) (hget : unums q.m = getN) (hgl : 9 ≤ w.heap.size) :
    CallsIn Fence.wide 9 Tryz.prog 10 #[.pointer (some ⟨sb, 0, none⟩), q.val, .int .i64 now] w fun e w' => GetE w ks q now e w' ∧ Below w.heap.size w w' := by
  obtain ⟨W1, hW1⟩ : ∃ x, ((((w.alloc (.cells #[.string q.m, .string q.p, .string q.h, .slice q.fa q.fn q.fc, .slice q.ba q.bn q.bc] 36)).alloc (.cells #[.int .i64 now] 3)).alloc (.cells #[.int .i64 0, .slice none 0 0, .slice none 0 0] 38)).alloc (.cells #[.int .i64 0] 3)).alloc (.cells #[.nilIface] 41) = x := ⟨_, rfl⟩
  have hB1 : Below w.heap.size w W1 := by rw [← hW1]; exact (((((Below.refl _ w).alloc (Nat.le_refl _) _).alloc (by simp) _).alloc (by simp <;> omega) _).alloc (by simp <;> omega) _).alloc (by simp <;> omega) _
  have hs1 : W1.heap.size = w.heap.size + 5 := by rw [← hW1]; simp
  have al : ∀ (V : World) (o : Obj) (k : Nat) (x : Option Obj), k < V.heap.size → V.heap[k]? = x → (V.alloc o).heap[k]? = x := fun V o k x hk e => (Below.heap_alloc _ _ _ hk).trans e
  have k0 : W1.heap[w.heap.size]? = some (.cells #[.string q.m, .string q.p, .string q.h, .slice q.fa q.fn q.fc, .slice q.ba q.bn q.bc] 36 (0, 0)) := by
    rw [← hW1]; exact al _ _ _ _ (by simp <;> omega) (al _ _ _ _ (by simp <;> omega) (al _ _ _ _ (by simp <;> omega) (al _ _ _ _ (by simp) (heap_alloc_new w _))))
  have k1 : W1.heap[w.heap.size + 1]? = some (.cells #[.int .i64 now] 3 (0, 0)) := by
    rw [← hW1]
    have := heap_alloc_new (w.alloc (.cells #[.string q.m, .string q.p, .string q.h, .slice q.fa q.fn q.fc, .slice q.ba q.bn q.bc] 36)) (.cells #[.int .i64 now] 3 (0, 0))
    rw [World.size_alloc] at this
    exact al _ _ _ _ (by simp <;> omega) (al _ _ _ _ (by simp <;> omega) (al _ _ _ _ (by simp) this))
  have k2 : W1.heap[w.heap.size + 2]? = some (.cells #[.int .i64 0, .slice none 0 0, .slice none 0 0] 38 (0, 0)) := by
    rw [← hW1]
    have := heap_alloc_new ((w.alloc (.cells #[.string q.m, .string q.p, .string q.h, .slice q.fa q.fn q.fc, .slice q.ba q.bn q.bc] 36)).alloc (.cells #[.int .i64 now] 3)) (.cells #[.int .i64 0, .slice none 0 0, .slice none 0 0] 38 (0, 0))
    simp only [World.size_alloc] at this
    exact al _ _ _ _ (by simp <;> omega) (al _ _ _ _ (by simp) this)
  have k3 : W1.heap[w.heap.size + 3]? = some (.cells #[.int .i64 0] 3 (0, 0)) := by
    rw [← hW1]
    have := heap_alloc_new (((w.alloc (.cells #[.string q.m, .string q.p, .string q.h, .slice q.fa q.fn q.fc, .slice q.ba q.bn q.bc] 36)).alloc (.cells #[.int .i64 now] 3)).alloc (.cells #[.int .i64 0, .slice none 0 0, .slice none 0 0] 38)) (.cells #[.int .i64 0] 3 (0, 0))
    simp only [World.size_alloc] at this
    exact al _ _ _ _ (by simp) this
  have k4 : W1.heap[w.heap.size + 4]? = some (.cells #[.nilIface] 41 (0, 0)) := by
    rw [← hW1]
    have := heap_alloc_new ((((w.alloc (.cells #[.string q.m, .string q.p, .string q.h, .slice q.fa q.fn q.fc, .slice q.ba q.bn q.bc] 36)).alloc (.cells #[.int .i64 now] 3)).alloc (.cells #[.int .i64 0, .slice none 0 0, .slice none 0 0] 38)).alloc (.cells #[.int .i64 0] 3)) (.cells #[.nilIface] 41 (0, 0))
    simp only [World.size_alloc] at this
    exact this
  have c1 : W1.cell? ⟨w.heap.size + 1, 0, none⟩ = some (.int .i64 now) := by rw [cell_of_row _ _ _ _ _ _ k1]; rfl
  have c0 : W1.cell? ⟨w.heap.size, 0, none⟩ = some (.string q.m) := by rw [cell_of_row _ _ _ _ _ _ k0]; rfl
  have HIT := vl (zistime_any now W1)
  rw [decide_eq_true hn] at HIT
  have h1 := h.below hB1
  have f0 := h1.cell
  obtain ⟨va, vn, vc, hv⟩ : ∃ a n c, v = .slice a n c := by
    rcases h.shape with ⟨e, _⟩ | ⟨g, cap, e⟩
    · exact ⟨_, _, _, e⟩
    · exact ⟨_, _, _, e⟩
  have HBA := vl (zback_any v W1 ⟨_, _, _, hv⟩)
  rw [hv] at f0 HBA
  have hgm : q.m.toList = [71, 69, 84] := un_lit.2 hget
  have hgm2 : (q.m.toList == [71, 69, 84]) = true := by simpa using hgm
  show CallsIn Fence.wide 9 Tryz.prog 10 #[.pointer (some ⟨sb, 0, none⟩), .agg #[.string q.m, .string q.p, .string q.h, .slice q.fa q.fn q.fc, .slice q.ba q.bn q.bc], .int .i64 now] w _
  have HST1 := vl h1
  have HQ := vl (hq.below hB1)
  have HM := vl (hm.below hB1)
  have HB1 := vl hB1
  have HV := vl hv
  have HK0 := vl k0
  have HK1 := vl k1
  have HK2 := vl k2
  have HK3 := vl k3
  have HK4 := vl k4
  have HS1 := vl hs1
  have HLT := vl h.lt
  clear h hq hm h1 hB1 hv k0 k1 k2 k3 k4 al hget
  refine callsIn_of_wp_marks Tryz.func10 rfl trivial ?_ rfl
  simp only [Tryz.ntmps10, List.size_toArray, List.length_cons, List.length_nil, Nat.reduceAdd, Nat.reduceSub, Array.replicate_succ, Array.replicate_zero, List.push_toArray, List.append_toArray, List.nil_append, List.cons_append]
  gi_wp2_with fail
  refine ⟨trivial, ?_⟩
  refine (callsIn_wide.2 HIT.out).mono ?_
  rintro e w2 ⟨rfl, rfl⟩
  gi_wp2_with fail
  refine ⟨trivial, ?_⟩
  refine (callsIn_wide.2 HBA.out).mono ?_
  rintro e W2 ⟨rfl, hW2⟩
  clear HIT HBA
  gi_wp2_with fail
  obtain ⟨V2, hV2⟩ : ∃ x, W1.alloc (.cells #[.slice va vn vc] 55) = x := ⟨_, rfl⟩
  have hs2 : V2.heap.size = w.heap.size + 6 := by rw [← hV2, World.size_alloc, HS1.out]
  have hB2 : Below W1.heap.size W1 V2 := by rw [← hV2]; exact (Below.refl _ W1).alloc (Nat.le_refl _) _
  have hST2 := HST1.out.below hB2
  have hBX2 : Boxed V2 (w.heap.size + 5) 55 v := by rw [HV.out, ← hV2, ← HS1.out]; exact Boxed.new W1 55 _
  have hl21 := hST2.most
  rw [hV2]
  clear hV2 hW2
  have hsl : sb < w.heap.size := HLT.out
  have HKs : Vl (∀ k, StS sb v k → k < w.heap.size + 5) := vl (fun k hk => by have := sts_lt HST1.out hk; have := HS1.out; omega)
  have h00 : GtI V2 (w.heap.size + 5) ks q now [] V2 := ⟨(fun x hx => by cases hx), Tn.refl _ _⟩
  have HST2 := vl hST2
  have HQ2 := vl (HQ.out.below hB2)
  have HM2 := vl (HM.out.below hB2)
  have HBW2 : Vl (Below w.heap.size w V2) := vl (HB1.out.trans (hB2.mono HB1.out.size))
  have z0 : V2.heap[w.heap.size]? = _ := (hB2.block _ (by have := HS1.out; omega)).trans HK0.out
  have z1 : V2.heap[w.heap.size + 1]? = _ := (hB2.block _ (by have := HS1.out; omega)).trans HK1.out
  have z2 : V2.heap[w.heap.size + 2]? = _ := (hB2.block _ (by have := HS1.out; omega)).trans HK2.out
  have z3 : V2.heap[w.heap.size + 3]? = _ := (hB2.block _ (by have := HS1.out; omega)).trans HK3.out
  have z4 : V2.heap[w.heap.size + 4]? = _ := (hB2.block _ (by have := HS1.out; omega)).trans HK4.out
  have HZ0 := vl z0
  have HZ1 := vl z1
  have HZ2 := vl z2
  have HZ3 := vl z3
  have HZ4 := vl z4
  clear z0 z1 z2 z3 z4 hB2 c0 c1 f0
  refine wpIn_range_bx3 (N := ks.length + 1) (K := fun k => k = w.heap.size + 5 ∨ v.ownBlock = some k) rfl (by decide) (gf := 38) (lb := #[.pointer (some ⟨w.heap.size + 5, 0, none⟩)]) rfl trivial (enters_of Tryz.func38 (by kernel_rfl) rfl)
    (back_stops 8 (by decide) v ks (w.heap.size + 5) V2 hBX2 hST2.own hl21) (by omega) (fun k hk => by
      rcases hk with e | e
      · omega
      · have := HKs.out k (Or.inr e); omega) (Below.refl _ _) (fun _ => rfl)
    (GtI V2 (w.heap.size + 5) ks q now) (GtX w V2 (w.heap.size + 5) w.heap.size ks q now) (fun pre u W h => ⟨h.1, h.2.trans' (tn_set rfl)⟩) ?hI ?hIx h00
    (fun x a' W => ∃ nb, V2.heap.size ≤ nb ∧ a' = { tmps := #[Value.pointer (some ⟨sb, 0, none⟩), Value.agg #[.string q.m, .string q.p, .string q.h, .slice q.fa q.fn q.fc, .slice q.ba q.bn q.bc], Value.int .i64 now, undef, Value.pointer (some ⟨w.heap.size, 0, none⟩), Value.pointer (some ⟨w.heap.size + 1, 0, none⟩), Value.pointer (some ⟨w.heap.size + 1 + 1, 0, none⟩), Value.pointer (some ⟨w.heap.size + 1 + 1 + 1, 0, none⟩), Value.pointer (some ⟨w.heap.size + 1 + 1 + 1 + 1, 0, none⟩), undef, Value.pointer (some ⟨nb, 0, none⟩), Value.int .i64 now, Value.bool true, Value.bool false, undef, undef, Value.pointer (some ⟨w.heap.size, 0, none⟩), Value.string q.m, Value.bool false, undef, undef, Value.pointer (some ⟨sb, 0, none⟩), Value.pointer (some ⟨sb, 0, none⟩), Value.pointer (some ⟨sb, 0, none⟩), Value.slice va vn vc, Value.func (.func 38) #[] #[.pointer (some ⟨w.heap.size + 5, 0, none⟩)], Value.int .i64 (x.1.1 : Nat), Value.agg #[.string x.1.2.host, .string x.1.2.path, .slice x.1.2.va x.1.2.vn x.1.2.vc, .int .i64 x.1.2.rp.code, .slice x.1.2.rp.fa x.1.2.rp.fn x.1.2.rp.fc, .slice x.1.2.rp.ba x.1.2.rp.bn x.1.2.rp.bc, .int .i64 x.1.2.at_], undef, undef, undef, undef, undef, undef, undef, undef, undef, undef, undef, undef, undef, undef, undef, undef, undef], defers := [] } ∧ W.heap[nb]? = some (.cells #[.string x.1.2.host, .string x.1.2.path, .slice x.1.2.va x.1.2.vn x.1.2.vc, .int .i64 x.1.2.rp.code, .slice x.1.2.rp.fa x.1.2.rp.fn x.1.2.rp.fc, .slice x.1.2.rp.ba x.1.2.rp.bn x.1.2.rp.bc, .int .i64 x.1.2.at_] 63 (0, 0))) ?hAx ?assign ?body ?done ?stop
  case hI =>
    rintro s X Y row ⟨h1, h2⟩ hgr hr
    exact ⟨h1, ⟨hgr.os.trans h2.os, hgr.tape.trans h2.tape, hgr.output.trans h2.output, Nat.le_trans h2.size hgr.size, fun k hk hn => (hgr.block k (Nat.lt_of_lt_of_le hk h2.size) (fun e => by have := (hr k e.symm).1; omega)).trans (h2.block k hk hn)⟩⟩
  case hIx =>
    rintro c s X Y row ⟨hc, p0, x, p, e1, e2, e3, e4, e5, e6, e7, e8, e9, e10⟩ hgr hr
    have hsame : ∀ k, k < V2.heap.size → Y.heap[k]? = X.heap[k]? := fun k hk => hgr.block k (Nat.lt_of_lt_of_le hk e10.size) (fun e => by have := (hr k e.symm).1; omega)
    exact ⟨hc, p0, x, p, e1, e2, e3, rp_own e4 hgr (fun r hrr => (hr r hrr).2), e5, e6, (hsame _ (by omega)).trans e7, (hsame _ (by omega)).trans e8, (hsame _ (by omega)).trans e9, ⟨hgr.os.trans e10.os, hgr.tape.trans e10.tape, hgr.output.trans e10.output, Nat.le_trans e10.size hgr.size, fun k hk hn => (hsame k hk).trans (e10.block k hk hn)⟩⟩
  case hAx =>
    rintro x a' s X Y row ⟨nb, h1, h2, h3⟩ hgr hr
    refine ⟨nb, h1, h2, (hgr.block nb (Array.getElem?_eq_some_iff.1 h3).1 (fun e => ?_)).trans h3⟩
    obtain ⟨o, ho, hc⟩ := (hr nb e.symm).2
    rw [h3] at ho; cases ho; cases hc
  case assign =>
    intro l pre x W K' hI hsz hK
    dsimp only [bkV, KpM.val]
    gi_wp2
    refine hK _ _ ?_ ?_ ?_ ?_
    · exact (zothers_of_below ((Below.refl _ W).alloc (Nat.le_refl _) _)).from _
    · intro k hk
      exact Below.heap_alloc _ _ _ (by
        rcases hk with e | e
        · omega
        · have := HKs.out k (Or.inr e); omega)
    · exact ⟨hI.1, hI.2.trans' (Tn.of_below ((Below.refl _ W).alloc (Nat.le_refl _) _))⟩
    · exact ⟨W.heap.size, by omega, rfl, heap_alloc_new W _⟩
  case body =>
    rintro l pre x a' W ⟨hno, hTn⟩ ⟨nb, hnb, rfl, hkb⟩ hlen hsz
    have hTs : ∀ k, k < w.heap.size + 5 → W.heap[k]? = V2.heap[k]? := fun k hk => hTn.block k (by omega) (fun e => by have e' : k = w.heap.size + 5 := e; omega)
    have hxm : x.1.2 ∈ ks := by rw [x.2.2, List.getD, List.getElem?_eq_getElem x.2.1]; exact List.getElem_mem _
    have hKx : KpIn W x.1.2 := (HST2.out.each _ hxm).tn hTn (fun b hb e => by
      have e' : b = w.heap.size + 5 := e
      have h1 := (HST1.out.each _ hxm).lt hb
      have := HS1.out
      omega)
    have hQW : RqIn W q := HQ2.out.tn hTn (fun b hb e => by
      have e' : b = w.heap.size + 5 := e
      have h1 := HQ.out.lt hb
      have := HS1.out
      omega)
    have hMW : QOk W := HM2.out.tn hTn (fun k e => by have e' : k = w.heap.size + 5 := e; omega)
    have hQB : QBx W w.heap.size q := QBx.of (t := 36) ((hTs _ (by omega)).trans HZ0.out)
    have hNB : W.heap[w.heap.size + 1]? = some (.cells #[.int .i64 now] 3 (0, 0)) := (hTs _ (by omega)).trans HZ1.out
    have hKB : KBx W nb x.1.2 := KBx.of (t := 63) hkb
    have HFI := vl (zfits_any x.1.2 q W hKx hQW hqs hMW)
    have HLI := vl (fun W' (hb : Below W.heap.size W W') => zlives_any x.1.2 now W' (hKx.below hb) hn (hMW.below hb))
    have HCO := vl (fun W' (hb : Below W.heap.size W W') => zcopy_any x.1.2.rp W' (hKx.rp.below hb) (by have := hKx.sm.fn; omega))
    unfold KpM.val RqM.val at HFI
    unfold KpM.val at HLI
    unfold RpM.val at HCO
    have HTN := vl hTn
    have HAT := vl hKx.time
    have HNO := vl hno
    have HQB := vl hQB
    have HNB := vl hNB
    have HKB := vl hKB
    have HTS := vl hTs
    have HNK := vl hkb
    have hKk : ∀ k, (k = w.heap.size + 5 ∨ v.ownBlock = some k) → k < W.heap.size := fun k hk => by
      rcases hk with e | e
      · omega
      · have := HKs.out k (Or.inr e); omega
    have HKk := vl hKk
    have hge : V2.heap.size ≤ W.heap.size := hTn.size
    obtain ⟨c0, c1, c2, c3, c4⟩ := hQB
    obtain ⟨d0, d1, d2, d3, d4, d5, d6⟩ := hKB
    have HEND : Vl (∀ W', Below W.heap.size W W' → ¬ hitP q now x.1.2 → (KeepsFrom V2.heap.size W W' ∧ (∀ k, (k = w.heap.size + 5 ∨ v.ownBlock = some k) → W'.heap[k]? = W.heap[k]?) ∧ GtI V2 (w.heap.size + 5) ks q now (pre ++ [x]) W')) := vl (fun W' hb hnh => ⟨(zothers_of_below hb).from _, fun k hk => hb.block k (hKk k hk), fun y hy => by
      rcases List.mem_append.1 hy with h | h
      · exact hno y h
      · rw [List.mem_singleton.1 h]; exact hnh, hTn.trans' (Tn.of_below hb)⟩)
    clear hno hTn hKx hQW hMW hNB hTs hkb hKk hBX2 hST2 h00
    gi_wp2_with fail
    refine ⟨trivial, ?_⟩
    refine (CallsIn.inRound l (callsIn_wide.2 HFI.out)).mono ?_
    rintro e w5 ⟨⟨b1, rfl, hb1⟩, hbl5⟩
    have HB1' := vl hb1
    have HBL5 := vl hbl5
    obtain ⟨d0, d1, d2, d3, d4, d5, d6⟩ := HKB.out.below hbl5
    have n5 : w5.cell? ⟨w.heap.size + 1, 0, none⟩ = some (.int .i64 now) := by
      rw [cell_of_row _ _ _ _ _ _ ((hbl5.block _ (by have := HTN.out.size; omega)).trans HNB.out)]; rfl
    clear hb1 hbl5 HFI c0 c1 c2 c3 c4
    cases b1 with
    | false =>
      have HF := vl (HEND.out w5 HBL5.out (fun hh => by have := HB1'.out.2 hh.1; cases this))
      gi_wp2_with fail
      refine ⟨trivial, ?_⟩
      gi_wp2_with fail
      exact HF.out
    | true =>
      have HFIT : Vl (fitP x.1.2 q) := vl (HB1'.out.1 rfl)
      clear HB1'
      have HLI5 := vl (HLI.out w5 HBL5.out)
      gi_wp2_with fail
      refine ⟨trivial, ?_⟩
      refine (CallsIn.inRound l (callsIn_wide.2 HLI5.out)).mono ?_
      rintro e w6 ⟨⟨b2, rfl, hb2⟩, hbl6⟩
      have HB2' := vl hb2
      have HBL6 : Vl (Below W.heap.size W w6) := vl (HBL5.out.trans (hbl6.mono HBL5.out.size))
      clear hb2 hbl6 HLI HLI5 d0 d1 d2 d3 d4 d5 d6 n5
      cases b2 with
      | false =>
        have HF := vl (HEND.out w6 HBL6.out (fun hh => by have := HB2'.out.2 hh.2; cases this))
        gi_wp2_with fail
        exact HF.out
      | true =>
        have HHIT : Vl (hitP q now x.1.2) := vl ⟨HFIT.out, HB2'.out.1 rfl⟩
        obtain ⟨d0, d1, d2, d3, d4, d5, d6⟩ := HKB.out.below HBL6.out
        have n6 : w6.cell? ⟨w.heap.size + 1, 0, none⟩ = some (.int .i64 now) := by
          rw [cell_of_row _ _ _ _ _ _ ((HBL6.out.block _ (by have := HTN.out.size; omega)).trans HNB.out)]; rfl
        have HRES : Vl (∀ W', Below W.heap.size W W' → RsC W' w.heap.size) := vl (fun W' hb => RsC.of ((hb.block _ (by have := HTN.out.size; omega)).trans ((HTS.out _ (by omega)).trans HZ2.out)) ((hb.block _ (by have := HTN.out.size; omega)).trans ((HTS.out _ (by omega)).trans HZ3.out)) ((hb.block _ (by have := HTN.out.size; omega)).trans ((HTS.out _ (by omega)).trans HZ4.out)))
        have HCD := vl (HCO.out w6.drew HBL6.out.drew)
        have HKC : Vl (∀ w7, Below w6.drew.heap.size w6.drew w7 → KBx w7 nb x.1.2 ∧ w7.cell? ⟨w.heap.size + 1, 0, none⟩ = some (.int .i64 now) ∧ RsC w7 w.heap.size) := vl (fun w7 hb => by
          have hb' : Below W.heap.size W w7 := HBL6.out.drew.trans (hb.mono HBL6.out.size)
          refine ⟨HKB.out.below hb', ?_, HRES.out w7 hb'⟩
          rw [cell_of_row _ _ _ _ _ _ ((hb'.block _ (by have := HTN.out.size; omega)).trans HNB.out)]; rfl)
        have HROW : Vl (∀ w7, Below w6.drew.heap.size w6.drew w7 → w7.heap[w.heap.size + 2]? = some (.cells #[.int .i64 0, .slice none 0 0, .slice none 0 0] 38 (0, 0)) ∧ w7.heap[w.heap.size + 3]? = some (.cells #[.int .i64 0] 3 (0, 0)) ∧ w7.heap[w.heap.size + 4]? = some (.cells #[.nilIface] 41 (0, 0))) := vl (fun w7 hb => by
          have hb' : Below W.heap.size W w7 := HBL6.out.drew.trans (hb.mono HBL6.out.size)
          exact ⟨(hb'.block _ (by have := HTN.out.size; omega)).trans ((HTS.out _ (by omega)).trans HZ2.out), (hb'.block _ (by have := HTN.out.size; omega)).trans ((HTS.out _ (by omega)).trans HZ3.out), (hb'.block _ (by have := HTN.out.size; omega)).trans ((HTS.out _ (by omega)).trans HZ4.out)⟩)
        have hat := HAT.out
        obtain ⟨xk, hxk⟩ : ∃ xk, x.1.2 = xk := ⟨_, rfl⟩
        have HXK := vl hxk
        rw [hxk] at d0 d1 d2 d3 d4 d5 d6 HCD HKC hat ⊢
        clear HB2' HEND HCO HRES hxk
        gi_wp2_with fail
        have HSS : Vl (∀ X (k o : Nat) (u : Value), w.heap.size + 2 ≤ k → k < w.heap.size + 6 → (fun (w' : World) => (w'.cell? ⟨nb, 3, none⟩ = some (.int .i64 xk.rp.code) ∧ w'.cell? ⟨nb, 4, none⟩ = some (.slice xk.rp.fa xk.rp.fn xk.rp.fc) ∧ w'.cell? ⟨nb, 5, none⟩ = some (.slice xk.rp.ba xk.rp.bn xk.rp.bc) ∧ w'.cell? ⟨nb, 6, none⟩ = some (.int .i64 xk.at_)) ∧ w'.cell? ⟨w.heap.size + 1, 0, none⟩ = some (.int .i64 now)) X → (fun (w' : World) => (w'.cell? ⟨nb, 3, none⟩ = some (.int .i64 xk.rp.code) ∧ w'.cell? ⟨nb, 4, none⟩ = some (.slice xk.rp.fa xk.rp.fn xk.rp.fc) ∧ w'.cell? ⟨nb, 5, none⟩ = some (.slice xk.rp.ba xk.rp.bn xk.rp.bc) ∧ w'.cell? ⟨nb, 6, none⟩ = some (.int .i64 xk.at_)) ∧ w'.cell? ⟨w.heap.size + 1, 0, none⟩ = some (.int .i64 now)) (X.setCell ⟨k, o, none⟩ u)) := vl (fun X k o u h1 h2 h => by
          have hk1 : k ≠ nb := by omega
          have hk2 : k ≠ w.heap.size + 1 := by omega
          refine ⟨⟨?_, ?_, ?_, ?_⟩, ?_⟩
          · exact (World.cell?_setCell_far X ⟨k, o, none⟩ _ _ hk1).trans h.1.1
          · exact (World.cell?_setCell_far X ⟨k, o, none⟩ _ _ hk1).trans h.1.2.1
          · exact (World.cell?_setCell_far X ⟨k, o, none⟩ _ _ hk1).trans h.1.2.2.1
          · exact (World.cell?_setCell_far X ⟨k, o, none⟩ _ _ hk1).trans h.1.2.2.2
          · exact (World.cell?_setCell_far X ⟨k, o, none⟩ _ _ hk2).trans h.2)
        have hwr : IntKind.i64.wrap (now - xk.at_) = now - xk.at_ := by rw [IntKind.wrap_i64]; have := hn.1; have := hn.2; omega
        refine wpIn_mono ?_ NoPanic.imp
        refine wpIn_region_held (S := (fun (w' : World) => (w'.cell? ⟨nb, 3, none⟩ = some (.int .i64 xk.rp.code) ∧ w'.cell? ⟨nb, 4, none⟩ = some (.slice xk.rp.fa xk.rp.fn xk.rp.fc) ∧ w'.cell? ⟨nb, 5, none⟩ = some (.slice xk.rp.ba xk.rp.bn xk.rp.bc) ∧ w'.cell? ⟨nb, 6, none⟩ = some (.int .i64 xk.at_)) ∧ w'.cell? ⟨w.heap.size + 1, 0, none⟩ = some (.int .i64 now))) rfl (by rintro ⟨a, w, h⟩; exact h) (by kernel_rfl) ⟨⟨d3, d4, d5, d6⟩, n6⟩ (fun hHeld => ?_)
        refine wpAnyH_take (i := 0) (oi := { dst := some 36, op := Op.fieldAddr 63 (Operand.tmp 10) 3, type := 0, pos := "store.go:62", after := #[], guard := none }) (v := .pointer (some ⟨nb, 3, none⟩)) rfl (by kernel_rfl) (by kernel_rfl) (by kernel_rfl) (fun _ _ _ h => h) (Or.inl ⟨by rfl, (by intro w hSw; (try dsimp only at hSw); go_simp)⟩) hHeld ?_
        try simp only [Act.put, List.setIfInBounds_toArray, List.set_cons_zero, List.set_cons_succ]
        refine wpAnyH_take (i := 1) (oi := { dst := some 37, op := Op.load 38 (Operand.tmp 36), type := 38, pos := "store.go:62", after := #[{ on := 0, ground := Ground.data }], guard := none }) (v := .agg #[.int .i64 xk.rp.code, .slice xk.rp.fa xk.rp.fn xk.rp.fc, .slice xk.rp.ba xk.rp.bn xk.rp.bc]) rfl (by kernel_rfl) (by kernel_rfl) (by kernel_rfl) (fun _ _ _ h => h) (Or.inl ⟨by rfl, (by intro w hSw; (try dsimp only at hSw); go_simp)⟩) hHeld ?_
        try simp only [Act.put, List.setIfInBounds_toArray, List.set_cons_zero, List.set_cons_succ]
        refine wpAnyH_take (i := 3) (oi := { dst := some 39, op := Op.load 3 (Operand.tmp 5), type := 3, pos := "store.go:62", after := #[{ on := 7, ground := Ground.gcOnly Departure.lateStores }], guard := none }) (v := .int .i64 now) rfl (by kernel_rfl) (by kernel_rfl) (by kernel_rfl) (fun _ _ _ h => h) (Or.inl ⟨by rfl, (by intro w hSw; (try dsimp only at hSw); go_simp)⟩) hHeld ?_
        try simp only [Act.put, List.setIfInBounds_toArray, List.set_cons_zero, List.set_cons_succ]
        refine wpAnyH_take (i := 4) (oi := { dst := some 40, op := Op.fieldAddr 63 (Operand.tmp 10) 4, type := 0, pos := "store.go:62", after := #[{ on := 7, ground := Ground.gcOnly Departure.lateStores }], guard := none }) (v := .pointer (some ⟨nb, 6, none⟩)) rfl (by kernel_rfl) (by kernel_rfl) (by kernel_rfl) (fun _ _ _ h => h) (Or.inl ⟨by rfl, (by intro w hSw; (try dsimp only at hSw); go_simp)⟩) hHeld ?_
        try simp only [Act.put, List.setIfInBounds_toArray, List.set_cons_zero, List.set_cons_succ]
        refine wpAnyH_take (i := 5) (oi := { dst := some 41, op := Op.load 3 (Operand.tmp 40), type := 3, pos := "store.go:62", after := #[{ on := 4, ground := Ground.data }, { on := 7, ground := Ground.gcOnly Departure.lateStores }], guard := none }) (v := .int .i64 xk.at_) rfl (by kernel_rfl) (by kernel_rfl) (by kernel_rfl) (fun _ _ _ h => h) (Or.inl ⟨by rfl, (by intro w hSw; (try dsimp only at hSw); go_simp)⟩) hHeld ?_
        try simp only [Act.put, List.setIfInBounds_toArray, List.set_cons_zero, List.set_cons_succ]
        refine wpAnyH_take (i := 6) (oi := { dst := some 42, op := Op.binOp BinOp.sub 3 (Operand.tmp 39) (Operand.tmp 41) 3, type := 3, pos := "store.go:62", after := #[{ on := 3, ground := Ground.data }, { on := 5, ground := Ground.data }, { on := 7, ground := Ground.gcOnly Departure.lateStores }], guard := none }) (v := .int .i64 (now - xk.at_)) rfl (by kernel_rfl) (by kernel_rfl) (by kernel_rfl) (fun _ _ _ h => h) (Or.inl ⟨by rfl, (by intro w hSw; (try dsimp only at hSw); go_simp)⟩) hHeld ?_
        try simp only [Act.put, List.setIfInBounds_toArray, List.set_cons_zero, List.set_cons_succ]
        refine wpAnyH_ready (rs := [2]) (by kernel_rfl) (by simp) ?_
        refine AllReadyH.cons (o := { dst := some 38, op := Op.call { callee := Callee.value (Operand.func 26), args := #[Operand.tmp 37], argTypes := #[38] }, type := 38, pos := "store.go:62", after := #[{ on := 1, ground := Ground.data }], guard := none }) rfl (fun K hK => ?_) AllReadyH.nil
        go_simp
        go_at_call 26
        refine HCD.out.mono ?_
        rintro e w7 ⟨⟨⟨pc, pfa, pfn, pfc, pba, pbn, pbc, PL, PB⟩, rfl, hR7, hS7⟩, hb7⟩
        obtain ⟨⟨e0, e1, e2, e3, e4, e5, e6⟩, n7, ⟨r20, r21, r22, r30, r40, q2, q3, q4⟩⟩ := HKC.out w7 hb7
        dsimp only [RpM.val]
        go_wp2_with fail
        refine hK.out _ _ ⟨⟨e3, e4, e5, e6⟩, n7⟩ (fun hHeld => ?_)
        clear hK K
        try simp only [Act.put, List.setIfInBounds_toArray, List.set_cons_zero, List.set_cons_succ]
        refine wpAnyH_ready (rs := [7]) (by kernel_rfl) (by simp) ?_
        refine AllReadyH.cons (o := { dst := none, op := Op.store 38 (Operand.tmp 6) (Operand.tmp 38), type := 0, pos := "store.go:62", after := #[{ on := 2, ground := Ground.data }, { on := 2, ground := Ground.chain }, { on := 0, ground := Ground.phase }, { on := 1, ground := Ground.phase }, { on := 2, ground := Ground.phase }, { on := 3, ground := Ground.textOnly Departure.lateStores }, { on := 4, ground := Ground.textOnly Departure.lateStores }, { on := 5, ground := Ground.textOnly Departure.lateStores }, { on := 6, ground := Ground.textOnly Departure.lateStores }], guard := none }) rfl (fun K hK => ?_) AllReadyH.nil
        go_simp
        obtain ⟨W8, hW8⟩ : ∃ x, (((w7.setCell ⟨w.heap.size + 1 + 1, 0, none⟩ (.int .i64 pc)).setCell ⟨w.heap.size + 1 + 1, 1, none⟩ (.slice pfa pfn pfc)).setCell ⟨w.heap.size + 1 + 1, 2, none⟩ (.slice pba pbn pbc)) = x := ⟨_, rfl⟩
        have hSW8 : (fun (w' : World) => (w'.cell? ⟨nb, 3, none⟩ = some (.int .i64 xk.rp.code) ∧ w'.cell? ⟨nb, 4, none⟩ = some (.slice xk.rp.fa xk.rp.fn xk.rp.fc) ∧ w'.cell? ⟨nb, 5, none⟩ = some (.slice xk.rp.ba xk.rp.bn xk.rp.bc) ∧ w'.cell? ⟨nb, 6, none⟩ = some (.int .i64 xk.at_)) ∧ w'.cell? ⟨w.heap.size + 1, 0, none⟩ = some (.int .i64 now)) W8 := by rw [← hW8]; exact HSS.out _ _ _ _ (by omega) (by omega) (HSS.out _ _ _ _ (by omega) (by omega) (HSS.out _ _ _ _ (by omega) (by omega) ⟨⟨e3, e4, e5, e6⟩, n7⟩))
        rw [hW8]
        refine hK.out _ _ hSW8 (fun hHeld => ?_)
        clear hK K
        try simp only [Act.put, List.setIfInBounds_toArray, List.set_cons_zero, List.set_cons_succ]
        have r30' : W8.cell? ⟨w.heap.size + 1 + 1 + 1, 0, none⟩ = some (.int .i64 0) := by rw [← hW8]; rw [World.cell?_setCell_far _ _ _ _ (by show w.heap.size + 1 + 1 ≠ w.heap.size + 1 + 1 + 1; omega), World.cell?_setCell_far _ _ _ _ (by show w.heap.size + 1 + 1 ≠ w.heap.size + 1 + 1 + 1; omega), World.cell?_setCell_far _ _ _ _ (by show w.heap.size + 1 + 1 ≠ w.heap.size + 1 + 1 + 1; omega)]; exact r30
        have q3' : ∀ j, W8.frozen? ⟨w.heap.size + 1 + 1 + 1, j, none⟩ = false := fun j => frozen_of_row W8 _ j _ _ (by rw [← hW8]; rw [heap_setCell_other _ _ _ _ (by show w.heap.size + 1 + 1 + 1 ≠ w.heap.size + 1 + 1; omega), heap_setCell_other _ _ _ _ (by show w.heap.size + 1 + 1 + 1 ≠ w.heap.size + 1 + 1; omega), heap_setCell_other _ _ _ _ (by show w.heap.size + 1 + 1 + 1 ≠ w.heap.size + 1 + 1; omega)]; exact (HROW.out w7 hb7).2.1)
        have HW8 := vl hW8
        clear hW8 r20 r21 r22 r30 q2 q3
        refine wpAnyH_ready (rs := [8]) (by kernel_rfl) (by simp) ?_
        refine AllReadyH.cons (o := { dst := none, op := Op.store 3 (Operand.tmp 7) (Operand.tmp 42), type := 0, pos := "store.go:62", after := #[{ on := 6, ground := Ground.data }, { on := 7, ground := Ground.chain }, { on := 0, ground := Ground.phase }, { on := 1, ground := Ground.phase }, { on := 2, ground := Ground.phase }, { on := 3, ground := Ground.phase }, { on := 4, ground := Ground.phase }, { on := 5, ground := Ground.phase }, { on := 6, ground := Ground.phase }, { on := 7, ground := Ground.phase }], guard := none }) rfl (fun K hK => ?_) AllReadyH.nil
        go_simp
        obtain ⟨W9, hW9⟩ : ∃ x, W8.setCell ⟨w.heap.size + 1 + 1 + 1, 0, none⟩ (.int .i64 (now - xk.at_)) = x := ⟨_, rfl⟩
        have hSW9 : (fun (w' : World) => (w'.cell? ⟨nb, 3, none⟩ = some (.int .i64 xk.rp.code) ∧ w'.cell? ⟨nb, 4, none⟩ = some (.slice xk.rp.fa xk.rp.fn xk.rp.fc) ∧ w'.cell? ⟨nb, 5, none⟩ = some (.slice xk.rp.ba xk.rp.bn xk.rp.bc) ∧ w'.cell? ⟨nb, 6, none⟩ = some (.int .i64 xk.at_)) ∧ w'.cell? ⟨w.heap.size + 1, 0, none⟩ = some (.int .i64 now)) W9 := by rw [← hW9]; exact HSS.out _ _ _ _ (by omega) (by omega) hSW8
        rw [hW9]
        refine hK.out _ _ hSW9 (fun hHeld => ?_)
        clear hK K
        try simp only [Act.put, List.setIfInBounds_toArray, List.set_cons_zero, List.set_cons_succ]
        have hrow4 : W9.heap[w.heap.size + 1 + 1 + 1 + 1]? = some (.cells #[.nilIface] 41 (0, 0)) := by rw [← hW9, ← HW8.out]; rw [heap_setCell_other _ _ _ _ (by show w.heap.size + 1 + 1 + 1 + 1 ≠ w.heap.size + 1 + 1 + 1; omega), heap_setCell_other _ _ _ _ (by show w.heap.size + 1 + 1 + 1 + 1 ≠ w.heap.size + 1 + 1; omega), heap_setCell_other _ _ _ _ (by show w.heap.size + 1 + 1 + 1 + 1 ≠ w.heap.size + 1 + 1; omega), heap_setCell_other _ _ _ _ (by show w.heap.size + 1 + 1 + 1 + 1 ≠ w.heap.size + 1 + 1; omega)]; exact (HROW.out w7 hb7).2.2
        have r40' : W9.cell? ⟨w.heap.size + 1 + 1 + 1 + 1, 0, none⟩ = some .nilIface := by rw [cell_of_row _ _ _ _ _ _ hrow4]; rfl
        have q4' : ∀ j, W9.frozen? ⟨w.heap.size + 1 + 1 + 1 + 1, j, none⟩ = false := fun j => frozen_of_row W9 _ j _ _ hrow4
        have HW9 := vl hW9
        have HR4 := vl hrow4
        clear hW9 hrow4 r40 q4 r30' q3'
        refine wpAnyH_ready (rs := [9]) (by kernel_rfl) (by simp) ?_
        refine AllReadyH.cons (o := { dst := none, op := Op.store 41 (Operand.tmp 8) (Operand.const Value.nilIface), type := 0, pos := "store.go:62", after := #[{ on := 8, ground := Ground.chain }, { on := 0, ground := Ground.phase }, { on := 1, ground := Ground.phase }, { on := 2, ground := Ground.phase }, { on := 3, ground := Ground.phase }, { on := 4, ground := Ground.phase }, { on := 5, ground := Ground.phase }, { on := 6, ground := Ground.phase }, { on := 7, ground := Ground.phase }, { on := 8, ground := Ground.phase }], guard := none }) rfl (fun K hK => ?_) AllReadyH.nil
        go_simp
        obtain ⟨Wa, hWa⟩ : ∃ x, W9.setCell ⟨w.heap.size + 1 + 1 + 1 + 1, 0, none⟩ .nilIface = x := ⟨_, rfl⟩
        have hSWa : (fun (w' : World) => (w'.cell? ⟨nb, 3, none⟩ = some (.int .i64 xk.rp.code) ∧ w'.cell? ⟨nb, 4, none⟩ = some (.slice xk.rp.fa xk.rp.fn xk.rp.fc) ∧ w'.cell? ⟨nb, 5, none⟩ = some (.slice xk.rp.ba xk.rp.bn xk.rp.bc) ∧ w'.cell? ⟨nb, 6, none⟩ = some (.int .i64 xk.at_)) ∧ w'.cell? ⟨w.heap.size + 1, 0, none⟩ = some (.int .i64 now)) Wa := by rw [← hWa]; exact HSS.out _ _ _ _ (by omega) (by omega) hSW9
        rw [hWa]
        refine hK.out _ _ hSWa (fun hHeld => ?_)
        clear hK K
        try simp only [Act.put, List.setIfInBounds_toArray, List.set_cons_zero, List.set_cons_succ]
        refine wpAnyH_done (by kernel_rfl) (NoPanic.normal ?_) _
        have HWa := vl hWa
        clear hWa
        have hbz := vl hb7
        have hRz := vl hR7
        have hSz := vl hS7
        clear hHeld hSWa hSW9 hSW8 hb7 hR7 hS7 r40' q4' e0 e1 e2 e3 e4 e5 e6 n7
        gi_wp2_with fail
        have hb7 : Below W.heap.size W w7 := HBL6.out.drew.trans (hbz.out.mono HBL6.out.size)
        have hsw := HTN.out.size
        have hs6 : W.heap.size ≤ w6.drew.heap.size := HBL6.out.drew.size
        have hrz := HROW.out w7 hbz.out
        have hKO : KeepsOthers w7 Wa := by rw [← HWa.out, ← HW9.out, ← HW8.out]; exact ((((KeepsOthers.setCell _ _ _).trans (KeepsOthers.setCell _ _ _)).trans (KeepsOthers.setCell _ _ _)).trans (KeepsOthers.setCell _ _ _)).trans (KeepsOthers.setCell _ _ _)
        have hT7 : Tn (fun k => k = w.heap.size + 5 ∨ k = w.heap.size + 2 ∨ k = w.heap.size + 3 ∨ k = w.heap.size + 4) w7 Wa := by rw [← HWa.out, ← HW9.out, ← HW8.out]; exact ((((tn_set (Or.inr (Or.inl rfl))).trans' (tn_set (Or.inr (Or.inl rfl)))).trans' (tn_set (Or.inr (Or.inl rfl)))).trans' (tn_set (Or.inr (Or.inr (Or.inl rfl))))).trans' (tn_set (Or.inr (Or.inr (Or.inr rfl))))
        have hnw : ∀ d, RpB { code := pc, fa := pfa, fn := pfn, fc := pfc, ba := pba, bn := pbn, bc := pbc, FL := PL, B := PB } d → w6.drew.heap.size ≤ d := by
          rintro d (⟨p, hp, rfl, _⟩ | ⟨p, hp, rfl, _⟩)
          · exact hSz.out.newF p hp
          · exact hSz.out.newB p hp
        refine ⟨((zothers_of_below hb7).from _).trans (hKO.from _), rfl, pre, x, { code := pc, fa := pfa, fn := pfn, fc := pfc, ba := pba, bn := pbn, bc := pbc, FL := PL, B := PB }, rfl, HNO.out, HHIT.out, ?_, ?_, ?_, ?_, ?_, ?_, ?_⟩
        · refine hRz.out.tn hT7 (fun b hb e => ?_)
          have := hnw b hb
          rcases e with e | e | e | e <;> omega
        · rw [HXK.out]
          exact ⟨hSz.out.code, hSz.out.fn, hSz.out.bn, hSz.out.FL, hSz.out.B, fun p hp => by have := hSz.out.newF p hp; omega, fun p hp => by have := hSz.out.newB p hp; omega⟩
        · intro d hd
          have := hnw d hd
          omega
        · rw [← HWa.out, ← HW9.out, ← HW8.out, heap_setCell_other _ _ _ _ (by show w.heap.size + 2 ≠ w.heap.size + 1 + 1 + 1 + 1; omega), heap_setCell_other _ _ _ _ (by show w.heap.size + 2 ≠ w.heap.size + 1 + 1 + 1; omega)]
          exact gbox_set3 hrz.1
        · show Wa.heap[w.heap.size + 3]? = _
          rw [← HWa.out, ← HW9.out, ← HW8.out, heap_setCell_other _ _ _ _ (by show w.heap.size + 3 ≠ w.heap.size + 1 + 1 + 1 + 1; omega), HXK.out]
          refine gbox_set (u := .int .i64 0) ?_
          rw [heap_setCell_other _ _ _ _ (by show w.heap.size + 1 + 1 + 1 ≠ w.heap.size + 1 + 1; omega), heap_setCell_other _ _ _ _ (by show w.heap.size + 1 + 1 + 1 ≠ w.heap.size + 1 + 1; omega), heap_setCell_other _ _ _ _ (by show w.heap.size + 1 + 1 + 1 ≠ w.heap.size + 1 + 1; omega)]
          exact hrz.2.1
        · show Wa.heap[w.heap.size + 4]? = _
          rw [← HWa.out]
          exact gbox_set HR4.out
        · exact ((⟨HTN.out.os, HTN.out.tape, HTN.out.output, HTN.out.size, fun k hk hn => HTN.out.block k hk (fun e => hn (Or.inl e))⟩ : Tn (fun k => k = w.heap.size + 5 ∨ k = w.heap.size + 2 ∨ k = w.heap.size + 3 ∨ k = w.heap.size + 4) V2 W).trans' (Tn.of_below hb7)).trans' hT7
  case done =>
    rintro Db xs X hD ⟨hbk, hxl⟩ ⟨hno, hTn⟩ hX
    have hTs : ∀ k, k < w.heap.size + 5 → X.heap[k]? = V2.heap[k]? := fun k hk => hTn.block k (by omega) (fun e => by have e' : k = w.heap.size + 5 := e; omega)
    have y2 := (hTs (w.heap.size + 2) (by omega)).trans HZ2.out
    have y3 := (hTs (w.heap.size + 3) (by omega)).trans HZ3.out
    have y4 := (hTs (w.heap.size + 4) (by omega)).trans HZ4.out
    have e20 : X.cell? ⟨w.heap.size + 1 + 1, 0, none⟩ = some (.int .i64 0) := by rw [cell_of_row _ _ _ _ _ _ y2]; rfl
    have e21 : X.cell? ⟨w.heap.size + 1 + 1, 1, none⟩ = some (.slice none 0 0) := by rw [cell_of_row _ _ _ _ _ _ y2]; rfl
    have e22 : X.cell? ⟨w.heap.size + 1 + 1, 2, none⟩ = some (.slice none 0 0) := by rw [cell_of_row _ _ _ _ _ _ y2]; rfl
    have e30 : X.cell? ⟨w.heap.size + 1 + 1 + 1, 0, none⟩ = some (.int .i64 0) := by rw [cell_of_row _ _ _ _ _ _ y3]; rfl
    have e40 : X.cell? ⟨w.heap.size + 1 + 1 + 1 + 1, 0, none⟩ = some .nilIface := by rw [cell_of_row _ _ _ _ _ _ y4]; rfl
    have g2 : ∀ j, X.frozen? ⟨w.heap.size + 1 + 1, j, none⟩ = false := fun j => frozen_of_row X _ j _ _ y2
    have g3 : ∀ j, X.frozen? ⟨w.heap.size + 1 + 1 + 1, j, none⟩ = false := fun j => frozen_of_row X _ j _ _ y3
    have g4 : ∀ j, X.frozen? ⟨w.heap.size + 1 + 1 + 1 + 1, j, none⟩ = false := fun j => frozen_of_row X _ j _ _ y4
    have HNONE : Vl (∀ s, s < ks.length → ¬ hitP q now (ks.getD s kz)) := vl (fun s hs => by
      obtain ⟨y, hy1, hy2⟩ := hbk.2 (ks.length - 1 - s) (by omega)
      have := hno y (List.mem_of_getElem? hy1)
      rw [y.2.2, hy2, show ks.length - 1 - (ks.length - 1 - s) = s by omega] at this
      exact this)
    have HY2 := vl y2
    have HY3 := vl y3
    have HY4 := vl y4
    have HTN := vl hTn
    have HX := vl hX
    have HD := vl hD
    clear hbk hno hTn hX hTs y2 y3 y4 h00 hBX2 hST2
    gi_wp2_with fail
    obtain ⟨X6, hX6⟩ : ∃ x, ((((X.setCell ⟨w.heap.size + 1 + 1, 0, none⟩ (.int .i64 0)).setCell ⟨w.heap.size + 1 + 1, 1, none⟩ (.slice none 0 0)).setCell ⟨w.heap.size + 1 + 1, 2, none⟩ (.slice none 0 0)).setCell ⟨w.heap.size + 1 + 1 + 1, 0, none⟩ (.int .i64 0)).setCell ⟨w.heap.size + 1 + 1 + 1 + 1, 0, none⟩ (.iface 60 (.int .i64 5)) = x := ⟨_, rfl⟩
    have hK6 : KeepsOthers X X6 := by rw [← hX6]; exact ((((KeepsOthers.setCell _ _ _).trans (KeepsOthers.setCell _ _ _)).trans (KeepsOthers.setCell _ _ _)).trans (KeepsOthers.setCell _ _ _)).trans (KeepsOthers.setCell _ _ _)
    have hT6 : Tn (fun k => k = w.heap.size + 5 ∨ k = w.heap.size + 2 ∨ k = w.heap.size + 3 ∨ k = w.heap.size + 4) X X6 := by rw [← hX6]; exact ((((tn_set (Or.inr (Or.inl rfl))).trans' (tn_set (Or.inr (Or.inl rfl)))).trans' (tn_set (Or.inr (Or.inl rfl)))).trans' (tn_set (Or.inr (Or.inr (Or.inl rfl))))).trans' (tn_set (Or.inr (Or.inr (Or.inr rfl))))
    have u2 : X6.heap[w.heap.size + 1 + 1]? = some (.cells #[.int .i64 0, .slice none 0 0, .slice none 0 0] 38 (0, 0)) := by
      rw [← hX6, heap_setCell_other _ _ _ _ (by show w.heap.size + 1 + 1 ≠ w.heap.size + 1 + 1 + 1 + 1; omega), heap_setCell_other _ _ _ _ (by show w.heap.size + 1 + 1 ≠ w.heap.size + 1 + 1 + 1; omega)]
      exact gbox_set3 HY2.out
    have u3 : X6.heap[w.heap.size + 1 + 1 + 1]? = some (.cells #[.int .i64 0] 3 (0, 0)) := by
      rw [← hX6, heap_setCell_other _ _ _ _ (by show w.heap.size + 1 + 1 + 1 ≠ w.heap.size + 1 + 1 + 1 + 1; omega)]
      refine gbox_set (u := .int .i64 0) ?_
      rw [heap_setCell_other _ _ _ _ (by show w.heap.size + 1 + 1 + 1 ≠ w.heap.size + 1 + 1; omega), heap_setCell_other _ _ _ _ (by show w.heap.size + 1 + 1 + 1 ≠ w.heap.size + 1 + 1; omega), heap_setCell_other _ _ _ _ (by show w.heap.size + 1 + 1 + 1 ≠ w.heap.size + 1 + 1; omega)]
      exact HY3.out
    have u4 : X6.heap[w.heap.size + 1 + 1 + 1 + 1]? = some (.cells #[.iface 60 (.int .i64 5)] 41 (0, 0)) := by
      rw [← hX6]
      refine gbox_set (u := .nilIface) ?_
      rw [heap_setCell_other _ _ _ _ (by show w.heap.size + 1 + 1 + 1 + 1 ≠ w.heap.size + 1 + 1 + 1; omega), heap_setCell_other _ _ _ _ (by show w.heap.size + 1 + 1 + 1 + 1 ≠ w.heap.size + 1 + 1; omega), heap_setCell_other _ _ _ _ (by show w.heap.size + 1 + 1 + 1 + 1 ≠ w.heap.size + 1 + 1; omega), heap_setCell_other _ _ _ _ (by show w.heap.size + 1 + 1 + 1 + 1 ≠ w.heap.size + 1 + 1; omega)]
      exact HY4.out
    rw [hX6]
    have hX2 : X6.heap[Db]? = some (.deferred (some [])) := hK6.same Db _ HX.out rfl
    have hD := HD.out
    refine ⟨by simp, .inl ⟨_, _, rfl, run_takeDeferred (b := Db) (ds := []) hX2, ?_⟩⟩
    have hbw : Below w.heap.size w X6 := get_below HBW2.out hs2 ((⟨HTN.out.os, HTN.out.tape, HTN.out.output, HTN.out.size, fun k hk hn => HTN.out.block k hk (fun e => hn (Or.inl e))⟩ : Tn (fun k => k = w.heap.size + 5 ∨ k = w.heap.size + 2 ∨ k = w.heap.size + 3 ∨ k = w.heap.size + 4) V2 X).trans' hT6)
    have v2 := (World.putObj_heap_other (w := X6) (r := Db) (o := .deferred none) (k := w.heap.size + 1 + 1) (by omega)).trans u2
    have v3 := (World.putObj_heap_other (w := X6) (r := Db) (o := .deferred none) (k := w.heap.size + 1 + 1 + 1) (by omega)).trans u3
    have v4 := (World.putObj_heap_other (w := X6) (r := Db) (o := .deferred none) (k := w.heap.size + 1 + 1 + 1 + 1) (by omega)).trans u4
    have j20 : (X6.putObj Db (.deferred none)).cell? ⟨w.heap.size + 1 + 1, 0, none⟩ = some (.int .i64 0) := by rw [cell_of_row _ _ _ _ _ _ v2]; rfl
    have j21 : (X6.putObj Db (.deferred none)).cell? ⟨w.heap.size + 1 + 1, 1, none⟩ = some (.slice none 0 0) := by rw [cell_of_row _ _ _ _ _ _ v2]; rfl
    have j22 : (X6.putObj Db (.deferred none)).cell? ⟨w.heap.size + 1 + 1, 2, none⟩ = some (.slice none 0 0) := by rw [cell_of_row _ _ _ _ _ _ v2]; rfl
    have j3 : (X6.putObj Db (.deferred none)).cell? ⟨w.heap.size + 1 + 1 + 1, 0, none⟩ = some (.int .i64 0) := by rw [cell_of_row _ _ _ _ _ _ v3]; rfl
    have j4 : (X6.putObj Db (.deferred none)).cell? ⟨w.heap.size + 1 + 1 + 1 + 1, 0, none⟩ = some (.iface 60 (.int .i64 5)) := by rw [cell_of_row _ _ _ _ _ _ v4]; rfl
    refine ⟨.tuple #[.agg #[.int .i64 0, .slice none 0 0, .slice none 0 0], .int .i64 0, .iface 60 (.int .i64 5)], by simp [results, Tryz.results10, go_sem, j20, j21, j22, j3, j4], Or.inr ⟨HNONE.out, rfl⟩, ?_⟩
    exact get_belowD hbw (by omega)
  case stop =>
    rintro Db c pre X hD hsp ⟨rfl, p0, x, p, e1, e2, e3, e4, e5, e6, e7, e8, e9, e10⟩ hX
    gi_wp2
    refine ⟨by simp, .inl ⟨_, _, rfl, run_takeDeferred (b := Db) (ds := []) hX, ?_⟩⟩
    have hbw : Below w.heap.size w X := get_below HBW2.out hs2 e10
    have v2 := (World.putObj_heap_other (w := X) (r := Db) (o := .deferred none) (k := w.heap.size + 1 + 1) (by omega)).trans e7
    have v3 := (World.putObj_heap_other (w := X) (r := Db) (o := .deferred none) (k := w.heap.size + 1 + 1 + 1) (by omega)).trans e8
    have v4 := (World.putObj_heap_other (w := X) (r := Db) (o := .deferred none) (k := w.heap.size + 1 + 1 + 1 + 1) (by omega)).trans e9
    have j20 : (X.putObj Db (.deferred none)).cell? ⟨w.heap.size + 1 + 1, 0, none⟩ = some (.int .i64 p.code) := by rw [cell_of_row _ _ _ _ _ _ v2]; rfl
    have j21 : (X.putObj Db (.deferred none)).cell? ⟨w.heap.size + 1 + 1, 1, none⟩ = some (.slice p.fa p.fn p.fc) := by rw [cell_of_row _ _ _ _ _ _ v2]; rfl
    have j22 : (X.putObj Db (.deferred none)).cell? ⟨w.heap.size + 1 + 1, 2, none⟩ = some (.slice p.ba p.bn p.bc) := by rw [cell_of_row _ _ _ _ _ _ v2]; rfl
    have j3 : (X.putObj Db (.deferred none)).cell? ⟨w.heap.size + 1 + 1 + 1, 0, none⟩ = some (.int .i64 (now - x.1.2.at_)) := by rw [cell_of_row _ _ _ _ _ _ v3]; rfl
    have j4 : (X.putObj Db (.deferred none)).cell? ⟨w.heap.size + 1 + 1 + 1 + 1, 0, none⟩ = some .nilIface := by rw [cell_of_row _ _ _ _ _ _ v4]; rfl
    refine ⟨.tuple #[p.val, .int .i64 (now - x.1.2.at_), .nilIface], by simp [results, Tryz.results10, go_sem, j20, j21, j22, j3, j4, RpM.val], Or.inl ?_, get_belowD hbw (by omega)⟩
    subst e1
    have hsp' : BkI ks (p0 ++ [x]) := hsp
    have hlx := hsp'.1
    rw [List.length_append, List.length_singleton] at hlx
    obtain ⟨x', hx1, hx2⟩ := hsp'.2 p0.length (by rw [List.length_append, List.length_singleton]; omega)
    rw [List.getElem?_append_right (Nat.le_refl _), Nat.sub_self] at hx1
    cases (Option.some.inj hx1 : x = x')
    refine ⟨x.1.1, p, x.2.1, by rw [← x.2.2]; exact e3, fun s h1 h2 => ?_, by rw [← x.2.2], rp_own e4 (grownBy_putObj' X Db (.deferred none)) (fun r e' => by cases e'; exact ⟨_, hX, rfl⟩), by rw [← x.2.2]; exact e5⟩
    obtain ⟨y, hy1, hy2⟩ := hsp'.2 (ks.length - 1 - s) (by rw [List.length_append, List.length_singleton]; omega)
    rw [List.getElem?_append_left (by omega)] at hy1
    have := e2 y (List.mem_of_getElem? hy1)
    rw [y.2.2, hy2, show ks.length - 1 - (ks.length - 1 - s) = s by omega] at this
    exact this
/-- Get, where the time is one and the method is GET. -/
theorem zget_any (sb : Nat) (v : Value) (ks : List KpM) (q : RqM) (now : Int) (w : World) (h : StM w sb v ks) (hq : RqIn w q) (hqs : RqS q) (hm : QOk w) (hn : 0 ≤ now ∧ now ≤ 1000000) (hget : unums q.m = getN) (hgl : 9 ≤ w.heap.size) :
    Calls Tryz.prog 10 #[.pointer (some ⟨sb, 0, none⟩), q.val, .int .i64 now] w fun e w' => GetE w ks q now e w' ∧ Below w.heap.size w w' := callsIn_wide.1 (zget_in sb v ks q now w h hq hqs hm hn hget hgl)
end Go.Proofs.YtibipnipeaeonaaGreatDoor
