/-
  A REGION THAT DRAWS ITS ORDER, inside a round of a loop over a function: walked as outside. No claim by itself.
-/
import Derived.Deep.RegionHeld3
import Derived.OrdersHeld
import Derived.OrdersIn
import Derived.Test.YtgdcnbnpjpbldaaDoorTD
namespace Go.Proofs.YtgdcnbnpjpbldaaDoor
open Go Go.RowKit
theorem opIn_of_op {P : Program} {o : Oper} {a : Act} {w : World} {K : Act → World → Prop} {Q : Exit → Act → World → Prop} {l n : Nat} (hnd : ∀ c, o.op ≠ .defer c) (h : o.wp P a w K Q) : o.wpIn (Fence.wide.inRound l) n P a w K Q := by
  refine ⟨fun f _ => trivial, ?_⟩
  rw [Oper.semAt_eq _ _ _ hnd]
  unfold Oper.wp at h
  generalize (execOp a.eval o).run P w = r at h ⊢
  cases r with
  | ok x w' =>
    cases x <;> simp only [Oper.upon, Oper.uponIn] at h ⊢ <;> first
      | exact h
      | exact ⟨fun e => by simp [Fence.inRound, Fence.wide] at e, CallsIn.inRound l (callsIn_wide.2 h)⟩
      | exact ⟨fun e => by simp [Fence.inRound, Fence.wide] at e, fun c cs _ => let ⟨v, w', hr, hs⟩ := h c cs; ⟨v, w', hr, stepsIn_wide.2 hs⟩⟩
      | exact h.elim
  | halt x w' => cases x <;> simp only [Oper.upon, Oper.uponIn] at h ⊢ <;> exact h
theorem wpAnyIn_of_wpAny {P : Program} {md : Region.Mode} {ops : Array Oper} {Q : Exit → Act → World → Prop} {l n : Nat} (hL : ¬ LetsOut Q) (hnd : ∀ (i : Nat) (o : Oper), ops[i]? = some o → ∀ c, o.op ≠ .defer c) :
    ∀ (fuel : Nat) (listed : Array Bool) (a : Act) (w : World), wpAny P md ops Q fuel listed a w → wpAnyIn (Fence.wide.inRound l) n P md ops Q fuel listed a w
  | 0, _, _, _, h => h
  | fuel + 1, listed, a, w, h => ⟨h.1, fun i hi => by
    have h1 := h.2 i hi
    unfold wpOp at h1
    unfold wpOpIn
    cases ho : ops[i]? with
    | none => simp only [ho] at h1 ⊢; exact wpAnyIn_of_wpAny hL hnd fuel _ _ _ h1
    | some o =>
      simp only [ho] at h1 ⊢
      split
      · rename_i hw
        simp only [hw, if_true] at h1
        rcases h1 with h1 | ⟨_, h1⟩
        · exact Oper.wpIn_mono (fun a' w' h' => wpAnyIn_of_wpAny hL hnd fuel _ a' w' h') (opIn_of_op (hnd i o ho) h1)
        · exact absurd h1 hL
      · rename_i hw
        simp only [hw, if_false, Bool.false_eq_true] at h1
        exact ⟨fun f _ => trivial, wpAnyIn_of_wpAny hL hnd fuel _ _ _ h1⟩⟩
/-- The beginning. -/
theorem wpIn_region_held {P : Program} {id : Nat} {ops : Array Oper} {Q : Exit → Act → World → Prop} {S : World → Prop} {l n : Nat} {a : Act} {w : World} (hm : P.follows .mixedOrders = true) (hL : ¬ LetsOut Q) (hnd : ops.all (fun (o : Oper) => match o.op with | .defer _ => false | _ => true) = true) (hS : S w.drew)
    (h : S w.drew → wpAnyH P .any ops Q S ops.size (Array.replicate ops.size false) a w.drew) : (Code.region id ops true).wpIn (Fence.wide.inRound l) n P Q a w := by
  refine wpIn_region_any hm (wpAnyIn_of_wpAny hL (fun i o ho c hc => ?_) _ _ _ _ (wpAny_of_held _ _ _ _ (h hS)))
  have hmem : o ∈ ops := Array.mem_of_getElem? ho
  have := (Array.all_eq_true_iff_forall_mem.1 hnd) o hmem
  rw [hc] at this
  cases this
end Go.Proofs.YtgdcnbnpjpbldaaDoor
/-
  WHAT WAS ANSWERED: the developers' Get. No claim by itself.
-/
namespace Go.Proofs.YtgdcnbnpjpbldaaDoor
open Go Go.RowKit Go.Shelf
set_option maxRecDepth 100000
attribute [local go_sem] Oper.semAt_some
def hitP (q : RqM) (now : Int) (k : KpM) : Prop := fitP k q ∧ livesP k now
/-- What Get tells. -/
def GetE (w : World) (ks : List KpM) (q : RqM) (now : Int) (e : Ending) (w' : World) : Prop :=
  (∃ t p, t < ks.length ∧ hitP q now (ks.getD t kz) ∧ (∀ s, t < s → s < ks.length → ¬ hitP q now (ks.getD s kz)) ∧ e = .returned (.tuple #[p.val, .int .i64 (now - (ks.getD t kz).at_), .nilIface]) ∧ RpIn w' p ∧ SameR w (ks.getD t kz).rp p) ∨
  ((∀ s, s < ks.length → ¬ hitP q now (ks.getD s kz)) ∧ e = .returned (.tuple #[.agg #[.int .i64 0, .slice none 0 0, .slice none 0 0], .int .i64 0, .iface 55 (.int .i64 5)]))
/-- What holds behind the places pre. -/
def GtI (w2 : World) (b : Nat) (ks : List KpM) (q : RqM) (now : Int) (pre : List (Bk ks)) (W : World) : Prop := (∀ x ∈ pre, ¬ hitP q now x.1.2) ∧ Tn (fun k => k = b) w2 W
/-- What holds where one was found. -/
def GtX (w w2 : World) (b n0 : Nat) (ks : List KpM) (q : RqM) (now : Int) (c : Code) (pre : List (Bk ks)) (W : World) : Prop :=
  c = .ret ∧ ∃ p0 x p, pre = p0 ++ [x] ∧ (∀ y ∈ p0, ¬ hitP q now y.1.2) ∧ hitP q now x.1.2 ∧ RpIn W p ∧ SameR w x.1.2.rp p ∧ (∀ d, RpB p d → w2.heap.size ≤ d) ∧
    W.heap[n0 + 2]? = some (.cells #[.int .i64 p.code, .slice p.fa p.fn p.fc, .slice p.ba p.bn p.bc] 27 (0, 0)) ∧ Boxed W (n0 + 3) 3 (.int .i64 (now - x.1.2.at_)) ∧ Boxed W (n0 + 4) 35 .nilIface ∧ Tn (fun k => k = b ∨ k = n0 + 2 ∨ k = n0 + 3 ∨ k = n0 + 4) w2 W
/-- The cells of Get's results, zero yet. -/
structure RsC (W : World) (n : Nat) : Prop where
  r20 : W.cell? ⟨n + 1 + 1, 0, none⟩ = some (.int .i64 0)
  r21 : W.cell? ⟨n + 1 + 1, 1, none⟩ = some (.slice none 0 0)
  r22 : W.cell? ⟨n + 1 + 1, 2, none⟩ = some (.slice none 0 0)
  r30 : W.cell? ⟨n + 1 + 1 + 1, 0, none⟩ = some (.int .i64 0)
  r40 : W.cell? ⟨n + 1 + 1 + 1 + 1, 0, none⟩ = some .nilIface
  f2 : ∀ j, W.frozen? ⟨n + 1 + 1, j, none⟩ = false
  f3 : ∀ j, W.frozen? ⟨n + 1 + 1 + 1, j, none⟩ = false
  f4 : ∀ j, W.frozen? ⟨n + 1 + 1 + 1 + 1, j, none⟩ = false
theorem RsC.of {W : World} {n : Nat} {t t3 t4 : TypeId} (h2 : W.heap[n + 2]? = some (.cells #[.int .i64 0, .slice none 0 0, .slice none 0 0] t (0, 0))) (h3 : W.heap[n + 3]? = some (.cells #[.int .i64 0] t3 (0, 0))) (h4 : W.heap[n + 4]? = some (.cells #[.nilIface] t4 (0, 0))) : RsC W n := by
  refine ⟨?_, ?_, ?_, ?_, ?_, fun j => frozen_of_row W _ j _ _ h2, fun j => frozen_of_row W _ j _ _ h3, fun j => frozen_of_row W _ j _ _ h4⟩
  · rw [cell_of_row _ _ _ _ _ _ h2]; rfl
  · rw [cell_of_row _ _ _ _ _ _ h2]; rfl
  · rw [cell_of_row _ _ _ _ _ _ h2]; rfl
  · rw [cell_of_row _ _ _ _ _ _ h3]; rfl
  · rw [cell_of_row _ _ _ _ _ _ h4]; rfl
theorem rp_own {X Y : World} {row : Option Nat} {p : RpM} (h : RpIn X p) (hgr : X.grownBy Y row) (hr : ∀ r, row = some r → ∃ o : Obj, X.heap[r]? = some o ∧ o.isCells = false) : RpIn Y p := by
  refine h.tn (S := fun k => row = some k) ⟨hgr.os, hgr.tape, hgr.output, hgr.size, fun k hk hn => hgr.block k hk (fun e => hn e.symm)⟩ (fun b hb e => ?_)
  obtain ⟨o, ho, hc⟩ := hr b e
  have no : ∀ j v, X.cell? ⟨b, j, none⟩ ≠ some v := fun j v hv => by
    unfold World.cell? at hv
    rw [ho] at hv
    cases o <;> simp_all [Obj.isCells]
  rcases hb with ⟨a, ha, rfl, h0⟩ | ⟨a, ha, rfl, h0⟩
  · rcases h.fields with ⟨e0, _⟩ | ⟨g, off, e0, hrw⟩
    · omega
    · rw [ha] at e0; cases e0; exact no _ _ (hrw.hname 0 h0)
  · rcases h.body with ⟨e0, _⟩ | ⟨g, off, e0, hrw⟩
    · omega
    · rw [ha] at e0; cases e0; exact no _ _ (hrw.hcell 0 h0)
theorem gbox_set {w : World} {n : Nat} {t : TypeId} {u v : Value} (h : w.heap[n]? = some (.cells #[u] t (0, 0))) : (w.setCell ⟨n, 0, none⟩ v).heap[n]? = some (.cells #[v] t (0, 0)) := heap_setCell_same w n 0 _ t v h
theorem gbox_set3 {w : World} {n : Nat} {t : TypeId} {a b c x y z : Value} (h : w.heap[n]? = some (.cells #[a, b, c] t (0, 0))) : (((w.setCell ⟨n, 0, none⟩ x).setCell ⟨n, 1, none⟩ y).setCell ⟨n, 2, none⟩ z).heap[n]? = some (.cells #[x, y, z] t (0, 0)) :=
  heap_setCell_same _ n 2 _ t z (heap_setCell_same _ n 1 _ t y (heap_setCell_same w n 0 _ t x h))
theorem get_below {w V2 X : World} (h : Below w.heap.size w V2) (hs : V2.heap.size = w.heap.size + 6) (ht : Tn (fun k => k = w.heap.size + 5 ∨ k = w.heap.size + 2 ∨ k = w.heap.size + 3 ∨ k = w.heap.size + 4) V2 X) : Below w.heap.size w X :=
  ⟨by rw [ht.os, h.os], by rw [ht.tape, h.tape], by rw [ht.output, h.output], Nat.le_trans h.size ht.size, fun k hk => (ht.block k (by omega) (fun e => by rcases e with e | e | e | e <;> omega)).trans (h.block k hk)⟩
theorem get_belowD {w X : World} {D : Nat} (h : Below w.heap.size w X) (hD : w.heap.size ≤ D) : Below w.heap.size w (X.putObj D (.deferred none)) :=
  ⟨h.os, h.tape, h.output, by rw [World.putObj_size]; exact h.size, fun k hk => (World.putObj_heap_other (by omega)).trans (h.block k hk)⟩
set_option maxHeartbeats 8000000 in
theorem zget_in (sb : Nat) (v : Value) (ks : List KpM) (q : RqM) (now : Int) (w : World) (h : StM w sb v ks) (hq : RqIn w q) (hqs : RqS q) (hm : QOk w) (hn : 0 ≤ now ∧ now ≤ 1000000) (hget : unums q.m = getN) (hgl : 8 ≤ w.heap.size) :
    CallsIn Fence.wide 9 Tryd.prog 9 #[.pointer (some ⟨sb, 0, none⟩), q.val, .int .i64 now] w fun e w' => GetE w ks q now e w' ∧ Below w.heap.size w w' := by
  obtain ⟨W1, hW1⟩ : ∃ x, ((((w.alloc (.cells #[.string q.m, .string q.p, .string q.h, .slice q.fa q.fn q.fc, .slice q.ba q.bn q.bc] 25)).alloc (.cells #[.int .i64 now] 3)).alloc (.cells #[.int .i64 0, .slice none 0 0, .slice none 0 0] 27)).alloc (.cells #[.int .i64 0] 3)).alloc (.cells #[.nilIface] 35) = x := ⟨_, rfl⟩
  have hB1 : Below w.heap.size w W1 := by rw [← hW1]; exact (((((Below.refl _ w).alloc (Nat.le_refl _) _).alloc (by simp) _).alloc (by simp <;> omega) _).alloc (by simp <;> omega) _).alloc (by simp <;> omega) _
  have hs1 : W1.heap.size = w.heap.size + 5 := by rw [← hW1]; simp
  have al : ∀ (V : World) (o : Obj) (k : Nat) (x : Option Obj), k < V.heap.size → V.heap[k]? = x → (V.alloc o).heap[k]? = x := fun V o k x hk e => (Below.heap_alloc _ _ _ hk).trans e
  have k0 : W1.heap[w.heap.size]? = some (.cells #[.string q.m, .string q.p, .string q.h, .slice q.fa q.fn q.fc, .slice q.ba q.bn q.bc] 25 (0, 0)) := by
    rw [← hW1]; exact al _ _ _ _ (by simp <;> omega) (al _ _ _ _ (by simp <;> omega) (al _ _ _ _ (by simp <;> omega) (al _ _ _ _ (by simp) (heap_alloc_new w _))))
  have k1 : W1.heap[w.heap.size + 1]? = some (.cells #[.int .i64 now] 3 (0, 0)) := by
    rw [← hW1]
    have := heap_alloc_new (w.alloc (.cells #[.string q.m, .string q.p, .string q.h, .slice q.fa q.fn q.fc, .slice q.ba q.bn q.bc] 25)) (.cells #[.int .i64 now] 3 (0, 0))
    rw [World.size_alloc] at this
    exact al _ _ _ _ (by simp <;> omega) (al _ _ _ _ (by simp <;> omega) (al _ _ _ _ (by simp) this))
  have k2 : W1.heap[w.heap.size + 2]? = some (.cells #[.int .i64 0, .slice none 0 0, .slice none 0 0] 27 (0, 0)) := by
    rw [← hW1]
    have := heap_alloc_new ((w.alloc (.cells #[.string q.m, .string q.p, .string q.h, .slice q.fa q.fn q.fc, .slice q.ba q.bn q.bc] 25)).alloc (.cells #[.int .i64 now] 3)) (.cells #[.int .i64 0, .slice none 0 0, .slice none 0 0] 27 (0, 0))
    simp only [World.size_alloc] at this
    exact al _ _ _ _ (by simp <;> omega) (al _ _ _ _ (by simp) this)
  have k3 : W1.heap[w.heap.size + 3]? = some (.cells #[.int .i64 0] 3 (0, 0)) := by
    rw [← hW1]
    have := heap_alloc_new (((w.alloc (.cells #[.string q.m, .string q.p, .string q.h, .slice q.fa q.fn q.fc, .slice q.ba q.bn q.bc] 25)).alloc (.cells #[.int .i64 now] 3)).alloc (.cells #[.int .i64 0, .slice none 0 0, .slice none 0 0] 27)) (.cells #[.int .i64 0] 3 (0, 0))
    simp only [World.size_alloc] at this
    exact al _ _ _ _ (by simp) this
  have k4 : W1.heap[w.heap.size + 4]? = some (.cells #[.nilIface] 35 (0, 0)) := by
    rw [← hW1]
    have := heap_alloc_new ((((w.alloc (.cells #[.string q.m, .string q.p, .string q.h, .slice q.fa q.fn q.fc, .slice q.ba q.bn q.bc] 25)).alloc (.cells #[.int .i64 now] 3)).alloc (.cells #[.int .i64 0, .slice none 0 0, .slice none 0 0] 27)).alloc (.cells #[.int .i64 0] 3)) (.cells #[.nilIface] 35 (0, 0))
    simp only [World.size_alloc] at this
    exact this
  have c1 : W1.cell? ⟨w.heap.size + 1, 0, none⟩ = some (.int .i64 now) := by rw [cell_of_row _ _ _ _ _ _ k1]; rfl
  have c0 : W1.cell? ⟨w.heap.size, 0, none⟩ = some (.string q.m) := by rw [cell_of_row _ _ _ _ _ _ k0]; rfl
  have HIT := vl (zistime_any now W1)
  rw [decide_eq_true hn] at HIT
  have h1 := h.below hB1
  have f0 := h1.cell
  obtain ⟨va, vn, vc, hv⟩ : ∃ a n c, v = .slice a n c := by
    rcases h.shape with ⟨e, _⟩ | ⟨g, cap, e⟩
    · exact ⟨_, _, _, e⟩
    · exact ⟨_, _, _, e⟩
  have HBA := vl (zback_any v W1 ⟨_, _, _, hv⟩)
  rw [hv] at f0 HBA
  have hgm : q.m.toList = [71, 69, 84] := un_lit.2 hget
  have hgm2 : (q.m.toList == [71, 69, 84]) = true := by simpa using hgm
  show CallsIn Fence.wide 9 Tryd.prog 9 #[.pointer (some ⟨sb, 0, none⟩), .agg #[.string q.m, .string q.p, .string q.h, .slice q.fa q.fn q.fc, .slice q.ba q.bn q.bc], .int .i64 now] w _
  have HST1 := vl h1
  have HQ := vl (hq.below hB1)
  have HM := vl (hm.below hB1)
  have HB1 := vl hB1
  have HV := vl hv
  have HK0 := vl k0
  have HK1 := vl k1
  have HK2 := vl k2
  have HK3 := vl k3
  have HK4 := vl k4
  have HS1 := vl hs1
  have HLT := vl h.lt
  clear h hq hm h1 hB1 hv k0 k1 k2 k3 k4 al hget
  refine callsIn_of_wp_marks Tryd.func9 rfl trivial ?_ rfl
  simp only [Tryd.ntmps9, List.size_toArray, List.length_cons, List.length_nil, Nat.reduceAdd, Nat.reduceSub, Array.replicate_succ, Array.replicate_zero, List.push_toArray, List.append_toArray, List.nil_append, List.cons_append]
  gi_wp2_with fail
  refine ⟨trivial, ?_⟩
  refine (callsIn_wide.2 HIT.out).mono ?_
  rintro e w2 ⟨rfl, rfl⟩
  gi_wp2_with fail
  refine ⟨trivial, ?_⟩
  refine (callsIn_wide.2 HBA.out).mono ?_
  rintro e W2 ⟨rfl, hW2⟩
  clear HIT HBA
  gi_wp2_with fail
  obtain ⟨V2, hV2⟩ : ∃ x, W1.alloc (.cells #[.slice va vn vc] 52) = x := ⟨_, rfl⟩
  have hs2 : V2.heap.size = w.heap.size + 6 := by rw [← hV2, World.size_alloc, HS1.out]
  have hB2 : Below W1.heap.size W1 V2 := by rw [← hV2]; exact (Below.refl _ W1).alloc (Nat.le_refl _) _
  have hST2 := HST1.out.below hB2
  have hBX2 : Boxed V2 (w.heap.size + 5) 52 v := by rw [HV.out, ← hV2, ← HS1.out]; exact Boxed.new W1 52 _
  have hl21 := hST2.most
  rw [hV2]
  clear hV2 hW2
  have hsl : sb < w.heap.size := HLT.out
  have HKs : Vl (∀ k, StS sb v k → k < w.heap.size + 5) := vl (fun k hk => by have := sts_lt HST1.out hk; have := HS1.out; omega)
  have h00 : GtI V2 (w.heap.size + 5) ks q now [] V2 := ⟨(fun x hx => by cases hx), Tn.refl _ _⟩
  have HST2 := vl hST2
  have HQ2 := vl (HQ.out.below hB2)
  have HM2 := vl (HM.out.below hB2)
  have HBW2 : Vl (Below w.heap.size w V2) := vl (HB1.out.trans (hB2.mono HB1.out.size))
  have z0 : V2.heap[w.heap.size]? = _ := (hB2.block _ (by have := HS1.out; omega)).trans HK0.out
  have z1 : V2.heap[w.heap.size + 1]? = _ := (hB2.block _ (by have := HS1.out; omega)).trans HK1.out
  have z2 : V2.heap[w.heap.size + 2]? = _ := (hB2.block _ (by have := HS1.out; omega)).trans HK2.out
  have z3 : V2.heap[w.heap.size + 3]? = _ := (hB2.block _ (by have := HS1.out; omega)).trans HK3.out
  have z4 : V2.heap[w.heap.size + 4]? = _ := (hB2.block _ (by have := HS1.out; omega)).trans HK4.out
  have HZ0 := vl z0
  have HZ1 := vl z1
  have HZ2 := vl z2
  have HZ3 := vl z3
  have HZ4 := vl z4
  clear z0 z1 z2 z3 z4 hB2 c0 c1 f0
  refine wpIn_range_bx3 (N := ks.length + 1) (K := fun k => k = w.heap.size + 5 ∨ v.ownBlock = some k) rfl (by decide) (gf := 36) (lb := #[.pointer (some ⟨w.heap.size + 5, 0, none⟩)]) rfl trivial (enters_of Tryd.func36 (by kernel_rfl) rfl)
    (back_stops 8 (by decide) v ks (w.heap.size + 5) V2 hBX2 hST2.own hl21) (by omega) (fun k hk => by
      rcases hk with e | e
      · omega
      · have := HKs.out k (Or.inr e); omega) (Below.refl _ _) (fun _ => rfl)
    (GtI V2 (w.heap.size + 5) ks q now) (GtX w V2 (w.heap.size + 5) w.heap.size ks q now) (fun pre u W h => ⟨h.1, h.2.trans' (tn_set rfl)⟩) ?hI ?hIx h00
    (fun x a' W => ∃ nb, V2.heap.size ≤ nb ∧ a' = { tmps := #[Value.pointer (some ⟨sb, 0, none⟩), Value.agg #[.string q.m, .string q.p, .string q.h, .slice q.fa q.fn q.fc, .slice q.ba q.bn q.bc], Value.int .i64 now, undef, Value.pointer (some ⟨w.heap.size, 0, none⟩), Value.pointer (some ⟨w.heap.size + 1, 0, none⟩), Value.pointer (some ⟨w.heap.size + 1 + 1, 0, none⟩), Value.pointer (some ⟨w.heap.size + 1 + 1 + 1, 0, none⟩), Value.pointer (some ⟨w.heap.size + 1 + 1 + 1 + 1, 0, none⟩), undef, Value.pointer (some ⟨nb, 0, none⟩), Value.int .i64 now, Value.bool true, Value.bool false, undef, undef, Value.pointer (some ⟨w.heap.size, 0, none⟩), Value.string q.m, Value.bool false, undef, undef, Value.pointer (some ⟨sb, 0, none⟩), Value.pointer (some ⟨sb, 0, none⟩), Value.pointer (some ⟨sb, 0, none⟩), Value.slice va vn vc, Value.func (.func 36) #[] #[.pointer (some ⟨w.heap.size + 5, 0, none⟩)], Value.int .i64 (x.1.1 : Nat), Value.agg #[.string x.1.2.host, .string x.1.2.path, .slice x.1.2.va x.1.2.vn x.1.2.vc, .int .i64 x.1.2.rp.code, .slice x.1.2.rp.fa x.1.2.rp.fn x.1.2.rp.fc, .slice x.1.2.rp.ba x.1.2.rp.bn x.1.2.rp.bc, .int .i64 x.1.2.at_], undef, undef, undef, undef, undef, undef, undef, undef, undef, undef, undef, undef, undef, undef, undef, undef, undef], defers := [] } ∧ W.heap[nb]? = some (.cells #[.string x.1.2.host, .string x.1.2.path, .slice x.1.2.va x.1.2.vn x.1.2.vc, .int .i64 x.1.2.rp.code, .slice x.1.2.rp.fa x.1.2.rp.fn x.1.2.rp.fc, .slice x.1.2.rp.ba x.1.2.rp.bn x.1.2.rp.bc, .int .i64 x.1.2.at_] 58 (0, 0))) ?hAx ?assign ?body ?done ?stop
  case hI =>
    rintro s X Y row ⟨h1, h2⟩ hgr hr
    exact ⟨h1, ⟨hgr.os.trans h2.os, hgr.tape.trans h2.tape, hgr.output.trans h2.output, Nat.le_trans h2.size hgr.size, fun k hk hn => (hgr.block k (Nat.lt_of_lt_of_le hk h2.size) (fun e => by have := (hr k e.symm).1; omega)).trans (h2.block k hk hn)⟩⟩
  case hIx =>
    rintro c s X Y row ⟨hc, p0, x, p, e1, e2, e3, e4, e5, e6, e7, e8, e9, e10⟩ hgr hr
    have hsame : ∀ k, k < V2.heap.size → Y.heap[k]? = X.heap[k]? := fun k hk => hgr.block k (Nat.lt_of_lt_of_le hk e10.size) (fun e => by have := (hr k e.symm).1; omega)
    exact ⟨hc, p0, x, p, e1, e2, e3, rp_own e4 hgr (fun r hrr => (hr r hrr).2), e5, e6, (hsame _ (by omega)).trans e7, (hsame _ (by omega)).trans e8, (hsame _ (by omega)).trans e9, ⟨hgr.os.trans e10.os, hgr.tape.trans e10.tape, hgr.output.trans e10.output, Nat.le_trans e10.size hgr.size, fun k hk hn => (hsame k hk).trans (e10.block k hk hn)⟩⟩
  case hAx =>
    rintro x a' s X Y row ⟨nb, h1, h2, h3⟩ hgr hr
    refine ⟨nb, h1, h2, (hgr.block nb (Array.getElem?_eq_some_iff.1 h3).1 (fun e => ?_)).trans h3⟩
    obtain ⟨o, ho, hc⟩ := (hr nb e.symm).2
    rw [h3] at ho; cases ho; cases hc
  case assign =>
    intro l pre x W K' hI hsz hK
    dsimp only [bkV, KpM.val]
    gi_wp2
    refine hK _ _ ?_ ?_ ?_ ?_
    · exact (zothers_of_below ((Below.refl _ W).alloc (Nat.le_refl _) _)).from _
    · intro k hk
      exact Below.heap_alloc _ _ _ (by
        rcases hk with e | e
        · omega
        · have := HKs.out k (Or.inr e); omega)
    · exact ⟨hI.1, hI.2.trans' (Tn.of_below ((Below.refl _ W).alloc (Nat.le_refl _) _))⟩
    · exact ⟨W.heap.size, by omega, rfl, heap_alloc_new W _⟩
  case body =>
    rintro l pre x a' W ⟨hno, hTn⟩ ⟨nb, hnb, rfl, hkb⟩ hlen hsz
    have hTs : ∀ k, k < w.heap.size + 5 → W.heap[k]? = V2.heap[k]? := fun k hk => hTn.block k (by omega) (fun e => by have e' : k = w.heap.size + 5 := e; omega)
    have hxm : x.1.2 ∈ ks := by rw [x.2.2, List.getD, List.getElem?_eq_getElem x.2.1]; exact List.getElem_mem _
    have hKx : KpIn W x.1.2 := (HST2.out.each _ hxm).tn hTn (fun b hb e => by
      have e' : b = w.heap.size + 5 := e
      have h1 := (HST1.out.each _ hxm).lt hb
      have := HS1.out
      omega)
    have hQW : RqIn W q := HQ2.out.tn hTn (fun b hb e => by
      have e' : b = w.heap.size + 5 := e
      have h1 := HQ.out.lt hb
      have := HS1.out
      omega)
    have hMW : QOk W := HM2.out.tn hTn (fun k e => by have e' : k = w.heap.size + 5 := e; omega)
    have hQB : QBx W w.heap.size q := QBx.of (t := 25) ((hTs _ (by omega)).trans HZ0.out)
    have hNB : W.heap[w.heap.size + 1]? = some (.cells #[.int .i64 now] 3 (0, 0)) := (hTs _ (by omega)).trans HZ1.out
    have hKB : KBx W nb x.1.2 := KBx.of (t := 58) hkb
    have HFI := vl (zfits_any x.1.2 q W hKx hQW hqs hMW)
    have HLI := vl (fun W' (hb : Below W.heap.size W W') => zlives_any x.1.2 now W' (hKx.below hb) hn (hMW.below hb))
    have HCO := vl (fun W' (hb : Below W.heap.size W W') => zcopy_any x.1.2.rp W' (hKx.rp.below hb) (by have := hKx.sm.fn; omega))
    unfold KpM.val RqM.val at HFI
    unfold KpM.val at HLI
    unfold RpM.val at HCO
    have HTN := vl hTn
    have HAT := vl hKx.time
    have HNO := vl hno
    have HQB := vl hQB
    have HNB := vl hNB
    have HKB := vl hKB
    have HTS := vl hTs
    have HNK := vl hkb
    have hKk : ∀ k, (k = w.heap.size + 5 ∨ v.ownBlock = some k) → k < W.heap.size := fun k hk => by
      rcases hk with e | e
      · omega
      · have := HKs.out k (Or.inr e); omega
    have HKk := vl hKk
    have hge : V2.heap.size ≤ W.heap.size := hTn.size
    obtain ⟨c0, c1, c2, c3, c4⟩ := hQB
    obtain ⟨d0, d1, d2, d3, d4, d5, d6⟩ := hKB
    have HEND : Vl (∀ W', Below W.heap.size W W' → ¬ hitP q now x.1.2 → (KeepsFrom V2.heap.size W W' ∧ (∀ k, (k = w.heap.size + 5 ∨ v.ownBlock = some k) → W'.heap[k]? = W.heap[k]?) ∧ GtI V2 (w.heap.size + 5) ks q now (pre ++ [x]) W')) := vl (fun W' hb hnh => ⟨(zothers_of_below hb).from _, fun k hk => hb.block k (hKk k hk), fun y hy => by
      rcases List.mem_append.1 hy with h | h
      · exact hno y h
      · rw [List.mem_singleton.1 h]; exact hnh, hTn.trans' (Tn.of_below hb)⟩)
    clear hno hTn hKx hQW hMW hNB hTs hkb hKk hBX2 hST2 h00
    gi_wp2_with fail
    refine ⟨trivial, ?_⟩
    refine (CallsIn.inRound l (callsIn_wide.2 HFI.out)).mono ?_
    rintro e w5 ⟨⟨b1, rfl, hb1⟩, hbl5⟩
    have HB1' := vl hb1
    have HBL5 := vl hbl5
    obtain ⟨d0, d1, d2, d3, d4, d5, d6⟩ := HKB.out.below hbl5
    have n5 : w5.cell? ⟨w.heap.size + 1, 0, none⟩ = some (.int .i64 now) := by
      rw [cell_of_row _ _ _ _ _ _ ((hbl5.block _ (by have := HTN.out.size; omega)).trans HNB.out)]; rfl
    clear hb1 hbl5 HFI c0 c1 c2 c3 c4
    cases b1 with
    | false =>
      have HF := vl (HEND.out w5 HBL5.out (fun hh => by have := HB1'.out.2 hh.1; cases this))
      gi_wp2_with fail
      refine ⟨trivial, ?_⟩
      gi_wp2_with fail
      exact HF.out
    | true =>
      have HFIT : Vl (fitP x.1.2 q) := vl (HB1'.out.1 rfl)
      clear HB1'
      have HLI5 := vl (HLI.out w5 HBL5.out)
      gi_wp2_with fail
      refine ⟨trivial, ?_⟩
      refine (CallsIn.inRound l (callsIn_wide.2 HLI5.out)).mono ?_
      rintro e w6 ⟨⟨b2, rfl, hb2⟩, hbl6⟩
      have HB2' := vl hb2
      have HBL6 : Vl (Below W.heap.size W w6) := vl (HBL5.out.trans (hbl6.mono HBL5.out.size))
      clear hb2 hbl6 HLI HLI5 d0 d1 d2 d3 d4 d5 d6 n5
      cases b2 with
      | false =>
        have HF := vl (HEND.out w6 HBL6.out (fun hh => by have := HB2'.out.2 hh.2; cases this))
        gi_wp2_with fail
        exact HF.out
      | true =>
        have HHIT : Vl (hitP q now x.1.2) := vl ⟨HFIT.out, HB2'.out.1 rfl⟩
        obtain ⟨d0, d1, d2, d3, d4, d5, d6⟩ := HKB.out.below HBL6.out
        have n6 : w6.cell? ⟨w.heap.size + 1, 0, none⟩ = some (.int .i64 now) := by
          rw [cell_of_row _ _ _ _ _ _ ((HBL6.out.block _ (by have := HTN.out.size; omega)).trans HNB.out)]; rfl
        have HRES : Vl (∀ W', Below W.heap.size W W' → RsC W' w.heap.size) := vl (fun W' hb => RsC.of ((hb.block _ (by have := HTN.out.size; omega)).trans ((HTS.out _ (by omega)).trans HZ2.out)) ((hb.block _ (by have := HTN.out.size; omega)).trans ((HTS.out _ (by omega)).trans HZ3.out)) ((hb.block _ (by have := HTN.out.size; omega)).trans ((HTS.out _ (by omega)).trans HZ4.out)))
        have HCD := vl (HCO.out w6.drew HBL6.out.drew)
        have HKC : Vl (∀ w7, Below w6.drew.heap.size w6.drew w7 → KBx w7 nb x.1.2 ∧ w7.cell? ⟨w.heap.size + 1, 0, none⟩ = some (.int .i64 now) ∧ RsC w7 w.heap.size) := vl (fun w7 hb => by
          have hb' : Below W.heap.size W w7 := HBL6.out.drew.trans (hb.mono HBL6.out.size)
          refine ⟨HKB.out.below hb', ?_, HRES.out w7 hb'⟩
          rw [cell_of_row _ _ _ _ _ _ ((hb'.block _ (by have := HTN.out.size; omega)).trans HNB.out)]; rfl)
        have HROW : Vl (∀ w7, Below w6.drew.heap.size w6.drew w7 → w7.heap[w.heap.size + 2]? = some (.cells #[.int .i64 0, .slice none 0 0, .slice none 0 0] 27 (0, 0)) ∧ w7.heap[w.heap.size + 3]? = some (.cells #[.int .i64 0] 3 (0, 0)) ∧ w7.heap[w.heap.size + 4]? = some (.cells #[.nilIface] 35 (0, 0))) := vl (fun w7 hb => by
          have hb' : Below W.heap.size W w7 := HBL6.out.drew.trans (hb.mono HBL6.out.size)
          exact ⟨(hb'.block _ (by have := HTN.out.size; omega)).trans ((HTS.out _ (by omega)).trans HZ2.out), (hb'.block _ (by have := HTN.out.size; omega)).trans ((HTS.out _ (by omega)).trans HZ3.out), (hb'.block _ (by have := HTN.out.size; omega)).trans ((HTS.out _ (by omega)).trans HZ4.out)⟩)
        have hat := HAT.out
        obtain ⟨xk, hxk⟩ : ∃ xk, x.1.2 = xk := ⟨_, rfl⟩
        have HXK := vl hxk
        rw [hxk] at d0 d1 d2 d3 d4 d5 d6 HCD HKC hat ⊢
        clear HB2' HEND HCO HRES hxk
        gi_wp2_with fail
        have HSS : Vl (∀ X (k o : Nat) (u : Value), w.heap.size + 2 ≤ k → k < w.heap.size + 6 → (fun (w' : World) => (w'.cell? ⟨nb, 3, none⟩ = some (.int .i64 xk.rp.code) ∧ w'.cell? ⟨nb, 4, none⟩ = some (.slice xk.rp.fa xk.rp.fn xk.rp.fc) ∧ w'.cell? ⟨nb, 5, none⟩ = some (.slice xk.rp.ba xk.rp.bn xk.rp.bc) ∧ w'.cell? ⟨nb, 6, none⟩ = some (.int .i64 xk.at_)) ∧ w'.cell? ⟨w.heap.size + 1, 0, none⟩ = some (.int .i64 now)) X → (fun (w' : World) => (w'.cell? ⟨nb, 3, none⟩ = some (.int .i64 xk.rp.code) ∧ w'.cell? ⟨nb, 4, none⟩ = some (.slice xk.rp.fa xk.rp.fn xk.rp.fc) ∧ w'.cell? ⟨nb, 5, none⟩ = some (.slice xk.rp.ba xk.rp.bn xk.rp.bc) ∧ w'.cell? ⟨nb, 6, none⟩ = some (.int .i64 xk.at_)) ∧ w'.cell? ⟨w.heap.size + 1, 0, none⟩ = some (.int .i64 now)) (X.setCell ⟨k, o, none⟩ u)) := vl (fun X k o u h1 h2 h => by
          have hk1 : k ≠ nb := by omega
          have hk2 : k ≠ w.heap.size + 1 := by omega
          refine ⟨⟨?_, ?_, ?_, ?_⟩, ?_⟩
          · exact (World.cell?_setCell_far X ⟨k, o, none⟩ _ _ hk1).trans h.1.1
          · exact (World.cell?_setCell_far X ⟨k, o, none⟩ _ _ hk1).trans h.1.2.1
          · exact (World.cell?_setCell_far X ⟨k, o, none⟩ _ _ hk1).trans h.1.2.2.1
          · exact (World.cell?_setCell_far X ⟨k, o, none⟩ _ _ hk1).trans h.1.2.2.2
          · exact (World.cell?_setCell_far X ⟨k, o, none⟩ _ _ hk2).trans h.2)
        have hwr : IntKind.i64.wrap (now - xk.at_) = now - xk.at_ := by rw [IntKind.wrap_i64]; have := hn.1; have := hn.2; omega
        refine wpIn_mono ?_ NoPanic.imp
        refine wpIn_region_held (S := (fun (w' : World) => (w'.cell? ⟨nb, 3, none⟩ = some (.int .i64 xk.rp.code) ∧ w'.cell? ⟨nb, 4, none⟩ = some (.slice xk.rp.fa xk.rp.fn xk.rp.fc) ∧ w'.cell? ⟨nb, 5, none⟩ = some (.slice xk.rp.ba xk.rp.bn xk.rp.bc) ∧ w'.cell? ⟨nb, 6, none⟩ = some (.int .i64 xk.at_)) ∧ w'.cell? ⟨w.heap.size + 1, 0, none⟩ = some (.int .i64 now))) rfl (by rintro ⟨a, w, h⟩; exact h) (by kernel_rfl) ⟨⟨d3, d4, d5, d6⟩, n6⟩ (fun hHeld => ?_)
        refine wpAnyH_take (i := 0) (oi := { dst := some 36, op := Op.fieldAddr 58 (Operand.tmp 10) 3, type := 0, pos := "store.go:62", after := #[], guard := none }) (v := .pointer (some ⟨nb, 3, none⟩)) rfl (by kernel_rfl) (by kernel_rfl) (by kernel_rfl) (fun _ _ _ h => h) (Or.inl ⟨by rfl, (by intro w hSw; (try dsimp only at hSw); go_simp)⟩) hHeld ?_
        try simp only [Act.put, List.setIfInBounds_toArray, List.set_cons_zero, List.set_cons_succ]
        refine wpAnyH_take (i := 1) (oi := { dst := some 37, op := Op.load 27 (Operand.tmp 36), type := 27, pos := "store.go:62", after := #[{ on := 0, ground := Ground.data }], guard := none }) (v := .agg #[.int .i64 xk.rp.code, .slice xk.rp.fa xk.rp.fn xk.rp.fc, .slice xk.rp.ba xk.rp.bn xk.rp.bc]) rfl (by kernel_rfl) (by kernel_rfl) (by kernel_rfl) (fun _ _ _ h => h) (Or.inl ⟨by rfl, (by intro w hSw; (try dsimp only at hSw); go_simp)⟩) hHeld ?_
        try simp only [Act.put, List.setIfInBounds_toArray, List.set_cons_zero, List.set_cons_succ]
        refine wpAnyH_take (i := 3) (oi := { dst := some 39, op := Op.load 3 (Operand.tmp 5), type := 3, pos := "store.go:62", after := #[{ on := 7, ground := Ground.gcOnly Departure.lateStores }], guard := none }) (v := .int .i64 now) rfl (by kernel_rfl) (by kernel_rfl) (by kernel_rfl) (fun _ _ _ h => h) (Or.inl ⟨by rfl, (by intro w hSw; (try dsimp only at hSw); go_simp)⟩) hHeld ?_
        try simp only [Act.put, List.setIfInBounds_toArray, List.set_cons_zero, List.set_cons_succ]
        refine wpAnyH_take (i := 4) (oi := { dst := some 40, op := Op.fieldAddr 58 (Operand.tmp 10) 4, type := 0, pos := "store.go:62", after := #[{ on := 7, ground := Ground.gcOnly Departure.lateStores }], guard := none }) (v := .pointer (some ⟨nb, 6, none⟩)) rfl (by kernel_rfl) (by kernel_rfl) (by kernel_rfl) (fun _ _ _ h => h) (Or.inl ⟨by rfl, (by intro w hSw; (try dsimp only at hSw); go_simp)⟩) hHeld ?_
        try simp only [Act.put, List.setIfInBounds_toArray, List.set_cons_zero, List.set_cons_succ]
        refine wpAnyH_take (i := 5) (oi := { dst := some 41, op := Op.load 3 (Operand.tmp 40), type := 3, pos := "store.go:62", after := #[{ on := 4, ground := Ground.data }, { on := 7, ground := Ground.gcOnly Departure.lateStores }], guard := none }) (v := .int .i64 xk.at_) rfl (by kernel_rfl) (by kernel_rfl) (by kernel_rfl) (fun _ _ _ h => h) (Or.inl ⟨by rfl, (by intro w hSw; (try dsimp only at hSw); go_simp)⟩) hHeld ?_
        try simp only [Act.put, List.setIfInBounds_toArray, List.set_cons_zero, List.set_cons_succ]
        refine wpAnyH_take (i := 6) (oi := { dst := some 42, op := Op.binOp BinOp.sub 3 (Operand.tmp 39) (Operand.tmp 41) 3, type := 3, pos := "store.go:62", after := #[{ on := 3, ground := Ground.data }, { on := 5, ground := Ground.data }, { on := 7, ground := Ground.gcOnly Departure.lateStores }], guard := none }) (v := .int .i64 (now - xk.at_)) rfl (by kernel_rfl) (by kernel_rfl) (by kernel_rfl) (fun _ _ _ h => h) (Or.inl ⟨by rfl, (by intro w hSw; (try dsimp only at hSw); go_simp)⟩) hHeld ?_
        try simp only [Act.put, List.setIfInBounds_toArray, List.set_cons_zero, List.set_cons_succ]
        refine wpAnyH_ready (rs := [2]) (by kernel_rfl) (by simp) ?_
        refine AllReadyH.cons (o := { dst := some 38, op := Op.call { callee := Callee.value (Operand.func 24), args := #[Operand.tmp 37], argTypes := #[27] }, type := 27, pos := "store.go:62", after := #[{ on := 1, ground := Ground.data }], guard := none }) rfl (fun K hK => ?_) AllReadyH.nil
        go_simp
        go_at_call 24
        refine HCD.out.mono ?_
        rintro e w7 ⟨⟨⟨pc, pfa, pfn, pfc, pba, pbn, pbc, PL, PB⟩, rfl, hR7, hS7⟩, hb7⟩
        obtain ⟨⟨e0, e1, e2, e3, e4, e5, e6⟩, n7, ⟨r20, r21, r22, r30, r40, q2, q3, q4⟩⟩ := HKC.out w7 hb7
        dsimp only [RpM.val]
        go_wp2_with fail
        refine hK.out _ _ ⟨⟨e3, e4, e5, e6⟩, n7⟩ (fun hHeld => ?_)
        clear hK K
        try simp only [Act.put, List.setIfInBounds_toArray, List.set_cons_zero, List.set_cons_succ]
        refine wpAnyH_ready (rs := [7]) (by kernel_rfl) (by simp) ?_
        refine AllReadyH.cons (o := { dst := none, op := Op.store 27 (Operand.tmp 6) (Operand.tmp 38), type := 0, pos := "store.go:62", after := #[{ on := 2, ground := Ground.data }, { on := 2, ground := Ground.chain }, { on := 0, ground := Ground.phase }, { on := 1, ground := Ground.phase }, { on := 2, ground := Ground.phase }, { on := 3, ground := Ground.textOnly Departure.lateStores }, { on := 4, ground := Ground.textOnly Departure.lateStores }, { on := 5, ground := Ground.textOnly Departure.lateStores }, { on := 6, ground := Ground.textOnly Departure.lateStores }], guard := none }) rfl (fun K hK => ?_) AllReadyH.nil
        go_simp
        obtain ⟨W8, hW8⟩ : ∃ x, (((w7.setCell ⟨w.heap.size + 1 + 1, 0, none⟩ (.int .i64 pc)).setCell ⟨w.heap.size + 1 + 1, 1, none⟩ (.slice pfa pfn pfc)).setCell ⟨w.heap.size + 1 + 1, 2, none⟩ (.slice pba pbn pbc)) = x := ⟨_, rfl⟩
        have hSW8 : (fun (w' : World) => (w'.cell? ⟨nb, 3, none⟩ = some (.int .i64 xk.rp.code) ∧ w'.cell? ⟨nb, 4, none⟩ = some (.slice xk.rp.fa xk.rp.fn xk.rp.fc) ∧ w'.cell? ⟨nb, 5, none⟩ = some (.slice xk.rp.ba xk.rp.bn xk.rp.bc) ∧ w'.cell? ⟨nb, 6, none⟩ = some (.int .i64 xk.at_)) ∧ w'.cell? ⟨w.heap.size + 1, 0, none⟩ = some (.int .i64 now)) W8 := by rw [← hW8]; exact HSS.out _ _ _ _ (by omega) (by omega) (HSS.out _ _ _ _ (by omega) (by omega) (HSS.out _ _ _ _ (by omega) (by omega) ⟨⟨e3, e4, e5, e6⟩, n7⟩))
        rw [hW8]
        refine hK.out _ _ hSW8 (fun hHeld => ?_)
        clear hK K
        try simp only [Act.put, List.setIfInBounds_toArray, List.set_cons_zero, List.set_cons_succ]
        have r30' : W8.cell? ⟨w.heap.size + 1 + 1 + 1, 0, none⟩ = some (.int .i64 0) := by rw [← hW8]; rw [World.cell?_setCell_far _ _ _ _ (by show w.heap.size + 1 + 1 ≠ w.heap.size + 1 + 1 + 1; omega), World.cell?_setCell_far _ _ _ _ (by show w.heap.size + 1 + 1 ≠ w.heap.size + 1 + 1 + 1; omega), World.cell?_setCell_far _ _ _ _ (by show w.heap.size + 1 + 1 ≠ w.heap.size + 1 + 1 + 1; omega)]; exact r30
        have q3' : ∀ j, W8.frozen? ⟨w.heap.size + 1 + 1 + 1, j, none⟩ = false := fun j => frozen_of_row W8 _ j _ _ (by rw [← hW8]; rw [heap_setCell_other _ _ _ _ (by show w.heap.size + 1 + 1 + 1 ≠ w.heap.size + 1 + 1; omega), heap_setCell_other _ _ _ _ (by show w.heap.size + 1 + 1 + 1 ≠ w.heap.size + 1 + 1; omega), heap_setCell_other _ _ _ _ (by show w.heap.size + 1 + 1 + 1 ≠ w.heap.size + 1 + 1; omega)]; exact (HROW.out w7 hb7).2.1)
        have HW8 := vl hW8
        clear hW8 r20 r21 r22 r30 q2 q3
        refine wpAnyH_ready (rs := [8]) (by kernel_rfl) (by simp) ?_
        refine AllReadyH.cons (o := { dst := none, op := Op.store 3 (Operand.tmp 7) (Operand.tmp 42), type := 0, pos := "store.go:62", after := #[{ on := 6, ground := Ground.data }, { on := 7, ground := Ground.chain }, { on := 0, ground := Ground.phase }, { on := 1, ground := Ground.phase }, { on := 2, ground := Ground.phase }, { on := 3, ground := Ground.phase }, { on := 4, ground := Ground.phase }, { on := 5, ground := Ground.phase }, { on := 6, ground := Ground.phase }, { on := 7, ground := Ground.phase }], guard := none }) rfl (fun K hK => ?_) AllReadyH.nil
        go_simp
        obtain ⟨W9, hW9⟩ : ∃ x, W8.setCell ⟨w.heap.size + 1 + 1 + 1, 0, none⟩ (.int .i64 (now - xk.at_)) = x := ⟨_, rfl⟩
        have hSW9 : (fun (w' : World) => (w'.cell? ⟨nb, 3, none⟩ = some (.int .i64 xk.rp.code) ∧ w'.cell? ⟨nb, 4, none⟩ = some (.slice xk.rp.fa xk.rp.fn xk.rp.fc) ∧ w'.cell? ⟨nb, 5, none⟩ = some (.slice xk.rp.ba xk.rp.bn xk.rp.bc) ∧ w'.cell? ⟨nb, 6, none⟩ = some (.int .i64 xk.at_)) ∧ w'.cell? ⟨w.heap.size + 1, 0, none⟩ = some (.int .i64 now)) W9 := by rw [← hW9]; exact HSS.out _ _ _ _ (by omega) (by omega) hSW8
        rw [hW9]
        refine hK.out _ _ hSW9 (fun hHeld => ?_)
        clear hK K
        try simp only [Act.put, List.setIfInBounds_toArray, List.set_cons_zero, List.set_cons_succ]
        have hrow4 : W9.heap[w.heap.size + 1 + 1 + 1 + 1]? = some (.cells #[.nilIface] 35 (0, 0)) := by rw [← hW9, ← HW8.out]; rw [heap_setCell_other _ _ _ _ (by show w.heap.size + 1 + 1 + 1 + 1 ≠ w.heap.size + 1 + 1 + 1; omega), heap_setCell_other _ _ _ _ (by show w.heap.size + 1 + 1 + 1 + 1 ≠ w.heap.size + 1 + 1; omega), heap_setCell_other _ _ _ _ (by show w.heap.size + 1 + 1 + 1 + 1 ≠ w.heap.size + 1 + 1; omega), heap_setCell_other _ _ _ _ (by show w.heap.size + 1 + 1 + 1 + 1 ≠ w.heap.size + 1 + 1; omega)]; exact (HROW.out w7 hb7).2.2
        have r40' : W9.cell? ⟨w.heap.size + 1 + 1 + 1 + 1, 0, none⟩ = some .nilIface := by rw [cell_of_row _ _ _ _ _ _ hrow4]; rfl
        have q4' : ∀ j, W9.frozen? ⟨w.heap.size + 1 + 1 + 1 + 1, j, none⟩ = false := fun j => frozen_of_row W9 _ j _ _ hrow4
        have HW9 := vl hW9
        have HR4 := vl hrow4
        clear hW9 hrow4 r40 q4 r30' q3'
        refine wpAnyH_ready (rs := [9]) (by kernel_rfl) (by simp) ?_
        refine AllReadyH.cons (o := { dst := none, op := Op.store 35 (Operand.tmp 8) (Operand.const Value.nilIface), type := 0, pos := "store.go:62", after := #[{ on := 8, ground := Ground.chain }, { on := 0, ground := Ground.phase }, { on := 1, ground := Ground.phase }, { on := 2, ground := Ground.phase }, { on := 3, ground := Ground.phase }, { on := 4, ground := Ground.phase }, { on := 5, ground := Ground.phase }, { on := 6, ground := Ground.phase }, { on := 7, ground := Ground.phase }, { on := 8, ground := Ground.phase }], guard := none }) rfl (fun K hK => ?_) AllReadyH.nil
        go_simp
        obtain ⟨Wa, hWa⟩ : ∃ x, W9.setCell ⟨w.heap.size + 1 + 1 + 1 + 1, 0, none⟩ .nilIface = x := ⟨_, rfl⟩
        have hSWa : (fun (w' : World) => (w'.cell? ⟨nb, 3, none⟩ = some (.int .i64 xk.rp.code) ∧ w'.cell? ⟨nb, 4, none⟩ = some (.slice xk.rp.fa xk.rp.fn xk.rp.fc) ∧ w'.cell? ⟨nb, 5, none⟩ = some (.slice xk.rp.ba xk.rp.bn xk.rp.bc) ∧ w'.cell? ⟨nb, 6, none⟩ = some (.int .i64 xk.at_)) ∧ w'.cell? ⟨w.heap.size + 1, 0, none⟩ = some (.int .i64 now)) Wa := by rw [← hWa]; exact HSS.out _ _ _ _ (by omega) (by omega) hSW9
        rw [hWa]
        refine hK.out _ _ hSWa (fun hHeld => ?_)
        clear hK K
        try simp only [Act.put, List.setIfInBounds_toArray, List.set_cons_zero, List.set_cons_succ]
        refine wpAnyH_done (by kernel_rfl) (NoPanic.normal ?_) _
        have HWa := vl hWa
        clear hWa
        have hbz := vl hb7
        have hRz := vl hR7
        have hSz := vl hS7
        clear hHeld hSWa hSW9 hSW8 hb7 hR7 hS7 r40' q4' e0 e1 e2 e3 e4 e5 e6 n7
        gi_wp2_with fail
        have hb7 : Below W.heap.size W w7 := HBL6.out.drew.trans (hbz.out.mono HBL6.out.size)
        have hsw := HTN.out.size
        have hs6 : W.heap.size ≤ w6.drew.heap.size := HBL6.out.drew.size
        have hrz := HROW.out w7 hbz.out
        have hKO : KeepsOthers w7 Wa := by rw [← HWa.out, ← HW9.out, ← HW8.out]; exact ((((KeepsOthers.setCell _ _ _).trans (KeepsOthers.setCell _ _ _)).trans (KeepsOthers.setCell _ _ _)).trans (KeepsOthers.setCell _ _ _)).trans (KeepsOthers.setCell _ _ _)
        have hT7 : Tn (fun k => k = w.heap.size + 5 ∨ k = w.heap.size + 2 ∨ k = w.heap.size + 3 ∨ k = w.heap.size + 4) w7 Wa := by rw [← HWa.out, ← HW9.out, ← HW8.out]; exact ((((tn_set (Or.inr (Or.inl rfl))).trans' (tn_set (Or.inr (Or.inl rfl)))).trans' (tn_set (Or.inr (Or.inl rfl)))).trans' (tn_set (Or.inr (Or.inr (Or.inl rfl))))).trans' (tn_set (Or.inr (Or.inr (Or.inr rfl))))
        have hnw : ∀ d, RpB { code := pc, fa := pfa, fn := pfn, fc := pfc, ba := pba, bn := pbn, bc := pbc, FL := PL, B := PB } d → w6.drew.heap.size ≤ d := by
          rintro d (⟨p, hp, rfl, _⟩ | ⟨p, hp, rfl, _⟩)
          · exact hSz.out.newF p hp
          · exact hSz.out.newB p hp
        refine ⟨((zothers_of_below hb7).from _).trans (hKO.from _), rfl, pre, x, { code := pc, fa := pfa, fn := pfn, fc := pfc, ba := pba, bn := pbn, bc := pbc, FL := PL, B := PB }, rfl, HNO.out, HHIT.out, ?_, ?_, ?_, ?_, ?_, ?_, ?_⟩
        · refine hRz.out.tn hT7 (fun b hb e => ?_)
          have := hnw b hb
          rcases e with e | e | e | e <;> omega
        · rw [HXK.out]
          exact ⟨hSz.out.code, hSz.out.fn, hSz.out.bn, hSz.out.FL, hSz.out.B, fun p hp => by have := hSz.out.newF p hp; omega, fun p hp => by have := hSz.out.newB p hp; omega⟩
        · intro d hd
          have := hnw d hd
          omega
        · rw [← HWa.out, ← HW9.out, ← HW8.out, heap_setCell_other _ _ _ _ (by show w.heap.size + 2 ≠ w.heap.size + 1 + 1 + 1 + 1; omega), heap_setCell_other _ _ _ _ (by show w.heap.size + 2 ≠ w.heap.size + 1 + 1 + 1; omega)]
          exact gbox_set3 hrz.1
        · show Wa.heap[w.heap.size + 3]? = _
          rw [← HWa.out, ← HW9.out, ← HW8.out, heap_setCell_other _ _ _ _ (by show w.heap.size + 3 ≠ w.heap.size + 1 + 1 + 1 + 1; omega), HXK.out]
          refine gbox_set (u := .int .i64 0) ?_
          rw [heap_setCell_other _ _ _ _ (by show w.heap.size + 1 + 1 + 1 ≠ w.heap.size + 1 + 1; omega), heap_setCell_other _ _ _ _ (by show w.heap.size + 1 + 1 + 1 ≠ w.heap.size + 1 + 1; omega), heap_setCell_other _ _ _ _ (by show w.heap.size + 1 + 1 + 1 ≠ w.heap.size + 1 + 1; omega)]
          exact hrz.2.1
        · show Wa.heap[w.heap.size + 4]? = _
          rw [← HWa.out]
          exact gbox_set HR4.out
        · exact ((⟨HTN.out.os, HTN.out.tape, HTN.out.output, HTN.out.size, fun k hk hn => HTN.out.block k hk (fun e => hn (Or.inl e))⟩ : Tn (fun k => k = w.heap.size + 5 ∨ k = w.heap.size + 2 ∨ k = w.heap.size + 3 ∨ k = w.heap.size + 4) V2 W).trans' (Tn.of_below hb7)).trans' hT7
  case done =>
    rintro Db xs X hD ⟨hbk, hxl⟩ ⟨hno, hTn⟩ hX
    have hTs : ∀ k, k < w.heap.size + 5 → X.heap[k]? = V2.heap[k]? := fun k hk => hTn.block k (by omega) (fun e => by have e' : k = w.heap.size + 5 := e; omega)
    have y2 := (hTs (w.heap.size + 2) (by omega)).trans HZ2.out
    have y3 := (hTs (w.heap.size + 3) (by omega)).trans HZ3.out
    have y4 := (hTs (w.heap.size + 4) (by omega)).trans HZ4.out
    have e20 : X.cell? ⟨w.heap.size + 1 + 1, 0, none⟩ = some (.int .i64 0) := by rw [cell_of_row _ _ _ _ _ _ y2]; rfl
    have e21 : X.cell? ⟨w.heap.size + 1 + 1, 1, none⟩ = some (.slice none 0 0) := by rw [cell_of_row _ _ _ _ _ _ y2]; rfl
    have e22 : X.cell? ⟨w.heap.size + 1 + 1, 2, none⟩ = some (.slice none 0 0) := by rw [cell_of_row _ _ _ _ _ _ y2]; rfl
    have e30 : X.cell? ⟨w.heap.size + 1 + 1 + 1, 0, none⟩ = some (.int .i64 0) := by rw [cell_of_row _ _ _ _ _ _ y3]; rfl
    have e40 : X.cell? ⟨w.heap.size + 1 + 1 + 1 + 1, 0, none⟩ = some .nilIface := by rw [cell_of_row _ _ _ _ _ _ y4]; rfl
    have g2 : ∀ j, X.frozen? ⟨w.heap.size + 1 + 1, j, none⟩ = false := fun j => frozen_of_row X _ j _ _ y2
    have g3 : ∀ j, X.frozen? ⟨w.heap.size + 1 + 1 + 1, j, none⟩ = false := fun j => frozen_of_row X _ j _ _ y3
    have g4 : ∀ j, X.frozen? ⟨w.heap.size + 1 + 1 + 1 + 1, j, none⟩ = false := fun j => frozen_of_row X _ j _ _ y4
    have HNONE : Vl (∀ s, s < ks.length → ¬ hitP q now (ks.getD s kz)) := vl (fun s hs => by
      obtain ⟨y, hy1, hy2⟩ := hbk.2 (ks.length - 1 - s) (by omega)
      have := hno y (List.mem_of_getElem? hy1)
      rw [y.2.2, hy2, show ks.length - 1 - (ks.length - 1 - s) = s by omega] at this
      exact this)
    have HY2 := vl y2
    have HY3 := vl y3
    have HY4 := vl y4
    have HTN := vl hTn
    have HX := vl hX
    have HD := vl hD
    clear hbk hno hTn hX hTs y2 y3 y4 h00 hBX2 hST2
    gi_wp2_with fail
    obtain ⟨X6, hX6⟩ : ∃ x, ((((X.setCell ⟨w.heap.size + 1 + 1, 0, none⟩ (.int .i64 0)).setCell ⟨w.heap.size + 1 + 1, 1, none⟩ (.slice none 0 0)).setCell ⟨w.heap.size + 1 + 1, 2, none⟩ (.slice none 0 0)).setCell ⟨w.heap.size + 1 + 1 + 1, 0, none⟩ (.int .i64 0)).setCell ⟨w.heap.size + 1 + 1 + 1 + 1, 0, none⟩ (.iface 55 (.int .i64 5)) = x := ⟨_, rfl⟩
    have hK6 : KeepsOthers X X6 := by rw [← hX6]; exact ((((KeepsOthers.setCell _ _ _).trans (KeepsOthers.setCell _ _ _)).trans (KeepsOthers.setCell _ _ _)).trans (KeepsOthers.setCell _ _ _)).trans (KeepsOthers.setCell _ _ _)
    have hT6 : Tn (fun k => k = w.heap.size + 5 ∨ k = w.heap.size + 2 ∨ k = w.heap.size + 3 ∨ k = w.heap.size + 4) X X6 := by rw [← hX6]; exact ((((tn_set (Or.inr (Or.inl rfl))).trans' (tn_set (Or.inr (Or.inl rfl)))).trans' (tn_set (Or.inr (Or.inl rfl)))).trans' (tn_set (Or.inr (Or.inr (Or.inl rfl))))).trans' (tn_set (Or.inr (Or.inr (Or.inr rfl))))
    have u2 : X6.heap[w.heap.size + 1 + 1]? = some (.cells #[.int .i64 0, .slice none 0 0, .slice none 0 0] 27 (0, 0)) := by
      rw [← hX6, heap_setCell_other _ _ _ _ (by show w.heap.size + 1 + 1 ≠ w.heap.size + 1 + 1 + 1 + 1; omega), heap_setCell_other _ _ _ _ (by show w.heap.size + 1 + 1 ≠ w.heap.size + 1 + 1 + 1; omega)]
      exact gbox_set3 HY2.out
    have u3 : X6.heap[w.heap.size + 1 + 1 + 1]? = some (.cells #[.int .i64 0] 3 (0, 0)) := by
      rw [← hX6, heap_setCell_other _ _ _ _ (by show w.heap.size + 1 + 1 + 1 ≠ w.heap.size + 1 + 1 + 1 + 1; omega)]
      refine gbox_set (u := .int .i64 0) ?_
      rw [heap_setCell_other _ _ _ _ (by show w.heap.size + 1 + 1 + 1 ≠ w.heap.size + 1 + 1; omega), heap_setCell_other _ _ _ _ (by show w.heap.size + 1 + 1 + 1 ≠ w.heap.size + 1 + 1; omega), heap_setCell_other _ _ _ _ (by show w.heap.size + 1 + 1 + 1 ≠ w.heap.size + 1 + 1; omega)]
      exact HY3.out
    have u4 : X6.heap[w.heap.size + 1 + 1 + 1 + 1]? = some (.cells #[.iface 55 (.int .i64 5)] 35 (0, 0)) := by
      rw [← hX6]
      refine gbox_set (u := .nilIface) ?_
      rw [heap_setCell_other _ _ _ _ (by show w.heap.size + 1 + 1 + 1 + 1 ≠ w.heap.size + 1 + 1 + 1; omega), heap_setCell_other _ _ _ _ (by show w.heap.size + 1 + 1 + 1 + 1 ≠ w.heap.size + 1 + 1; omega), heap_setCell_other _ _ _ _ (by show w.heap.size + 1 + 1 + 1 + 1 ≠ w.heap.size + 1 + 1; omega), heap_setCell_other _ _ _ _ (by show w.heap.size + 1 + 1 + 1 + 1 ≠ w.heap.size + 1 + 1; omega)]
      exact HY4.out
    rw [hX6]
    have hX2 : X6.heap[Db]? = some (.deferred (some [])) := hK6.same Db _ HX.out rfl
    have hD := HD.out
    refine ⟨by simp, .inl ⟨_, _, rfl, run_takeDeferred (b := Db) (ds := []) hX2, ?_⟩⟩
    have hbw : Below w.heap.size w X6 := get_below HBW2.out hs2 ((⟨HTN.out.os, HTN.out.tape, HTN.out.output, HTN.out.size, fun k hk hn => HTN.out.block k hk (fun e => hn (Or.inl e))⟩ : Tn (fun k => k = w.heap.size + 5 ∨ k = w.heap.size + 2 ∨ k = w.heap.size + 3 ∨ k = w.heap.size + 4) V2 X).trans' hT6)
    have v2 := (World.putObj_heap_other (w := X6) (r := Db) (o := .deferred none) (k := w.heap.size + 1 + 1) (by omega)).trans u2
    have v3 := (World.putObj_heap_other (w := X6) (r := Db) (o := .deferred none) (k := w.heap.size + 1 + 1 + 1) (by omega)).trans u3
    have v4 := (World.putObj_heap_other (w := X6) (r := Db) (o := .deferred none) (k := w.heap.size + 1 + 1 + 1 + 1) (by omega)).trans u4
    have j20 : (X6.putObj Db (.deferred none)).cell? ⟨w.heap.size + 1 + 1, 0, none⟩ = some (.int .i64 0) := by rw [cell_of_row _ _ _ _ _ _ v2]; rfl
    have j21 : (X6.putObj Db (.deferred none)).cell? ⟨w.heap.size + 1 + 1, 1, none⟩ = some (.slice none 0 0) := by rw [cell_of_row _ _ _ _ _ _ v2]; rfl
    have j22 : (X6.putObj Db (.deferred none)).cell? ⟨w.heap.size + 1 + 1, 2, none⟩ = some (.slice none 0 0) := by rw [cell_of_row _ _ _ _ _ _ v2]; rfl
    have j3 : (X6.putObj Db (.deferred none)).cell? ⟨w.heap.size + 1 + 1 + 1, 0, none⟩ = some (.int .i64 0) := by rw [cell_of_row _ _ _ _ _ _ v3]; rfl
    have j4 : (X6.putObj Db (.deferred none)).cell? ⟨w.heap.size + 1 + 1 + 1 + 1, 0, none⟩ = some (.iface 55 (.int .i64 5)) := by rw [cell_of_row _ _ _ _ _ _ v4]; rfl
    refine ⟨.tuple #[.agg #[.int .i64 0, .slice none 0 0, .slice none 0 0], .int .i64 0, .iface 55 (.int .i64 5)], by simp [results, Tryd.results9, go_sem, j20, j21, j22, j3, j4], Or.inr ⟨HNONE.out, rfl⟩, ?_⟩
    exact get_belowD hbw (by omega)
  case stop =>
    rintro Db c pre X hD hsp ⟨rfl, p0, x, p, e1, e2, e3, e4, e5, e6, e7, e8, e9, e10⟩ hX
    gi_wp2
    refine ⟨by simp, .inl ⟨_, _, rfl, run_takeDeferred (b := Db) (ds := []) hX, ?_⟩⟩
    have hbw : Below w.heap.size w X := get_below HBW2.out hs2 e10
    have v2 := (World.putObj_heap_other (w := X) (r := Db) (o := .deferred none) (k := w.heap.size + 1 + 1) (by omega)).trans e7
    have v3 := (World.putObj_heap_other (w := X) (r := Db) (o := .deferred none) (k := w.heap.size + 1 + 1 + 1) (by omega)).trans e8
    have v4 := (World.putObj_heap_other (w := X) (r := Db) (o := .deferred none) (k := w.heap.size + 1 + 1 + 1 + 1) (by omega)).trans e9
    have j20 : (X.putObj Db (.deferred none)).cell? ⟨w.heap.size + 1 + 1, 0, none⟩ = some (.int .i64 p.code) := by rw [cell_of_row _ _ _ _ _ _ v2]; rfl
    have j21 : (X.putObj Db (.deferred none)).cell? ⟨w.heap.size + 1 + 1, 1, none⟩ = some (.slice p.fa p.fn p.fc) := by rw [cell_of_row _ _ _ _ _ _ v2]; rfl
    have j22 : (X.putObj Db (.deferred none)).cell? ⟨w.heap.size + 1 + 1, 2, none⟩ = some (.slice p.ba p.bn p.bc) := by rw [cell_of_row _ _ _ _ _ _ v2]; rfl
    have j3 : (X.putObj Db (.deferred none)).cell? ⟨w.heap.size + 1 + 1 + 1, 0, none⟩ = some (.int .i64 (now - x.1.2.at_)) := by rw [cell_of_row _ _ _ _ _ _ v3]; rfl
    have j4 : (X.putObj Db (.deferred none)).cell? ⟨w.heap.size + 1 + 1 + 1 + 1, 0, none⟩ = some .nilIface := by rw [cell_of_row _ _ _ _ _ _ v4]; rfl
    refine ⟨.tuple #[p.val, .int .i64 (now - x.1.2.at_), .nilIface], by simp [results, Tryd.results9, go_sem, j20, j21, j22, j3, j4, RpM.val], Or.inl ?_, get_belowD hbw (by omega)⟩
    subst e1
    have hsp' : BkI ks (p0 ++ [x]) := hsp
    have hlx := hsp'.1
    rw [List.length_append, List.length_singleton] at hlx
    obtain ⟨x', hx1, hx2⟩ := hsp'.2 p0.length (by rw [List.length_append, List.length_singleton]; omega)
    rw [List.getElem?_append_right (Nat.le_refl _), Nat.sub_self] at hx1
    cases (Option.some.inj hx1 : x = x')
    refine ⟨x.1.1, p, x.2.1, by rw [← x.2.2]; exact e3, fun s h1 h2 => ?_, by rw [← x.2.2], rp_own e4 (grownBy_putObj' X Db (.deferred none)) (fun r e' => by cases e'; exact ⟨_, hX, rfl⟩), by rw [← x.2.2]; exact e5⟩
    obtain ⟨y, hy1, hy2⟩ := hsp'.2 (ks.length - 1 - s) (by rw [List.length_append, List.length_singleton]; omega)
    rw [List.getElem?_append_left (by omega)] at hy1
    have := e2 y (List.mem_of_getElem? hy1)
    rw [y.2.2, hy2, show ks.length - 1 - (ks.length - 1 - s) = s by omega] at this
    exact this
/-- Get, where the time is one and the method is GET. -/
theorem zget_any (sb : Nat) (v : Value) (ks : List KpM) (q : RqM) (now : Int) (w : World) (h : StM w sb v ks) (hq : RqIn w q) (hqs : RqS q) (hm : QOk w) (hn : 0 ≤ now ∧ now ≤ 1000000) (hget : unums q.m = getN) (hgl : 8 ≤ w.heap.size) :
    Calls Tryd.prog 9 #[.pointer (some ⟨sb, 0, none⟩), q.val, .int .i64 now] w fun e w' => GetE w ks q now e w' ∧ Below w.heap.size w w' := callsIn_wide.1 (zget_in sb v ks q now w h hq hqs hm hn hget hgl)
end Go.Proofs.YtgdcnbnpjpbldaaDoor
/-
  WHAT DIFFERS IS KEPT APART: the mathematics. No claim by itself.
-/
namespace Go.Proofs.YtgdcnbnpjpbldaaDoor
open Go Go.RowKit
def typeN : List Int := [116, 121, 112, 101]
def vrFL : List FB := [(⟨#[99, 97, 99, 104, 101]⟩, ⟨#[109, 97, 120, 45, 57]⟩), (⟨#[118, 97, 114, 121]⟩, ⟨#[116, 121, 112, 101]⟩)]
theorem vr_fds : fdsOf vrFL = [(cacheN, [109, 97, 120, 45, 57]), (varyN, typeN)] := by decide +kernel
theorem vr_vary : fstV (fdsOf vrFL) varyN = typeN := by rw [vr_fds]; decide +kernel
theorem vr_cache : fstV (fdsOf vrFL) cacheN = [109, 97, 120, 45, 57] := by rw [vr_fds]; decide +kernel
theorem vr_names : namesL (fdsOf vrFL) = [typeN] := by
  unfold namesL
  rw [vr_vary]
  decide +kernel
theorem vr_life : lifeR (fdsOf vrFL) = 9 := by
  unfold lifeR
  rw [vr_cache]
  exact life_yes (k := 9) (by omega) (by decide +kernel)
theorem vr_fits {a b n : ByteArray} : Sby nmK ([(n, a)] : List FB) [(n, b)] ↔ a = b := by
  constructor
  · intro h
    have := h (nmK (n, a))
    have e : nmK (n, a) = nmK (n, b) := rfl
    simp [List.filter] at this
    rw [e] at this
    simpa using this
  · rintro rfl; exact Sby.refl _
theorem vr_one {n x a o : ByteArray} (hn : unums n = typeN) (hx : unums x ≠ typeN) : [(n, a), (x, o)].filter (inVary (namesL (fdsOf vrFL))) = [(n, a)] ∧ [(n, a)].filter (inVary (namesL (fdsOf vrFL))) = [(n, a)] := by
  rw [vr_names]
  have h1 : ∀ a : ByteArray, inVary [typeN] (n, a) = true := fun a => by unfold inVary nmK; simp [hn]
  have h2 : inVary [typeN] (x, o) = false := by unfold inVary nmK; simp [List.count_cons]; exact fun e => hx e.symm
  exact ⟨by simp [List.filter, h1, h2], by simp [List.filter, h1]⟩
end Go.Proofs.YtgdcnbnpjpbldaaDoor
/-
  WHAT DIFFERS IS KEPT APART: what lies in memory. No claim by itself.
-/
namespace Go.Proofs.YtgdcnbnpjpbldaaDoor
open Go Go.RowKit Go.Shelf
set_option maxRecDepth 100000
theorem vconv_own (s : ByteArray) (w : World) (hs : s.size ≤ 140737488355328) : ∃ cap w', (convert 9 23 (.string s)).run Tryd.prog w = .ok (.slice (some ⟨w.heap.size, 0, none⟩) s.size cap) w' ∧ UOwn w' w.heap.size (.slice (some ⟨w.heap.size, 0, none⟩) s.size cap) (unums s) ∧ Below w.heap.size w w' := by
  have hsz : (Lib.bytesCells w 5 s).size = grownCap w s.size 0 5 := by
    have hge := grownCap_ge w s.size 0 5
    have e : s.data.size = s.size := rfl
    simp [Lib.bytesCells]
    omega
  refine ⟨_, _, Lib.run_convert_string_bytes w 9 23 5 s Tryd.underlying9 Tryd.underlying23 Tryd.underlying5, Or.inr ⟨w.heap.size, _, by rw [unums_len], Nat.le_refl _, by rw [Lib.bytesWorld_size]; omega, by rw [unums_len]; exact grownCap_ge w _ _ _, grownCap_le_maxLen w _ _ _ (by unfold maxLen; omega), fun t ht => ?_, fun t ht => ?_, fun t ht => ?_⟩, ⟨rfl, rfl, rfl, by rw [Lib.bytesWorld_size]; omega, fun k hk => Lib.bytesWorld_at_old w 5 s k hk⟩⟩
  · rw [unums_len] at ht
    rw [Lib.bytesWorld_cell w 5 s t ht]
    have hk : t < s.data.toList.length := by rw [Array.length_toList]; exact ht
    simp only [unums, List.getD, List.getElem?_map, List.getElem?_eq_getElem hk, Option.map_some, Option.getD_some]
  · simp only [World.cell?, Lib.bytesWorld_at_new]
    simp
    omega
  · simp only [World.frozen?, Lib.bytesWorld_at_new]
    simp
    omega
theorem i_one {w : World} {vb : Nat} {n v : ByteArray} (hv : w.heap[vb]? = some (.cells #[.string n, .string v] 31 (0, 0))) : FArg w (some ⟨vb, 0, none⟩) 1 1 [(n, v)] := by
  refine Or.inr ⟨vb, 0, rfl, rfl, Nat.le_refl _, by decide, fun t ht => ?_, fun t ht => ?_⟩
  · obtain rfl : t = 0 := by omega
    simp only [World.cell?, hv]
    rfl
  · obtain rfl : t = 0 := by omega
    simp only [World.cell?, hv]
    rfl
theorem i_two {w : World} {vb : Nat} {n v n2 v2 : ByteArray} (hv : w.heap[vb]? = some (.cells #[.string n, .string v, .string n2, .string v2] 31 (0, 0))) : FArg w (some ⟨vb, 0, none⟩) 2 2 [(n, v), (n2, v2)] := by
  refine Or.inr ⟨vb, 0, rfl, rfl, Nat.le_refl _, by decide, fun t ht => ?_, fun t ht => ?_⟩
  · rcases (by omega : t = 0 ∨ t = 1) with rfl | rfl <;> (simp only [World.cell?, hv]; rfl)
  · rcases (by omega : t = 0 ∨ t = 1) with rfl | rfl <;> (simp only [World.cell?, hv]; rfl)
abbrev tyB : ByteArray := ⟨#[116, 121, 112, 101]⟩
abbrev xB : ByteArray := ⟨#[120]⟩
abbrev vq (g k : Nat) (L : List FB) : RqM := { m := ⟨#[71, 69, 84]⟩, p := ⟨#[47]⟩, h := ⟨#[104]⟩, fa := some ⟨g, 0, none⟩, fn := k, fc := k, ba := none, bn := 0, bc := 0, FL := L, B := [] }
abbrev vp (n : Nat) (a : ByteArray) (cap : Nat) : RpM := { code := 200, fa := some ⟨n + 1, 0, none⟩, fn := 2, fc := 2, ba := some ⟨n + 2, 0, none⟩, bn := a.size, bc := cap, FL := vrFL, B := unums a }
/-- The reply and the requests in memory. -/
structure VW (w : World) (n m cap : Nat) (a b o : ByteArray) : Prop where
  p : w.heap[m]? = some (.cells #[.int .i64 200, .slice (some ⟨n + 1, 0, none⟩) 2 2, .slice (some ⟨n + 2, 0, none⟩) a.size cap] 27 (0, 0))
  fx : w.heap[m + 1]? = some (.cells #[.string tyB, .string a] 31 (0, 0))
  fy : w.heap[m + 1 + 1 + 1]? = some (.cells #[.string tyB, .string b] 31 (0, 0))
  y : w.heap[m + 1 + 1 + 1 + 1]? = some (.cells #[.string ⟨#[71, 69, 84]⟩, .string ⟨#[47]⟩, .string ⟨#[104]⟩, .slice (some ⟨m + 1 + 1 + 1, 0, none⟩) 1 1, .slice none 0 0] 25 (0, 0))
  fz : w.heap[m + 1 + 1 + 1 + 1 + 1]? = some (.cells #[.string tyB, .string a, .string xB, .string o] 31 (0, 0))
  z : w.heap[m + 1 + 1 + 1 + 1 + 1 + 1]? = some (.cells #[.string ⟨#[71, 69, 84]⟩, .string ⟨#[47]⟩, .string ⟨#[104]⟩, .slice (some ⟨m + 1 + 1 + 1 + 1 + 1, 0, none⟩) 2 2, .slice none 0 0] 25 (0, 0))
  fp : w.heap[n + 1]? = some (.cells #[.string ⟨#[99, 97, 99, 104, 101]⟩, .string ⟨#[109, 97, 120, 45, 57]⟩, .string ⟨#[118, 97, 114, 121]⟩, .string ⟨#[116, 121, 112, 101]⟩] 31 (0, 0))
  body : Arg w (some ⟨n + 2, 0, none⟩) a.size cap (unums a)
  lt : n + 2 < w.heap.size ∧ n + 2 < m
theorem VW.tn {S : Nat → Prop} {w w' : World} {n m cap : Nat} {a b o : ByteArray} (h : VW w n m cap a b o) (ht : Tn S w w') (hS : ∀ k, S k → k = n ∨ m + 6 < k) : VW w' n m cap a b o := by
  have blk : ∀ (k : Nat) (x : Obj), w.heap[k]? = some x → k ≠ n → k ≤ m + 6 → w'.heap[k]? = some x := fun k x hk h1 h2 => (ht.block k (Array.getElem?_eq_some_iff.1 hk).1 (fun e => by have := hS k e; omega)).trans hk
  have := h.lt
  refine ⟨blk _ _ h.p (by omega) (by omega), blk _ _ h.fx (by omega) (by omega), blk _ _ h.fy (by omega) (by omega), blk _ _ h.y (by omega) (by omega), blk _ _ h.fz (by omega) (by omega), blk _ _ h.z (by omega) (by omega), blk _ _ h.fp (by omega) (by omega), arg_tn h.body ht (fun q hq _ e => by cases hq; have e' : n + 2 = n ∨ m + 6 < n + 2 := hS _ e; omega), ?_⟩
  have := ht.size
  omega
theorem VW.rp {w : World} {n m cap : Nat} {a b o : ByteArray} (h : VW w n m cap a b o) (ha : a.size ≤ 140737488351232) : RpIn w (vp n a cap) := by
  refine ⟨by show (-9223372036854775808 : Int) ≤ 200 ∧ (200 : Int) ≤ 9223372036854775807; omega, i_two h.fp, h.body, (fun e => by cases e), ⟨Nat.le_of_ble_eq_true rfl, ha⟩, fun t => ?_⟩
  match t with
  | 0 => exact ⟨Nat.le_of_ble_eq_true rfl, Nat.le_of_ble_eq_true rfl⟩
  | 1 => exact ⟨Nat.le_of_ble_eq_true rfl, Nat.le_of_ble_eq_true rfl⟩
  | t + 2 => exact ⟨by simp [vrFL, fnone], by simp [vrFL, fnone]⟩
theorem vq1 {w : World} {g : Nat} {a : ByteArray} (h : w.heap[g]? = some (.cells #[.string tyB, .string a] 31 (0, 0))) (ha : a.size ≤ 140737488351232) : RqIn w (vq g 1 [(tyB, a)]) := by
  refine ⟨i_one h, Or.inl ⟨rfl, rfl⟩, fun _ => ⟨rfl, rfl⟩, ⟨Nat.le_of_ble_eq_true rfl, Nat.le_of_ble_eq_true rfl⟩, ⟨Nat.le_of_ble_eq_true rfl, Nat.le_of_ble_eq_true rfl, Nat.le_of_ble_eq_true rfl⟩, fun t => ?_⟩
  match t with
  | 0 => exact ⟨Nat.le_of_ble_eq_true rfl, ha⟩
  | t + 1 => exact ⟨by simp [fnone], by simp [fnone]⟩
theorem vq2 {w : World} {g : Nat} {a o : ByteArray} (h : w.heap[g]? = some (.cells #[.string tyB, .string a, .string xB, .string o] 31 (0, 0))) (ha : a.size ≤ 140737488351232) (ho : o.size ≤ 140737488351232) : RqIn w (vq g 2 [(tyB, a), (xB, o)]) := by
  refine ⟨i_two h, Or.inl ⟨rfl, rfl⟩, fun _ => ⟨rfl, rfl⟩, ⟨Nat.le_of_ble_eq_true rfl, Nat.le_of_ble_eq_true rfl⟩, ⟨Nat.le_of_ble_eq_true rfl, Nat.le_of_ble_eq_true rfl, Nat.le_of_ble_eq_true rfl⟩, fun t => ?_⟩
  match t with
  | 0 => exact ⟨Nat.le_of_ble_eq_true rfl, ha⟩
  | 1 => exact ⟨Nat.le_of_ble_eq_true rfl, ho⟩
  | t + 2 => exact ⟨by simp [fnone], by simp [fnone]⟩
theorem vrps (n : Nat) (a : ByteArray) (cap : Nat) : RpS (vp n a cap) := ⟨Nat.le_of_ble_eq_true rfl, by show (fstV (fdsOf vrFL) varyN).length < _; rw [vr_vary]; decide⟩
theorem vqb {g k : Nat} {L : List FB} {d : Nat} (h : RqB (vq g k L) d) : d = g := by
  rcases h with ⟨p, hp, rfl, _⟩ | ⟨p, hp, rfl, _⟩
  · cases hp; rfl
  · cases hp
theorem vpb {n cap : Nat} {a : ByteArray} {d : Nat} (h : RpB (vp n a cap) d) : d = n + 1 ∨ d = n + 2 := by
  rcases h with ⟨p, hp, rfl, _⟩ | ⟨p, hp, rfl, _⟩
  · cases hp; exact Or.inl rfl
  · cases hp; exact Or.inr rfl
/-- What is kept for a request of this kind. -/
structure VK (k : KpM) (a : ByteArray) (t : Int) (b : ByteArray) : Prop where
  host : k.host = ⟨#[104]⟩
  path : k.path = ⟨#[47]⟩
  FL : k.rp.FL = vrFL
  B : k.rp.B = unums b
  at_ : k.at_ = t
  L0 : k.L0 = [(tyB, a)]
theorem VK.of {w : World} {k : KpM} {g n cap : Nat} {a b : ByteArray} {t : Int} (h : KeptOf w (vq g 1 [(tyB, a)]) (vp n b cap) t k) : VK k a t b := ⟨h.host, h.path, h.rep.FL, h.rep.B, h.at_, h.L0⟩
theorem ty_num : unums tyB = typeN := by decide +kernel
theorem x_num : unums xB ≠ typeN := by decide +kernel
theorem VK.fit1 {k : KpM} {a b c : ByteArray} {t : Int} {g : Nat} (h : VK k a t c) : fitP k (vq g 1 [(tyB, b)]) ↔ a = b := by
  unfold fitP
  rw [h.host, h.path, h.FL, h.L0]
  have e1 := (vr_one (a := a) (o := a) ty_num x_num).2
  have e2 := (vr_one (a := b) (o := a) ty_num x_num).2
  rw [e1, show (vq g 1 [(tyB, b)]).FL = [(tyB, b)] from rfl, e2, vr_fits]
  exact ⟨fun h => h.2.2, fun h => ⟨rfl, rfl, h⟩⟩
theorem VK.fit2 {k : KpM} {a o c : ByteArray} {t : Int} {g : Nat} (h : VK k a t c) : fitP k (vq g 2 [(tyB, a), (xB, o)]) := by
  unfold fitP
  rw [h.host, h.path, h.FL, h.L0]
  have e1 := vr_one (a := a) (o := o) ty_num x_num
  rw [e1.2, show (vq g 2 [(tyB, a), (xB, o)]).FL = [(tyB, a), (xB, o)] from rfl, e1.1]
  exact ⟨rfl, rfl, Sby.refl _⟩
theorem VK.lives {k : KpM} {a c : ByteArray} (h : VK k a 1 c) : livesP k 3 := by
  unfold livesP
  rw [h.at_, h.FL, vr_life]
  omega
theorem vlay {w2 : World} {x0 x1 x2 x3 x4 x5 x6 : Obj} : let W := ((((((w2.alloc x0).alloc x1).alloc x2).alloc x3).alloc x4).alloc x5).alloc x6
    W.heap[w2.heap.size]? = some x0 ∧ W.heap[w2.heap.size + 1]? = some x1 ∧ W.heap[w2.heap.size + 1 + 1 + 1]? = some x3 ∧ W.heap[w2.heap.size + 1 + 1 + 1 + 1]? = some x4 ∧ W.heap[w2.heap.size + 1 + 1 + 1 + 1 + 1]? = some x5 ∧ W.heap[w2.heap.size + 1 + 1 + 1 + 1 + 1 + 1]? = some x6 ∧ W.heap.size = w2.heap.size + 7 ∧ Below w2.heap.size w2 W := by
  intro W
  have al : ∀ (V : World) (o : Obj) (k : Nat) (x : Option Obj), k < V.heap.size → V.heap[k]? = x → (V.alloc o).heap[k]? = x := fun V o k x hk e => (Below.heap_alloc _ _ _ hk).trans e
  have nw : ∀ (V : World) (o : Obj) (k : Nat), V.heap.size = k → (V.alloc o).heap[k]? = some o := fun V o k e => by rw [← e]; exact heap_alloc_new V o
  refine ⟨?_, ?_, ?_, ?_, ?_, ?_, ?_, ?_⟩
  · exact al _ _ _ _ (by simp <;> omega) (al _ _ _ _ (by simp <;> omega) (al _ _ _ _ (by simp <;> omega) (al _ _ _ _ (by simp <;> omega) (al _ _ _ _ (by simp <;> omega) (al _ _ _ _ (by simp) (nw _ _ _ rfl))))))
  · exact al _ _ _ _ (by simp <;> omega) (al _ _ _ _ (by simp <;> omega) (al _ _ _ _ (by simp <;> omega) (al _ _ _ _ (by simp <;> omega) (al _ _ _ _ (by simp) (nw _ _ _ (by simp))))))
  · exact al _ _ _ _ (by simp <;> omega) (al _ _ _ _ (by simp <;> omega) (al _ _ _ _ (by simp) (nw _ _ _ (by simp))))
  · exact al _ _ _ _ (by simp <;> omega) (al _ _ _ _ (by simp) (nw _ _ _ (by simp)))
  · exact al _ _ _ _ (by simp) (nw _ _ _ (by simp))
  · exact nw _ _ _ (by simp)
  · show (World.alloc _ _).heap.size = _
    simp [World.size_alloc]
  · exact (((((((Below.refl _ w2).alloc (Nat.le_refl _) _).alloc (by simp) _).alloc (by simp <;> omega) _).alloc (by simp <;> omega) _).alloc (by simp <;> omega) _).alloc (by simp <;> omega) _).alloc (by simp <;> omega) _
theorem vget_m : unums (⟨#[71, 69, 84]⟩ : ByteArray) = getN := by decide +kernel
theorem vg_z {w w' : World} {k : KpM} {a o c : ByteArray} {g : Nat} {e : Ending} (h : GetE w [k] (vq g 2 [(tyB, a), (xB, o)]) 3 e w') (hk : VK k a 1 c) : ∃ p : RpM, e = .returned (.tuple #[.agg #[.int .i64 p.code, .slice p.fa p.fn p.fc, .slice p.ba p.bn p.bc], .int .i64 2, .nilIface]) ∧ Arg w' p.ba p.bn p.bc (unums c) := by
  rcases h with ⟨t, p, ht, hh, _, he, hR, hS⟩ | ⟨hno, _⟩
  · obtain rfl : t = 0 := by simpa using ht
    have e1 : ([k].getD 0 kz) = k := rfl
    rw [e1] at he hS
    refine ⟨p, ?_, ?_⟩
    · rw [he, hk.at_]; rfl
    · have := hR.body
      rwa [hS.B, hk.B] at this
  · exact absurd ⟨hk.fit2, hk.lives⟩ (hno 0 (by simp))
theorem vg_y {w w' : World} {k : KpM} {a b c : ByteArray} {g : Nat} {e : Ending} (h : GetE w [k] (vq g 1 [(tyB, b)]) 3 e w') (hk : VK k a 1 c) : ∃ (co : Int) (fa : Option Addr) (fn fc : Nat) (ba : Option Addr) (bn bc : Nat) (ol : Int) (er : Value), e = .returned (.tuple #[.agg #[.int .i64 co, .slice fa fn fc, .slice ba bn bc], .int .i64 ol, er]) ∧ (a = b → er = .nilIface) ∧ (a ≠ b → er = .iface 55 (.int .i64 5)) := by
  rcases h with ⟨t, p, ht, hh, _, he, hR, hS⟩ | ⟨hno, he⟩
  · obtain rfl : t = 0 := by simpa using ht
    have e1 : ([k].getD 0 kz) = k := rfl
    rw [e1] at hh
    have := hk.fit1.1 hh.1
    exact ⟨_, _, _, _, _, _, _, _, _, he, fun _ => rfl, fun h => absurd this h⟩
  · refine ⟨_, _, _, _, _, _, _, _, _, he, fun hab => ?_, fun _ => rfl⟩
    exact absurd ⟨hk.fit1.2 hab, hk.lives⟩ (hno 0 (by simp))
theorem vq_box {w : World} {g : Nat} {k : Nat} {f : Nat} (h : w.heap[g]? = some (.cells #[.string ⟨#[71, 69, 84]⟩, .string ⟨#[47]⟩, .string ⟨#[104]⟩, .slice (some ⟨f, 0, none⟩) k k, .slice none 0 0] 25 (0, 0))) :
    w.cell? ⟨g, 0, none⟩ = some (.string ⟨#[71, 69, 84]⟩) ∧ w.cell? ⟨g, 1, none⟩ = some (.string ⟨#[47]⟩) ∧ w.cell? ⟨g, 2, none⟩ = some (.string ⟨#[104]⟩) ∧ w.cell? ⟨g, 3, none⟩ = some (.slice (some ⟨f, 0, none⟩) k k) ∧ w.cell? ⟨g, 4, none⟩ = some (.slice none 0 0) := by
  refine ⟨?_, ?_, ?_, ?_, ?_⟩ <;> (rw [cell_of_row _ _ _ _ _ _ h]; rfl)
theorem vstring_empty {w : World} (a : Addr) (cap : Nat) : (convert 23 9 (.slice (some a) 0 cap)).run Tryd.prog w = .ok (.string (strOfNums [])) w := by
  rw [run_convert_bytes_string w 23 9 5 _ 0 cap Tryd.underlying23 Tryd.underlying5 Tryd.underlying9, run_bytesToString w a 0 cap [] (by simp [loadCells, loadCellsFrom])]
  rfl
/-- string(b) of bytes that were handed in. -/
theorem vstring_arg {w : World} {a : Option Addr} {len cap : Nat} {Z : List Int} (h : Arg w a len cap Z) :
    (convert 23 9 (.slice a len cap)).run Tryd.prog w = .ok (.string (strOfNums Z)) w := by
  rcases h with ⟨rfl, rfl⟩ | ⟨g, off, rfl, hr⟩
  · match a with
    | none => exact run_convert_bytes_nil (P := Tryd.prog) w 23 5 Tryd.underlying23 Tryd.underlying5 0 cap 9 Tryd.underlying9
    | some a => exact vstring_empty a cap
  · exact run_convert_bytes_arg w 23 5 Tryd.underlying23 Tryd.underlying5 g off len cap Z hr.hlen hr.hcell 9 Tryd.underlying9
end Go.Proofs.YtgdcnbnpjpbldaaDoor
/-
  WHAT DIFFERS IS KEPT APART: StoreVaries. No claim by itself.
-/
namespace Go.Proofs.YtgdcnbnpjpbldaaDoor
open Go Go.RowKit Go.Shelf
set_option maxRecDepth 100000
theorem vbel {S : Nat → Prop} {n : Nat} {w W W' : World} (h : Below n w W) (ht : Tn S W W') (hS : ∀ k, S k → n ≤ k) (hn : n ≤ w.heap.size) : Below n w W' :=
  ⟨ht.os.trans h.os, ht.tape.trans h.tape, ht.output.trans h.output, Nat.le_trans h.size ht.size, fun k hk => (ht.block k (by have := h.size; omega) (fun e => by have := hS k e; omega)).trans (h.block k hk)⟩
set_option maxHeartbeats 8000000 in
theorem zvaries_ok (a b o : ByteArray) (w : World) (ha : a.size ≤ 140737488351232) (hb : b.size ≤ 140737488351232) (ho : o.size ≤ 140737488351232) (hm : QOk w) (hgl : 8 ≤ w.heap.size) :
    Calls Tryd.prog 4 #[.string a, .string b, .string o] w fun e w' => e = .returned (.bool true) ∧ Below w.heap.size w w' := by
  go_enter Tryd.func4, Tryd.ntmps4
  go_wp2_with fail
  refine (znew_any _).mono ?_
  rintro e w1 ⟨rfl, hS1, hw1⟩
  have HS1 := vl hS1
  have HW1 := vl hw1
  clear hS1 hw1
  go_wp2_with fail
  obtain ⟨W0, hW0⟩ : ∃ x, w1.alloc (Obj.cells #[.string ⟨#[99, 97, 99, 104, 101]⟩, .string ⟨#[109, 97, 120, 45, 57]⟩, .string ⟨#[118, 97, 114, 121]⟩, .string ⟨#[116, 121, 112, 101]⟩] 31) = x := ⟨_, rfl⟩
  obtain ⟨cap, w2, hrun, hown, hbel⟩ := vconv_own a W0 (by omega)
  rw [hW0, hrun]
  have hm1 : w1.heap.size = w.heap.size + 1 := by rw [HW1.out, World.size_alloc]
  have hm0 : W0.heap.size = w.heap.size + 2 := by rw [← hW0, World.size_alloc, hm1]
  rw [hm1, hm0]
  have HOWN := vl hown
  have HBEL := vl hbel
  have HW0 := vl hW0
  have HM0 := vl hm0
  have HM1 := vl hm1
  clear hrun hown hbel hW0 hm0 hm1
  go_wp2_with fail
  obtain ⟨W6, hW6⟩ : ∃ x, ((((((w2.alloc (Obj.cells #[.int .i64 200, .slice (some ⟨w.heap.size + 1, 0, none⟩) 2 2, .slice (some ⟨w.heap.size + 2, 0, none⟩) a.size cap] 27)).alloc (Obj.cells #[.string tyB, .string a] 31)).alloc (Obj.cells #[.string ⟨#[71, 69, 84]⟩, .string ⟨#[47]⟩, .string ⟨#[104]⟩, .slice (some ⟨w2.heap.size + 1, 0, none⟩) 1 1, .slice none 0 0] 25)).alloc (Obj.cells #[.string tyB, .string b] 31)).alloc (Obj.cells #[.string ⟨#[71, 69, 84]⟩, .string ⟨#[47]⟩, .string ⟨#[104]⟩, .slice (some ⟨w2.heap.size + 1 + 1 + 1, 0, none⟩) 1 1, .slice none 0 0] 25)).alloc (Obj.cells #[.string tyB, .string a, .string xB, .string o] 31)).alloc (Obj.cells #[.string ⟨#[71, 69, 84]⟩, .string ⟨#[47]⟩, .string ⟨#[104]⟩, .slice (some ⟨w2.heap.size + 1 + 1 + 1 + 1 + 1, 0, none⟩) 2 2, .slice none 0 0] 25) = x := ⟨_, rfl⟩
  have hB0 : Below w.heap.size w W0 := by rw [← HW0.out, HW1.out]; exact ((Below.refl _ w).alloc (Nat.le_refl _) _).alloc (by simp) _
  have hB2 : Below w.heap.size w w2 := hB0.trans (HBEL.out.mono (by have := HM0.out; omega))
  have hm2 : w.heap.size + 2 < w2.heap.size := by
    rcases HOWN.out with ⟨e, _⟩ | ⟨g, c, e, h1, h2, _⟩
    · cases e
    · have := HM0.out; omega
  have hl := vlay (w2 := w2) (x0 := Obj.cells #[.int .i64 200, .slice (some ⟨w.heap.size + 1, 0, none⟩) 2 2, .slice (some ⟨w.heap.size + 2, 0, none⟩) a.size cap] 27) (x1 := Obj.cells #[.string tyB, .string a] 31) (x2 := Obj.cells #[.string ⟨#[71, 69, 84]⟩, .string ⟨#[47]⟩, .string ⟨#[104]⟩, .slice (some ⟨w2.heap.size + 1, 0, none⟩) 1 1, .slice none 0 0] 25) (x3 := Obj.cells #[.string tyB, .string b] 31) (x4 := Obj.cells #[.string ⟨#[71, 69, 84]⟩, .string ⟨#[47]⟩, .string ⟨#[104]⟩, .slice (some ⟨w2.heap.size + 1 + 1 + 1, 0, none⟩) 1 1, .slice none 0 0] 25) (x5 := Obj.cells #[.string tyB, .string a, .string xB, .string o] 31) (x6 := Obj.cells #[.string ⟨#[71, 69, 84]⟩, .string ⟨#[47]⟩, .string ⟨#[104]⟩, .slice (some ⟨w2.heap.size + 1 + 1 + 1 + 1 + 1, 0, none⟩) 2 2, .slice none 0 0] 25)
  rw [hW6] at hl ⊢
  obtain ⟨l0, l1, l3, l4, l5, l6, l7, l8⟩ := hl
  have hB6 : Below w.heap.size w W6 := hB2.trans (l8.mono (by omega))
  have hVW : VW W6 w.heap.size w2.heap.size cap a b o := by
    refine ⟨l0, l1, l3, l4, l5, l6, ?_, ?_, by omega, hm2⟩
    · refine (l8.block _ (by omega)).trans ((HBEL.out.block _ (by have := HM0.out; omega)).trans ?_)
      rw [← HW0.out, ← HM1.out]
      exact heap_alloc_new w1 _
    · have hx := HOWN.out
      rw [HM0.out, ← unums_len a] at hx
      have := (hx.arg (bytes_unums a)).below l8
      rwa [unums_len] at this
  have hST : StM W6 w.heap.size (.slice none 0 0) [] := (HS1.out.below (by
    have : Below w1.heap.size w1 W0 := by rw [← HW0.out]; exact (Below.refl _ w1).alloc (Nat.le_refl _) _
    exact this.trans ((HBEL.out.mono (by have := HM0.out; have := HM1.out; omega)).trans (l8.mono (by have := HM1.out; omega)))))
  have hS0 : ∀ k, StS w.heap.size (.slice none 0 0) k → k = w.heap.size := fun k hk => by
    rcases hk with e | e
    · exact e
    · simp [Value.ownBlock] at e
  have HVW := vl hVW
  have HST := vl hST
  have HL7 := vl l7
  have HM2 := vl hm2
  have HQ6 := vl (hm.below hB6)
  have HS0 := vl hS0
  have HB6 := vl hB6
  have HP1 := vl (zput_yes w.heap.size (.slice none 0 0) [] (vq (w2.heap.size + 1) 1 [(tyB, a)]) (vp w.heap.size a cap) 1 W6 hST (vq1 l1 ha) (hVW.rp ha) ⟨Nat.le_of_ble_eq_true rfl⟩ (vrps _ _ _) (hm.below hB6) (by omega) vget_m rfl (by show 0 < lifeR (fdsOf vrFL); rw [vr_life]; omega) (by simp [kf]) (fun k hk => by have := hS0 k hk; omega) (fun d hd hk => by have := vqb hd; have := hS0 d hk; omega) (fun d hd hk => by have := vpb hd; have := hS0 d hk; omega))
  clear hB0 hB2 hm2 l0 l1 l3 l4 l5 l6 l7 l8 hB6 hVW hST hS0 hW6
  refine HP1.out.mono ?_
  rintro e w7 ⟨rfl, v1, k1, hS7, hK7, hT7, hN7⟩
  have HBW7 : Vl (Below w.heap.size w w7) := vl (vbel HB6.out hT7 (fun k hk => by have := HS0.out k hk; omega) (Nat.le_refl _))
  have hS7' : StM w7 w.heap.size v1 [k1] := by simpa [kf] using hS7
  have hVK := VK.of hK7
  have hsz7 := hT7.size
  have hSS7 : ∀ k, StS w.heap.size v1 k → k = w.heap.size ∨ w2.heap.size + 6 < k := fun k hk => by
    rcases hN7 k hk with e | e
    · exact Or.inl (HS0.out k e)
    · have := HL7.out; exact Or.inr (by omega)
  have hW7 := HVW.out.tn hT7 (fun k hk => Or.inl (HS0.out k hk))
  have hQ7 : QOk w7 := HQ6.out.tn hT7 (fun k hk => by have := HS0.out k hk; omega)
  have HG1 := vl (zget_any w.heap.size v1 [k1] (vq (w2.heap.size + 1 + 1 + 1 + 1 + 1) 2 [(tyB, a), (xB, o)]) 3 w7 hS7' (vq2 hW7.fz ha ho) ⟨Nat.le_of_ble_eq_true rfl⟩ hQ7 (by omega) vget_m (by have := HL7.out; have := HM2.out; omega))
  obtain ⟨z0, z1, z2, z3, z4⟩ := vq_box hW7.z
  have HS7 := vl hS7'
  have HVK := vl hVK
  have HSS7 := vl hSS7
  have HW7 := vl hW7
  have HQ7 := vl hQ7
  have HZ7 : Vl (w2.heap.size + 7 ≤ w7.heap.size) := vl (by have := HL7.out; omega)
  clear hS7 hS7' hVK hsz7 hSS7 hW7 hQ7 HP1 hK7 hT7 hN7 HVW HST HQ6 HS0 HL7 HB6
  go_wp2_with fail
  refine HG1.out.mono ?_
  rintro e w8 ⟨hG, hb8⟩
  obtain ⟨p, rfl, hpB⟩ := vg_z hG HVK.out
  have HB8 := vl hb8
  have HPB := vl hpB
  clear hG HG1 hb8 hpB z0 z1 z2 z3 z4
  have hb9 : Below w7.heap.size w7 (w8.alloc (.cells #[.int .i64 p.code, .slice p.fa p.fn p.fc, .slice p.ba p.bn p.bc] 27)) := HB8.out.alloc HB8.out.size _
  have hW9 := HW7.out.tn (S := fun _ => False) (Tn.of_below hb9) (fun k hk => hk.elim)
  obtain ⟨y0, y1, y2, y3, y4⟩ := vq_box hW9.y
  have HG2 := vl (zget_any w.heap.size v1 [k1] (vq (w2.heap.size + 1 + 1 + 1) 1 [(tyB, b)]) 3 _ (HS7.out.below hb9) (vq1 hW9.fy hb) ⟨Nat.le_of_ble_eq_true rfl⟩ (HQ7.out.below hb9) (by omega) vget_m (by have := HZ7.out; have := HM2.out; have := hb9.size; omega))
  have HB9 := vl hb9
  have HPQ : Vl (Arg (w8.alloc (.cells #[.int .i64 p.code, .slice p.fa p.fn p.fc, .slice p.ba p.bn p.bc] 27)) p.ba p.bn p.bc (unums a)) := vl (HPB.out.below ((Below.refl _ w8).alloc (Nat.le_refl _) _))
  clear hW9 hb9
  go_wp2_with fail
  refine HG2.out.mono ?_
  rintro e wa ⟨hG, hba⟩
  obtain ⟨co, fa, fn, fc, ba, bn, bc, ol, er, rfl, he1, he2⟩ := vg_y hG HVK.out
  have hwp : (w8.alloc (.cells #[.int .i64 p.code, .slice p.fa p.fn p.fc, .slice p.ba p.bn p.bc] 27)).heap[w8.heap.size]? = _ := heap_alloc_new w8 _
  obtain ⟨W9, hW9⟩ : ∃ x, w8.alloc (.cells #[.int .i64 p.code, .slice p.fa p.fn p.fc, .slice p.ba p.bn p.bc] 27) = x := ⟨_, rfl⟩
  rw [hW9] at hwp hba HB9 HPQ
  have h89 : w8.heap.size < W9.heap.size := (Array.getElem?_eq_some_iff.1 hwp).1
  obtain ⟨X, hX⟩ : ∃ x, wa.alloc (.cells #[.int .i64 co, .slice fa fn fc, .slice ba bn bc] 27) = x := ⟨_, rfl⟩
  have hbX : Below W9.heap.size W9 X := by rw [← hX]; exact hba.alloc hba.size _
  have q2 : X.cell? ⟨w8.heap.size, 2, none⟩ = some (.slice p.ba p.bn p.bc) := by rw [cell_of_row _ _ _ _ _ _ ((hbX.block _ h89).trans hwp)]; rfl
  have cv : (convert 23 9 (.slice p.ba p.bn p.bc)).run Tryd.prog X = .ok (.string a) X := by
    have := vstring_arg (HPQ.out.below hbX)
    rwa [str_unums] at this
  have HBX : Vl (Below w7.heap.size w7 X) := vl (HB9.out.trans (hbX.mono HB9.out.size))
  have HE1 := vl he1
  have HE2 := vl he2
  clear hG HG2 hba he1 he2 y0 y1 y2 y3 y4 hwp h89 hbX HB8 HB9 HPB HPQ
  by_cases hab : a = b
  · subst hab
    have he := HE1.out rfl
    subst he
    clear HE1 HE2
    have hWX := HW7.out.tn (S := fun _ => False) (Tn.of_below HBX.out) (fun k hk => hk.elim)
    obtain ⟨y0, y1, y2, y3, y4⟩ := vq_box hWX.y
    have p0 : X.cell? ⟨w2.heap.size, 0, none⟩ = some (.int .i64 200) := by rw [cell_of_row _ _ _ _ _ _ hWX.p]; rfl
    have p1 : X.cell? ⟨w2.heap.size, 1, none⟩ = some (.slice (some ⟨w.heap.size + 1, 0, none⟩) 2 2) := by rw [cell_of_row _ _ _ _ _ _ hWX.p]; rfl
    have p2 : X.cell? ⟨w2.heap.size, 2, none⟩ = some (.slice (some ⟨w.heap.size + 2, 0, none⟩) a.size cap) := by rw [cell_of_row _ _ _ _ _ _ hWX.p]; rfl
    have hmm := HM2.out
    have HP2 := vl (zput_yes w.heap.size v1 [k1] (vq (w2.heap.size + 1 + 1 + 1) 1 [(tyB, a)]) (vp w.heap.size a cap) 2 X (HS7.out.below HBX.out) (vq1 hWX.fy ha) (hWX.rp ha) ⟨Nat.le_of_ble_eq_true rfl⟩ (vrps _ _ _) (HQ7.out.below HBX.out) (by omega) vget_m rfl (by show 0 < lifeR (fdsOf vrFL); rw [vr_life]; omega) (Nat.lt_of_le_of_lt (List.length_filter_le _ _) (by simp)) (fun k hk => by have := HSS7.out k hk; omega) (fun d hd hk => by have := vqb hd; have := HSS7.out d hk; omega) (fun d hd hk => by have := vpb hd; have := HSS7.out d hk; omega))
    clear hWX hmm
    go_wp2_with fail
    refine HP2.out.mono ?_
    rintro e wb ⟨rfl, v2, k2, hSb, hKb, hTb, hNb⟩
    have hV2 := VK.of hKb
    have HBX7 : Vl (Below w.heap.size w X) := vl (HBW7.out.trans (HBX.out.mono HBW7.out.size))
    have HBWb : Vl (Below w.heap.size w wb) := vl (vbel HBX7.out hTb (fun k hk => by have := HSS7.out k hk; have := HM2.out; omega) (Nat.le_refl _))
    have HSb : Vl (∀ k, StS w.heap.size v2 k → w.heap.size ≤ k) := vl (fun k hk => by
      rcases hNb k hk with e | e
      · have := HSS7.out k e; have := HM2.out; omega
      · have := HBX7.out.size; omega)
    have hks : kf (fun k => fitP k (vq (w2.heap.size + 1 + 1 + 1) 1 [(tyB, a)])) [k1] ++ [k2] = [k2] := by
      have : fitP k1 (vq (w2.heap.size + 1 + 1 + 1) 1 [(tyB, a)]) ↔ a = a := HVK.out.fit1
      simp [kf, this]
    rw [hks] at hSb
    have HLN := vl (zlen_any w.heap.size v2 [k2] wb hSb)
    have HDR := vl (zdrop_any w.heap.size v2 [k2] ⟨#[47]⟩ wb hSb)
    have HK0 : Vl (kf (fun k => unums k.path = unums (⟨#[47]⟩ : ByteArray)) [k2] = []) := vl (by simp [kf, hV2.path])
    clear hSb hKb hTb hNb hV2 hks HP2 y0 y1 y2 y3 y4 p0 p1 p2
    go_wp2_with fail
    refine HLN.out.mono ?_
    rintro e wc ⟨rfl, rfl⟩
    rw [show ((([k2] : List KpM).length : Nat) : Int) = 1 from rfl]
    go_wp2_with fail
    refine HDR.out.mono ?_
    rintro e wc ⟨rfl, v3, hSc, hTc, _⟩
    have HBWc : Vl (Below w.heap.size w wc) := vl (vbel HBWb.out hTc HSb.out (Nat.le_refl _))
    rw [HK0.out, show ((([k2] : List KpM).length : Nat) : Int) - ((([] : List KpM).length : Nat) : Int) = 1 from rfl]
    rw [HK0.out] at hSc
    have HL3 := vl (zlen_any w.heap.size v3 [] wc hSc)
    clear hSc hTc
    go_wp2_with fail
    refine HL3.out.mono ?_
    rintro e wd ⟨rfl, rfl⟩
    rw [show (((([] : List KpM).length : Nat)) : Int) = 0 from rfl]
    go_wp2
    go_ret
    exact ⟨rfl, HBWc.out⟩
  · have he := HE2.out hab
    subst he
    have hq1 : (a.toList == b.toList) = false := by
      rw [un_beq]
      exact decide_eq_false (fun h => hab (unums_inj h))
    clear HE1 HE2
    have hWX := HW7.out.tn (S := fun _ => False) (Tn.of_below HBX.out) (fun k hk => hk.elim)
    obtain ⟨y0, y1, y2, y3, y4⟩ := vq_box hWX.y
    have p0 : X.cell? ⟨w2.heap.size, 0, none⟩ = some (.int .i64 200) := by rw [cell_of_row _ _ _ _ _ _ hWX.p]; rfl
    have p1 : X.cell? ⟨w2.heap.size, 1, none⟩ = some (.slice (some ⟨w.heap.size + 1, 0, none⟩) 2 2) := by rw [cell_of_row _ _ _ _ _ _ hWX.p]; rfl
    have p2 : X.cell? ⟨w2.heap.size, 2, none⟩ = some (.slice (some ⟨w.heap.size + 2, 0, none⟩) a.size cap) := by rw [cell_of_row _ _ _ _ _ _ hWX.p]; rfl
    have hmm := HM2.out
    have HP2 := vl (zput_yes w.heap.size v1 [k1] (vq (w2.heap.size + 1 + 1 + 1) 1 [(tyB, b)]) (vp w.heap.size a cap) 2 X (HS7.out.below HBX.out) (vq1 hWX.fy hb) (hWX.rp ha) ⟨Nat.le_of_ble_eq_true rfl⟩ (vrps _ _ _) (HQ7.out.below HBX.out) (by omega) vget_m rfl (by show 0 < lifeR (fdsOf vrFL); rw [vr_life]; omega) (Nat.lt_of_le_of_lt (List.length_filter_le _ _) (by simp)) (fun k hk => by have := HSS7.out k hk; omega) (fun d hd hk => by have := vqb hd; have := HSS7.out d hk; omega) (fun d hd hk => by have := vpb hd; have := HSS7.out d hk; omega))
    clear hWX hmm
    go_wp2_with fail
    refine HP2.out.mono ?_
    rintro e wb ⟨rfl, v2, k2, hSb, hKb, hTb, hNb⟩
    have hV2 := VK.of hKb
    have HBX7 : Vl (Below w.heap.size w X) := vl (HBW7.out.trans (HBX.out.mono HBW7.out.size))
    have HBWb : Vl (Below w.heap.size w wb) := vl (vbel HBX7.out hTb (fun k hk => by have := HSS7.out k hk; have := HM2.out; omega) (Nat.le_refl _))
    have HSb : Vl (∀ k, StS w.heap.size v2 k → w.heap.size ≤ k) := vl (fun k hk => by
      rcases hNb k hk with e | e
      · have := HSS7.out k e; have := HM2.out; omega
      · have := HBX7.out.size; omega)
    have hks : kf (fun k => fitP k (vq (w2.heap.size + 1 + 1 + 1) 1 [(tyB, b)])) [k1] ++ [k2] = [k1, k2] := by
      have : fitP k1 (vq (w2.heap.size + 1 + 1 + 1) 1 [(tyB, b)]) ↔ a = b := HVK.out.fit1
      simp [kf, this, hab]
    rw [hks] at hSb
    have HLN := vl (zlen_any w.heap.size v2 [k1, k2] wb hSb)
    have HDR := vl (zdrop_any w.heap.size v2 [k1, k2] ⟨#[47]⟩ wb hSb)
    have HK0 : Vl (kf (fun k => unums k.path = unums (⟨#[47]⟩ : ByteArray)) [k1, k2] = []) := vl (by simp [kf, HVK.out.path, hV2.path])
    clear hSb hKb hTb hNb hV2 hks HP2 y0 y1 y2 y3 y4 p0 p1 p2
    go_wp2_with fail
    refine HLN.out.mono ?_
    rintro e wc ⟨rfl, rfl⟩
    rw [show ((([k1, k2] : List KpM).length : Nat) : Int) = 2 from rfl]
    go_wp2_with fail
    refine HDR.out.mono ?_
    rintro e wc ⟨rfl, v3, hSc, hTc, _⟩
    have HBWc : Vl (Below w.heap.size w wc) := vl (vbel HBWb.out hTc HSb.out (Nat.le_refl _))
    rw [HK0.out, show ((([k1, k2] : List KpM).length : Nat) : Int) - ((([] : List KpM).length : Nat) : Int) = 2 from rfl]
    rw [HK0.out] at hSc
    have HL3 := vl (zlen_any w.heap.size v3 [] wc hSc)
    clear hSc hTc
    go_wp2_with fail
    refine HL3.out.mono ?_
    rintro e wd ⟨rfl, rfl⟩
    rw [show (((([] : List KpM).length : Nat)) : Int) = 0 from rfl]
    go_wp2
    go_ret
    exact ⟨rfl, HBWc.out⟩
end Go.Proofs.YtgdcnbnpjpbldaaDoor
