/-
  WHOSE TURN IT IS: the Go function Want of package pick. No claim by itself.
-/
import Derived.Test.YtbhjgpbdfcppkaePkd4
import Derived.BigRegion
import Derived.Lib.MinMax
namespace Go.Proofs.Ytbhjgpbdfcppkae
open Go.RowKit Go.Maps
set_option maxRecDepth 100000
theorem said_turn {w w1 w' : World} {pb mb n' : Nat} {D : Dat} {L : PL} (h : PkM w pb mb D L) (hb : Below w.heap.size w w1) {id wt sc : Int} {wn : Bool} (ho : w'.ownsMap Try.prog 3 oneElem mb n' (D.put (pkK id) (oneD wt sc wn))) (hg : w1.grownBy w' (some mb))
    {o : PkO} (hf : pkFind L id = some o) (f : PkO → PkO) (hid : ∀ o, (f o).id = o.id) (e : f o = ⟨o.id, wt, sc, wn⟩) : PkSaid pb mb w 0 (pkMap L id f) (.returned .nilIface) w' := by
  have h1 := h.rel.turn (h.own.tidy klaw) hid hf
  rw [e] at h1
  exact said_put h hb ho hg h1
set_option maxHeartbeats 1000000 in
theorem pwant_none {w : World} {pb mb : Nat} {D : Dat} {L : PL} (h : PkM w pb mb D L) (id : Int) (yes : Bool) (hi : I64 id) (hf : pkFind L id = none) :
    Calls Try.prog 14 #[kptr pb, .int .i64 id, .bool yes] w (PkSaid pb mb w 5 L) := by
  have HM := vl h
  have c0 := h.c0
  have lk := h.lookk0 hi hf
  have HF : Vl (PkSaid pb mb w 5 L (.returned (.iface 46 (.int .i64 5))) (w.alloc (.cells #[.int .i64 0, .int .i64 0, .bool false] 53))) := said_same HM.out ((Below.refl _ _).alloc (Nat.le_refl _) _) rfl
  clear h hi hf HM
  unfold kptr
  go_enter Try.func14, Try.ntmps14
  go_wp2
  go_ret
  exact HF.out
set_option maxHeartbeats 1000000 in
theorem pwant_plain {w : World} {pb mb : Nat} {D : Dat} {L : PL} (h : PkM w pb mb D L) (hI : PkI L) (id : Int) (yes : Bool) (hi : I64 id) {o : PkO} (hf : pkFind L id = some o) (hy : (yes && !o.wants) = false) :
    Calls Try.prog 14 #[kptr pb, .int .i64 id, .bool yes] w (PkSaid pb mb w 0 (pkMap L id (wantO L yes))) := by
  have HM := vl h
  have c0 := h.c0
  have lk := h.lookk hi hf
  have HFI := vl hf
  have HY := vl hy
  have HBA : Vl (Below w.heap.size w (w.alloc (.cells #[.int .i64 o.wt, .int .i64 o.sc, .bool yes] 53)).drew) := ((Below.refl _ _).alloc (Nat.le_refl _) _).drew
  have HMA := vl (HM.out.below (Nat.le_refl _) HBA.out)
  have cA : (w.alloc (.cells #[.int .i64 o.wt, .int .i64 o.sc, .bool yes] 53)).cell? ⟨pb, 0, none⟩ = some (.map (some mb)) := HMA.out.c0
  obtain ⟨w3, hst, ho3, hg3, c3⟩ := HMA.out.store hI hi o.wt o.sc yes
  have HO3 := vl ho3
  have HG3 := vl hg3
  have HST := vl hst
  obtain ⟨oi, ow, os, on⟩ := o
  dsimp only at *
  clear h hI hi hf ho3 hg3 c3 hst hy HMA
  unfold kptr
  cases yes with
  | false =>
    go_enter Try.func14, Try.ntmps14
    go_wp2_with fail
    have hst := HST.out
    clear HST lk c0
    go_region
    go_wp2
    go_ret
    exact said_turn HM.out HBA.out HO3.out HG3.out HFI.out _ (fun _ => rfl) (by simp [wantO])
  | true =>
    obtain rfl : on = true := by simpa using HY.out
    go_enter Try.func14, Try.ntmps14
    go_wp2_with fail
    have hst := HST.out
    clear HST lk c0
    go_region
    go_wp2
    go_ret
    exact said_turn HM.out HBA.out HO3.out HG3.out HFI.out _ (fun _ => rfl) (by simp [wantO])
set_option maxHeartbeats 2000000 in
theorem pwant_raise {w : World} {pb mb : Nat} {D : Dat} {L : PL} (h : PkM w pb mb D L) (hI : PkI L) (id : Int) (hi : I64 id) {o : PkO} (hf : pkFind L id = some o) (hy : o.wants = false) :
    Calls Try.prog 14 #[kptr pb, .int .i64 id, .bool true] w (PkSaid pb mb w 0 (pkMap L id (wantO L true))) := by
  have HM := vl h
  have HI := vl hI
  have HII := vl hi
  have c0 := h.c0
  have lk := h.lookk hi hf
  have HFI := vl hf
  obtain ⟨oi, ow, os, on⟩ := o
  dsimp only at *
  subst hy
  clear h hI hi hf
  unfold kptr
  go_enter Try.func14, Try.ntmps14
  go_wp2_with fail
  obtain ⟨WA, hWA⟩ : ∃ WA, WA = w.alloc (.cells #[.int .i64 ow, .int .i64 os, .bool false] 53) := ⟨_, rfl⟩
  have hxA : WA.heap[w.heap.size]? = some (.cells #[.int .i64 ow, .int .i64 os, .bool false] 53 (0, 0)) := by rw [hWA]; exact heap_alloc_new w _
  have hsA : WA.heap.size = w.heap.size + 1 := by rw [hWA]; simp
  have HBA : Vl (Below w.heap.size w WA) := by rw [hWA]; exact (Below.refl _ _).alloc (Nat.le_refl _) _
  have HMA := vl (HM.out.below (Nat.le_refl _) HBA.out)
  rw [← hWA]
  clear hWA lk c0
  have HL := vl (pleast_any HMA.out.drew HI.out)
  unfold kptr at HL
  obtain ⟨ls, hls⟩ : ∃ ls, leastSc L = ls := ⟨_, rfl⟩
  rw [hls] at HL
  have HLS := vl hls
  have k1 : WA.drew.cell? ⟨w.heap.size, 1, none⟩ = some (.int .i64 os) := by
    show WA.cell? ⟨w.heap.size, 1, none⟩ = _
    simp only [World.cell?, hxA]; rfl
  have HK : Vl (WA.drew.cell? ⟨w.heap.size, 0, none⟩ = some (.int .i64 ow) ∧ WA.drew.cell? ⟨w.heap.size, 2, none⟩ = some (.bool false) ∧ ∀ i, WA.drew.frozen? ⟨w.heap.size, i, none⟩ = false) := by
    refine ⟨?_, ?_, fun i => ?_⟩
    · show WA.cell? ⟨w.heap.size, 0, none⟩ = _
      simp only [World.cell?, hxA]; rfl
    · show WA.cell? ⟨w.heap.size, 2, none⟩ = _
      simp only [World.cell?, hxA]; rfl
    · show WA.frozen? ⟨w.heap.size, i, none⟩ = _
      simp [World.frozen?, hxA]
  have HSA : Vl (w.heap.size < WA.drew.heap.size) := by show w.heap.size < WA.heap.size; omega
  have HBD : Vl (Below w.heap.size w WA.drew) := HBA.out.drew
  clear hls hxA hsA HMA HBA
  go_region_with (go_at_call 19; refine HL.out.mono ?_; rintro e w2 ⟨rfl, hb2⟩; have HB2 := vl hb2; have k2 : w2.cell? ⟨w.heap.size, 1, none⟩ = some (.int .i64 os) := (hb2.cell (p := ⟨w.heap.size, 1, none⟩) HSA.out).trans k1; have f2 : w2.frozen? ⟨w.heap.size, 1, none⟩ = false := (hb2.frozen (p := ⟨w.heap.size, 1, none⟩) HSA.out).trans (HK.out.2.2 1); clear hb2)
  all_goals
    have HB20 := vl (HBD.out.trans (HB2.out.mono HBD.out.size))
    have q0 : w2.cell? ⟨w.heap.size, 0, none⟩ = some (.int .i64 ow) := (HB2.out.cell (p := ⟨w.heap.size, 0, none⟩) HSA.out).trans HK.out.1
    have q2 : w2.cell? ⟨w.heap.size, 2, none⟩ = some (.bool false) := (HB2.out.cell (p := ⟨w.heap.size, 2, none⟩) HSA.out).trans HK.out.2.1
    have qf : w2.frozen? ⟨w.heap.size, 2, none⟩ = false := (HB2.out.frozen (p := ⟨w.heap.size, 2, none⟩) HSA.out).trans (HK.out.2.2 2)
    obtain ⟨W3, hW3⟩ : ∃ W3, W3 = w2.setCell ⟨w.heap.size, 1, none⟩ (.int .i64 (max os ls)) := ⟨_, rfl⟩
    have n0 : W3.cell? ⟨w.heap.size, 0, none⟩ = some (.int .i64 ow) := by rw [hW3, World.cell?_setCell_other _ _ _ _ (by simp)]; exact q0
    have n1 : W3.cell? ⟨w.heap.size, 1, none⟩ = some (.int .i64 (max os ls)) := by rw [hW3]; exact World.cell?_setCell_same _ _ _ k2
    have n2 : W3.cell? ⟨w.heap.size, 2, none⟩ = some (.bool false) := by rw [hW3, World.cell?_setCell_other _ _ _ _ (by simp)]; exact q2
    have nf : W3.frozen? ⟨w.heap.size, 2, none⟩ = false := by rw [hW3, World.frozen?_setCell]; exact qf
    have HB3 : Vl (Below w.heap.size w W3) := by rw [hW3]; exact HB20.out.setCell (Nat.le_refl _) _
    rw [← hW3]
    clear hW3 q0 q2 qf k1 k2 f2 HB20 HB2 HSA HK HBD HL
    go_wp2_with fail
    obtain ⟨W4, hW4⟩ : ∃ W4, W4 = W3.setCell ⟨w.heap.size, 2, none⟩ (.bool true) := ⟨_, rfl⟩
    have m0 : W4.cell? ⟨w.heap.size, 0, none⟩ = some (.int .i64 ow) := by rw [hW4, World.cell?_setCell_other _ _ _ _ (by simp)]; exact n0
    have m1 : W4.cell? ⟨w.heap.size, 1, none⟩ = some (.int .i64 (max os ls)) := by rw [hW4, World.cell?_setCell_other _ _ _ _ (by simp)]; exact n1
    have m2 : W4.cell? ⟨w.heap.size, 2, none⟩ = some (.bool true) := by rw [hW4]; exact World.cell?_setCell_same _ _ _ n2
    have HB4 : Vl (Below w.heap.size w W4.drew) := by rw [hW4]; exact (HB3.out.setCell (Nat.le_refl _) _).drew
    have cA : W4.cell? ⟨pb, 0, none⟩ = some (.map (some mb)) := (HM.out.below (Nat.le_refl _) HB4.out).c0
    obtain ⟨w5, hst, ho5, hg5, _⟩ := (HM.out.below (Nat.le_refl _) HB4.out).store HI.out HII.out ow (max os ls) true
    have HO5 := vl ho5
    have HG5 := vl hg5
    rw [← hW4]
    clear hW4 n0 n1 n2 nf HB3 ho5 hg5
    go_region
    go_wp2
    go_ret
    exact said_turn HM.out HB4.out HO5.out HG5.out HFI.out _ (fun _ => rfl) (by simp [wantO, HLS.out])
theorem pwant_any : PWantSaid PkP := by
  rintro pb L S id yes w ⟨mb, D, h, rfl⟩ hI hi
  show Calls Try.prog 14 #[kptr pb, .int .i64 id, .bool yes] w (PkSaid pb mb w (wantF L id yes).1 (wantF L id yes).2)
  unfold wantF
  cases hf : pkFind L id with
  | none =>
    rw [if_neg (by simp)]
    exact pwant_none h id yes hi hf
  | some o =>
    rw [if_pos (by simp)]
    cases hy : (yes && !o.wants) with
    | false => exact pwant_plain h hI id yes hi hf hy
    | true =>
      obtain ⟨rfl, h2⟩ : yes = true ∧ o.wants = false := by simpa using hy
      exact pwant_raise h hI id hi hf h2
end Go.Proofs.Ytbhjgpbdfcppkae
