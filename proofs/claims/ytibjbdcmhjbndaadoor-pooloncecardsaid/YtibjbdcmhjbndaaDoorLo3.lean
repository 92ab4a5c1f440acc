/-
  CONNECTIONS TO PLACES: the Go function Back of package pool. No claim by itself.
-/
import Derived.Test.YtibjbdcmhjbndaaDoorLo2
import Derived.BigRegion
namespace Go.Proofs.YtibjbdcmhjbndaaDoor
open Go.RowKit Go.Maps
set_option maxRecDepth 100000
theorem fB_drop {L : LL} (hn : (L.map Lk.id).Nodup) (id i : Int) : fB (dropK L id) i = lfPut (fB L) id none i := by
  unfold fB lfPut
  rw [lk_drop hn]
  by_cases hi : i = id
  · rw [if_pos hi, if_pos hi]
  · rw [if_neg hi, if_neg hi]
theorem fI_drop {L : LL} (hn : (L.map Lk.id).Nodup) (id i : Int) : fI (dropK L id) i = lfPut (fI L) id none i := by
  unfold fI lfPut
  rw [lk_drop hn]
  by_cases hi : i = id
  · rw [if_pos hi, if_pos hi]
  · rw [if_neg hi, if_neg hi]
theorem fI_same {L : LL} {id : Int} (h : fI L id = none) (i : Int) : fI L i = lfPut (fI L) id none i := by
  unfold lfPut
  by_cases hi : i = id
  · rw [if_pos hi, hi, h]
  · rw [if_neg hi]
theorem fB_same {L : LL} {id : Int} (h : fB L id = none) (i : Int) : fB L i = lfPut (fB L) id none i := by
  unfold lfPut
  by_cases hi : i = id
  · rw [if_pos hi, hi, h]
  · rw [if_neg hi]
theorem fB_map {L : LL} {o : Lk} (ho : lkFind L o.id = some o) {f : Lk → Lk} (hf : ∀ o, (f o).id = o.id) (i : Int) : fB (mapK L o.id f) i = lfPut (fB L) o.id (if (f o).busy = true then some (bV (f o)) else none) i := by
  unfold fB lfPut
  rw [lk_map hf]
  by_cases hi : i = o.id
  · rw [if_pos hi, if_pos hi, ho]
    rfl
  · rw [if_neg hi, if_neg hi]
theorem fI_map {L : LL} {o : Lk} (ho : lkFind L o.id = some o) {f : Lk → Lk} (hf : ∀ o, (f o).id = o.id) (i : Int) : fI (mapK L o.id f) i = lfPut (fI L) o.id (if (f o).busy = true then none else some (iV (f o))) i := by
  unfold fI lfPut
  rw [lk_map hf]
  by_cases hi : i = o.id
  · rw [if_pos hi, if_pos hi, ho]
    rfl
  · rw [if_neg hi, if_neg hi]
/-- Behind a call that keeps a pool where it lies. -/
def PoK (w : World) (pb bb ib : Nat) (S : Po) (w' : World) : Prop := (∃ DB DI, PoM w' pb bb ib DB DI S) ∧ Tn (Po3 pb bb ib) w w'
theorem pok_same {w w' : World} {pb bb ib : Nat} {DB DI : Dat} {S : Po} (h : PoM w pb bb ib DB DI S) (hb : Below w.heap.size w w') : PoK w pb bb ib S w' :=
  ⟨⟨_, _, h.below (Nat.le_refl _) hb⟩, Tn.of_below hb⟩
theorem tn_grown {S : Nat → Prop} {w w' : World} {row : Option Nat} (h : w.grownBy w' row) (hr : ∀ k, row = some k → S k) : Tn S w w' :=
  ⟨h.os, h.tape, h.output, h.size, fun k hk hs => h.block k hk (fun e => hs (hr k e.symm))⟩
theorem tn_then {S : Nat → Prop} {a b c : World} (h : Below a.heap.size a b) (k : Tn S b c) : Tn S a c :=
  ⟨k.os.trans h.os, k.tape.trans h.tape, k.output.trans h.output, Nat.le_trans h.size k.size, fun i hi hs => (k.block i (Nat.lt_of_lt_of_le hi h.size) hs).trans (h.block i hi)⟩
theorem tn_trans {S : Nat → Prop} {a b c : World} (h : Tn S a b) (k : Tn S b c) : Tn S a c :=
  ⟨k.os.trans h.os, k.tape.trans h.tape, k.output.trans h.output, Nat.le_trans h.size k.size, fun i hi hs => (k.block i (Nat.lt_of_lt_of_le hi h.size) hs).trans (h.block i hi hs)⟩
theorem blk_turn {w : World} {pb : Nat} {a b c d : Int} {x y : Value} {t : TypeId} (h : w.heap[pb]? = some (.cells #[.int .i64 a, .int .i64 b, .int .i64 c, .int .i64 d, x, y] t (0, 0))) (v : Int) : (w.setCell ⟨pb, 2, none⟩ (.int .i64 v)).heap[pb]? = some (.cells #[.int .i64 a, .int .i64 b, .int .i64 v, .int .i64 d, x, y] t (0, 0)) := heap_setCell_same w pb 2 _ t _ h
theorem busyF_inv {L : LL} {id : Int} (h : busyF L id = true) : ∃ o, lkFind L id = some o ∧ o.busy = true := by
  unfold busyF at h
  cases e : lkFind L id with
  | none => rw [e] at h; cases h
  | some o => rw [e] at h; exact ⟨o, rfl, h⟩
/-- What Back answers. -/
def OBackE (w : World) (pb bb ib : Nat) (S : Po) (id : Int) (good : Bool) (e : Ending) (w' : World) : Prop := e = .returned (errW (backF S id good).1) ∧ PoK w pb bb ib (backF S id good).2 w'
theorem back_none {S : Po} {id : Int} {good : Bool} (h : busyF S.L id = false) : backF S id good = (5, S) := by unfold backF; rw [h]; rfl
theorem back_good {S : Po} {id : Int} (h : busyF S.L id = true) : backF S id true = (0, ⟨S.many, S.last, S.now, S.turn + 1, mapK S.L id (setI S.now (S.turn + 1))⟩) := by unfold backF; rw [h]; rfl
theorem back_bad {S : Po} {id : Int} (h : busyF S.L id = true) : backF S id false = (0, ⟨S.many, S.last, S.now, S.turn, dropK S.L id⟩) := by unfold backF; rw [h]; rfl
theorem grown_old {w w' : World} {b k : Nat} (h : w.grownBy w' (some b)) (hk : k < w.heap.size) (hne : k ≠ b) : w'.heap[k]? = w.heap[k]? := h.block k hk (fun e => hne (Option.some.inj e))
set_option maxHeartbeats 4000000 in
theorem oback_any {w : World} {pb bb ib : Nat} {DB DI : Dat} {S : Po} (h : PoM w pb bb ib DB DI S) (hI : PoI S) (id : Int) (good : Bool) (hi : Ix64 id) (ht1 : S.turn ≤ 1000000000000) :
    Calls Tryd.prog 9 #[pptr pb, .int .i64 id, .bool good] w (OBackE w pb bb ib S id good) := by
  obtain ⟨c0, c1, c2, c3, c4, c5, cf⟩ := h.cells
  have HM := vl h
  have HI := vl hI
  have HII := vl hi
  have ht0 := hI.turn
  unfold pptr
  cases hb : busyF S.L id with
  | false =>
    have lk := look_no h.ownB h.relB hi (fB_no hb)
    unfold lkV at lk
    have HF : Vl (OBackE w pb bb ib S id good (.returned (.iface 53 (.int .i64 5))) (w.alloc (.cells #[.string ⟨#[]⟩, .int .i64 0, .int .i64 0] 65))) := vl (by
      unfold OBackE
      rw [back_none hb]
      exact ⟨rfl, pok_same h ((Below.refl _ _).alloc (Nat.le_refl _) _)⟩)
    clear h hI hi c0 c1 c2 c3 c5 hb HM HI HII ht0 ht1
    go_enter Tryd.func9, Tryd.ntmps9
    go_wp2
    go_ret
    exact HF.out
  | true =>
    obtain ⟨o, ho, hob⟩ := busyF_inv hb
    obtain ⟨hom, rfl⟩ := lk_some ho
    have lk := look_ok h.ownB h.relB hi (fB_some ho hob)
    unfold lkV bV at lk
    have HKEY := vl (okey64 hi)
    have HBA : Vl (Below w.heap.size w (w.alloc (.cells #[.string o.to, .int .i64 0, .int .i64 0] 65))) := (Below.refl _ _).alloc (Nat.le_refl _) _
    obtain ⟨WA, hWA⟩ : ∃ WA, w.alloc (.cells #[.string o.to, .int .i64 0, .int .i64 0] 65) = WA := ⟨_, rfl⟩
    have HNA : Vl (WA.heap[w.heap.size]? = some (.cells #[.string o.to, .int .i64 0, .int .i64 0] 65 (0, 0))) := vl (by rw [← hWA]; exact heap_alloc_new w _)
    have HSA : Vl (WA.heap.size = w.heap.size + 1) := vl (by rw [← hWA]; simp)
    have HMA := vl (h.below (Nat.le_refl _) HBA.out)
    obtain ⟨-, -, -, -, a4, -, -⟩ := HMA.out.cells
    rw [hWA] at HBA HMA
    have HWA := vl hWA
    have HTB : Vl (Tidy DB) := h.ownB.tidy klaw
    have HTI : Vl (Tidy DI) := h.ownI.tidy klaw
    have HO := vl ho
    have HOM := vl hom
    have HOB := vl hob
    have HBU := vl hb
    have HL := vl h.lt
    have HN := vl (show bb ≠ pb ∧ ib ≠ pb ∧ bb ≠ ib from ⟨h.n1, h.n2, h.n3⟩)
    clear h hI hi c0 c1 c2 c3 c5 cf hb ho hom hob hWA
    /- what holds behind the delete -/
    have HDEL : Vl (∀ w2 n2, w2.ownsMap Tryd.prog 3 lkElem bb n2 (DB.del (pkK o.id)) → WA.grownBy w2 (some bb) →
        w2.heap[pb]? = some (.cells #[.int .i64 S.many, .int .i64 S.last, .int .i64 S.turn, .int .i64 S.now, .map (some bb), .map (some ib)] 56 (0, 0)) ∧ w2.ownsMap Tryd.prog 3 lkElem ib (nI S.L) DI ∧ w2.heap[w.heap.size]? = some (.cells #[.string o.to, .int .i64 0, .int .i64 0] 65 (0, 0)) ∧
        w2.ownsMap Tryd.prog 3 lkElem bb (nB S.L - 1) (DB.del (pkK o.id)) ∧ MF (DB.del (pkK o.id)) (lfPut (fB S.L) o.id none) (nB S.L - 1) ∧ Tn (Po3 pb bb ib) w w2) := vl (by
      intro w2 n2 ho2 hg2
      have hlt := HMA.out.lt
      have hm := HMA.out.relB.del HTB.out o.id
      rw [fB_some HO.out HOB.out] at hm
      refine ⟨(grown_old hg2 hlt.1 HN.out.1.symm).trans HMA.out.blk, own_block HMA.out.ownI (grown_old hg2 hlt.2.2 HN.out.2.2.symm), (grown_old hg2 (by have := HSA.out; omega) (by have := HL.out.2.1; omega)).trans HNA.out, ?_, hm, ?_⟩
      · have := map_tight ho2
        rwa [hm.size] at this
      · exact tn_then HBA.out (tn_grown hg2 (fun k e => by cases e; exact Or.inr (Or.inl rfl))))
    cases good with
    | false =>
      have HF : Vl (∀ w2 n2, w2.ownsMap Tryd.prog 3 lkElem bb n2 (DB.del (pkK o.id)) → WA.grownBy w2 (some bb) → OBackE w pb bb ib S o.id false (.returned .nilIface) w2) := vl (by
        intro w2 n2 ho2 hg2
        obtain ⟨q1, q2, q3, q4, q5, q6⟩ := HDEL.out w2 n2 ho2 hg2
        unfold OBackE
        rw [back_bad HBU.out]
        have hnd := HI.out.nodup
        have e1 := cnt_drop S.L hnd HOM.out (fun x => x.busy)
        have e2 := cnt_drop S.L hnd HOM.out (fun x => !x.busy)
        rw [HOB.out] at e1 e2
        have hB : nB (dropK S.L o.id) = nB S.L - 1 := by unfold nB busyL; simp at e1 ⊢; omega
        have hJ : nI (dropK S.L o.id) = nI S.L := by unfold nI idleL; simp at e2 ⊢; omega
        have hfi : fI S.L o.id = none := fI_busy HO.out HOB.out
        refine ⟨rfl, ⟨_, _, ⟨q1, HN.out.1, HN.out.2.1, HN.out.2.2, by show w2.ownsMap _ _ _ _ (nB (dropK S.L o.id)) _; rw [hB]; exact q4, by show w2.ownsMap _ _ _ _ (nI (dropK S.L o.id)) _; rw [hJ]; exact q2, q5.congr (fun i => fB_drop hnd o.id i) hB, HMA.out.relI.congr (fun i => by rw [fI_drop hnd, ← fI_same hfi]) hJ⟩⟩, q6⟩)
      have a4' : (w.alloc (.cells #[.string o.to, .int .i64 0, .int .i64 0] 65)).cell? ⟨pb, 4, none⟩ = some (.map (some bb)) := a4
      rw [← HWA.out] at HMA HF
      clear HDEL a4
      go_enter Tryd.func9, Tryd.ntmps9
      go_wp2_with (first | (at_delete; refine wpList_delete_own _ rfl _ _ 54 3 rfl 65 klaw Tryd.underlying54 _ bb (nB S.L) DB rfl HMA.out.ownB _ _ rfl HKEY.out ?_; intro w2 hown2 hturn2; have HFF := vl (HF.out w2 _ hown2 hturn2.grown); clear hown2 hturn2 a4' c4 lk) | go_in)
      go_ret
      exact HFF.out
    | true =>
      have a4' : (w.alloc (.cells #[.string o.to, .int .i64 0, .int .i64 0] 65)).cell? ⟨pb, 4, none⟩ = some (.map (some bb)) := a4
      have hwr : S.turn + 1 ≤ 9223372036854775807 := by omega
      rw [← HWA.out] at HMA HDEL
      clear a4
      go_enter Tryd.func9, Tryd.ntmps9
      go_wp2_with (first | (at_delete; refine wpList_delete_own _ rfl _ _ 54 3 rfl 65 klaw Tryd.underlying54 _ bb (nB S.L) DB rfl HMA.out.ownB _ _ rfl HKEY.out ?_; intro w2 hown2 hturn2; have HDD := vl (HDEL.out w2 _ hown2 hturn2.grown); have k2 : w2.cell? ⟨pb, 2, none⟩ = some (.int .i64 S.turn) := (by simp only [World.cell?, HDD.out.1]; rfl); have f2 : w2.frozen? ⟨pb, 2, none⟩ = false := (by simp [World.frozen?, HDD.out.1]); clear hown2 hturn2 a4' c4 lk HDEL) | go_in)
      obtain ⟨W3, hW3⟩ : ∃ W3, w2.setCell ⟨pb, 2, none⟩ (.int .i64 (S.turn + 1)) = W3 := ⟨_, rfl⟩
      obtain ⟨q1, q2, q3, q4, q5, q6⟩ := HDD.out
      have r1 : W3.heap[pb]? = some (.cells #[.int .i64 S.many, .int .i64 S.last, .int .i64 (S.turn + 1), .int .i64 S.now, .map (some bb), .map (some ib)] 56 (0, 0)) := by rw [← hW3]; exact blk_turn q1 _
      have far : ∀ k, k ≠ pb → W3.heap[k]? = w2.heap[k]? := fun k hk => by rw [← hW3]; exact Below.heap_setCell _ _ _ _ hk
      have hlt := HMA.out.lt
      have r2 : W3.ownsMap Tryd.prog 3 lkElem ib (nI S.L) DI := own_block q2 (far ib HN.out.2.1)
      have r3 : W3.heap[w.heap.size]? = some (.cells #[.string o.to, .int .i64 0, .int .i64 0] 65 (0, 0)) := (far _ (by have := HL.out.1; omega)).trans q3
      have r4 : W3.ownsMap Tryd.prog 3 lkElem bb (nB S.L - 1) (DB.del (pkK o.id)) := own_block q4 (far bb HN.out.1)
      have r6 : Tn (Po3 pb bb ib) w W3 := tn_trans q6 (by rw [← hW3]; exact tn_set (Or.inl rfl))
      have hnl : nI S.L ≤ 1000 := by
        have h1 : nI S.L ≤ S.L.length := by unfold nI idleL; exact List.length_filter_le _ _
        have := HI.out.len
        have := HI.out.many.2
        omega
      have r2d : W3.drew.ownsMap Tryd.prog 3 lkElem ib (nI S.L) DI := own_block r2 rfl
      obtain ⟨w4, hst, ho4, hm4, hg4⟩ := map_put r2d HMA.out.relI HII.out hnl (iV (setI S.now (S.turn + 1) o))
      have hfi : fI S.L o.id = none := fI_busy HO.out HOB.out
      rw [hfi] at ho4 hm4
      unfold lkV iV setI at hst
      have x5 : W3.cell? ⟨pb, 5, none⟩ = some (.map (some ib)) := by simp only [World.cell?, r1]; rfl
      have x2 : W3.cell? ⟨pb, 2, none⟩ = some (.int .i64 (S.turn + 1)) := by simp only [World.cell?, r1]; rfl
      have x3 : W3.cell? ⟨pb, 3, none⟩ = some (.int .i64 S.now) := by simp only [World.cell?, r1]; rfl
      have y0 : W3.cell? ⟨w.heap.size, 0, none⟩ = some (.string o.to) := by simp only [World.cell?, r3]; rfl
      have HF : Vl (OBackE w pb bb ib S o.id true (.returned .nilIface) w4) := vl (by
        unfold OBackE
        rw [back_good HBU.out]
        have hnd := HI.out.nodup
        have e1 := cnt_map S.L hnd HOM.out (setI S.now (S.turn + 1)) (fun x => x.busy)
        have e2 := cnt_map S.L hnd HOM.out (setI S.now (S.turn + 1)) (fun x => !x.busy)
        rw [HOB.out] at e1 e2
        have hB : nB (mapK S.L o.id (setI S.now (S.turn + 1))) = nB S.L - 1 := by unfold nB busyL; simp [setI] at e1 ⊢; omega
        have hJ : nI (mapK S.L o.id (setI S.now (S.turn + 1))) = nI S.L + 1 := by unfold nI idleL; simp [setI] at e2 ⊢; omega
        refine ⟨rfl, ⟨_, _, ⟨(grown_old hg4 (by have := (Array.getElem?_eq_some_iff.1 r1).1; exact this) HN.out.2.1.symm).trans r1, HN.out.1, HN.out.2.1, HN.out.2.2, ?_, ?_, q5.congr (fun i => fB_map HO.out (f := setI S.now (S.turn + 1)) (fun _ => by rfl) i) hB, hm4.congr (fun i => fI_map HO.out (f := setI S.now (S.turn + 1)) (fun _ => by rfl) i) hJ⟩⟩, ?_⟩
        · show w4.ownsMap _ _ _ _ (nB (mapK S.L o.id (setI S.now (S.turn + 1)))) _
          rw [hB]
          exact own_block r4 (grown_old (w := W3.drew) hg4 r4.lt HN.out.2.2)
        · show w4.ownsMap _ _ _ _ (nI (mapK S.L o.id (setI S.now (S.turn + 1)))) _
          rw [hJ]
          exact ho4
        · exact tn_trans r6 (tn_trans (Tn.of_below ((Below.refl _ W3).drew)) (tn_grown hg4 (fun k e => by cases e; exact Or.inr (Or.inr rfl)))))
      rw [hW3]
      clear hW3 q1 q2 q3 q4 q5 q6 r1 r2 r3 r4 r6 far hlt ho4 hm4 hg4 r2d hfi k2 f2 HDD hnl
      go_region
      go_wp2
      go_ret
      exact HF.out
end Go.Proofs.YtibjbdcmhjbndaaDoor
