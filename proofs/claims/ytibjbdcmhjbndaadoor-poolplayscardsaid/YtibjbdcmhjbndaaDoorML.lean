/-
  CONNECTIONS TO PLACES: the Go function Back of package pool. No claim by itself.
-/
import Derived.BigRegion
import Derived.Lib.Bytealg
import Derived.Test.YtibjbdcmhjbndaaDoorLo2
namespace Go.Proofs.YtibjbdcmhjbndaaDoor
open Go.RowKit Go.Maps
set_option maxRecDepth 100000
theorem fB_drop {L : LL} (hn : (L.map Lk.id).Nodup) (id i : Int) : fB (dropK L id) i = lfPut (fB L) id none i := by
  unfold fB lfPut
  rw [lk_drop hn]
  by_cases hi : i = id
  · rw [if_pos hi, if_pos hi]
  · rw [if_neg hi, if_neg hi]
theorem fI_drop {L : LL} (hn : (L.map Lk.id).Nodup) (id i : Int) : fI (dropK L id) i = lfPut (fI L) id none i := by
  unfold fI lfPut
  rw [lk_drop hn]
  by_cases hi : i = id
  · rw [if_pos hi, if_pos hi]
  · rw [if_neg hi, if_neg hi]
theorem fI_same {L : LL} {id : Int} (h : fI L id = none) (i : Int) : fI L i = lfPut (fI L) id none i := by
  unfold lfPut
  by_cases hi : i = id
  · rw [if_pos hi, hi, h]
  · rw [if_neg hi]
theorem fB_same {L : LL} {id : Int} (h : fB L id = none) (i : Int) : fB L i = lfPut (fB L) id none i := by
  unfold lfPut
  by_cases hi : i = id
  · rw [if_pos hi, hi, h]
  · rw [if_neg hi]
theorem fB_map {L : LL} {o : Lk} (ho : lkFind L o.id = some o) {f : Lk → Lk} (hf : ∀ o, (f o).id = o.id) (i : Int) : fB (mapK L o.id f) i = lfPut (fB L) o.id (if (f o).busy = true then some (bV (f o)) else none) i := by
  unfold fB lfPut
  rw [lk_map hf]
  by_cases hi : i = o.id
  · rw [if_pos hi, if_pos hi, ho]
    rfl
  · rw [if_neg hi, if_neg hi]
theorem fI_map {L : LL} {o : Lk} (ho : lkFind L o.id = some o) {f : Lk → Lk} (hf : ∀ o, (f o).id = o.id) (i : Int) : fI (mapK L o.id f) i = lfPut (fI L) o.id (if (f o).busy = true then none else some (iV (f o))) i := by
  unfold fI lfPut
  rw [lk_map hf]
  by_cases hi : i = o.id
  · rw [if_pos hi, if_pos hi, ho]
    rfl
  · rw [if_neg hi, if_neg hi]
/-- Behind a call that keeps a pool where it lies. -/
def PoK (w : World) (pb bb ib : Nat) (S : Po) (w' : World) : Prop := (∃ DB DI, PoM w' pb bb ib DB DI S) ∧ Tn (Po3 pb bb ib) w w'
theorem pok_same {w w' : World} {pb bb ib : Nat} {DB DI : Dat} {S : Po} (h : PoM w pb bb ib DB DI S) (hb : Below w.heap.size w w') : PoK w pb bb ib S w' :=
  ⟨⟨_, _, h.below (Nat.le_refl _) hb⟩, Tn.of_below hb⟩
theorem tn_grown {S : Nat → Prop} {w w' : World} {row : Option Nat} (h : w.grownBy w' row) (hr : ∀ k, row = some k → S k) : Tn S w w' :=
  ⟨h.os, h.tape, h.output, h.size, fun k hk hs => h.block k hk (fun e => hs (hr k e.symm))⟩
theorem tn_then {S : Nat → Prop} {a b c : World} (h : Below a.heap.size a b) (k : Tn S b c) : Tn S a c :=
  ⟨k.os.trans h.os, k.tape.trans h.tape, k.output.trans h.output, Nat.le_trans h.size k.size, fun i hi hs => (k.block i (Nat.lt_of_lt_of_le hi h.size) hs).trans (h.block i hi)⟩
theorem tn_trans {S : Nat → Prop} {a b c : World} (h : Tn S a b) (k : Tn S b c) : Tn S a c :=
  ⟨k.os.trans h.os, k.tape.trans h.tape, k.output.trans h.output, Nat.le_trans h.size k.size, fun i hi hs => (k.block i (Nat.lt_of_lt_of_le hi h.size) hs).trans (h.block i hi hs)⟩
theorem blk_turn {w : World} {pb : Nat} {a b c d : Int} {x y : Value} {t : TypeId} (h : w.heap[pb]? = some (.cells #[.int .i64 a, .int .i64 b, .int .i64 c, .int .i64 d, x, y] t (0, 0))) (v : Int) : (w.setCell ⟨pb, 2, none⟩ (.int .i64 v)).heap[pb]? = some (.cells #[.int .i64 a, .int .i64 b, .int .i64 v, .int .i64 d, x, y] t (0, 0)) := heap_setCell_same w pb 2 _ t _ h
theorem busyF_inv {L : LL} {id : Int} (h : busyF L id = true) : ∃ o, lkFind L id = some o ∧ o.busy = true := by
  unfold busyF at h
  cases e : lkFind L id with
  | none => rw [e] at h; cases h
  | some o => rw [e] at h; exact ⟨o, rfl, h⟩
/-- What Back answers. -/
def OBackE (w : World) (pb bb ib : Nat) (S : Po) (id : Int) (good : Bool) (e : Ending) (w' : World) : Prop := e = .returned (errW (backF S id good).1) ∧ PoK w pb bb ib (backF S id good).2 w'
theorem back_none {S : Po} {id : Int} {good : Bool} (h : busyF S.L id = false) : backF S id good = (5, S) := by unfold backF; rw [h]; rfl
theorem back_good {S : Po} {id : Int} (h : busyF S.L id = true) : backF S id true = (0, ⟨S.many, S.last, S.now, S.turn + 1, mapK S.L id (setI S.now (S.turn + 1))⟩) := by unfold backF; rw [h]; rfl
theorem back_bad {S : Po} {id : Int} (h : busyF S.L id = true) : backF S id false = (0, ⟨S.many, S.last, S.now, S.turn, dropK S.L id⟩) := by unfold backF; rw [h]; rfl
theorem grown_old {w w' : World} {b k : Nat} (h : w.grownBy w' (some b)) (hk : k < w.heap.size) (hne : k ≠ b) : w'.heap[k]? = w.heap[k]? := h.block k hk (fun e => hne (Option.some.inj e))
set_option maxHeartbeats 4000000 in
theorem oback_any {w : World} {pb bb ib : Nat} {DB DI : Dat} {S : Po} (h : PoM w pb bb ib DB DI S) (hI : PoI S) (id : Int) (good : Bool) (hi : Ix64 id) (ht1 : S.turn ≤ 1000000000000) :
    Calls Tryd.prog 9 #[pptr pb, .int .i64 id, .bool good] w (OBackE w pb bb ib S id good) := by
  obtain ⟨c0, c1, c2, c3, c4, c5, cf⟩ := h.cells
  have HM := vl h
  have HI := vl hI
  have HII := vl hi
  have ht0 := hI.turn
  unfold pptr
  cases hb : busyF S.L id with
  | false =>
    have lk := look_no h.ownB h.relB hi (fB_no hb)
    unfold lkV at lk
    have HF : Vl (OBackE w pb bb ib S id good (.returned (.iface 53 (.int .i64 5))) (w.alloc (.cells #[.string ⟨#[]⟩, .int .i64 0, .int .i64 0] 65))) := vl (by
      unfold OBackE
      rw [back_none hb]
      exact ⟨rfl, pok_same h ((Below.refl _ _).alloc (Nat.le_refl _) _)⟩)
    clear h hI hi c0 c1 c2 c3 c5 hb HM HI HII ht0 ht1
    go_enter Tryd.func9, Tryd.ntmps9
    go_wp2
    go_ret
    exact HF.out
  | true =>
    obtain ⟨o, ho, hob⟩ := busyF_inv hb
    obtain ⟨hom, rfl⟩ := lk_some ho
    have lk := look_ok h.ownB h.relB hi (fB_some ho hob)
    unfold lkV bV at lk
    have HKEY := vl (okey64 hi)
    have HBA : Vl (Below w.heap.size w (w.alloc (.cells #[.string o.to, .int .i64 0, .int .i64 0] 65))) := (Below.refl _ _).alloc (Nat.le_refl _) _
    obtain ⟨WA, hWA⟩ : ∃ WA, w.alloc (.cells #[.string o.to, .int .i64 0, .int .i64 0] 65) = WA := ⟨_, rfl⟩
    have HNA : Vl (WA.heap[w.heap.size]? = some (.cells #[.string o.to, .int .i64 0, .int .i64 0] 65 (0, 0))) := vl (by rw [← hWA]; exact heap_alloc_new w _)
    have HSA : Vl (WA.heap.size = w.heap.size + 1) := vl (by rw [← hWA]; simp)
    have HMA := vl (h.below (Nat.le_refl _) HBA.out)
    obtain ⟨-, -, -, -, a4, -, -⟩ := HMA.out.cells
    rw [hWA] at HBA HMA
    have HWA := vl hWA
    have HTB : Vl (Tidy DB) := h.ownB.tidy klaw
    have HTI : Vl (Tidy DI) := h.ownI.tidy klaw
    have HO := vl ho
    have HOM := vl hom
    have HOB := vl hob
    have HBU := vl hb
    have HL := vl h.lt
    have HN := vl (show bb ≠ pb ∧ ib ≠ pb ∧ bb ≠ ib from ⟨h.n1, h.n2, h.n3⟩)
    clear h hI hi c0 c1 c2 c3 c5 cf hb ho hom hob hWA
    /- what holds behind the delete -/
    have HDEL : Vl (∀ w2 n2, w2.ownsMap Tryd.prog 3 lkElem bb n2 (DB.del (pkK o.id)) → WA.grownBy w2 (some bb) →
        w2.heap[pb]? = some (.cells #[.int .i64 S.many, .int .i64 S.last, .int .i64 S.turn, .int .i64 S.now, .map (some bb), .map (some ib)] 56 (0, 0)) ∧ w2.ownsMap Tryd.prog 3 lkElem ib (nI S.L) DI ∧ w2.heap[w.heap.size]? = some (.cells #[.string o.to, .int .i64 0, .int .i64 0] 65 (0, 0)) ∧
        w2.ownsMap Tryd.prog 3 lkElem bb (nB S.L - 1) (DB.del (pkK o.id)) ∧ MF (DB.del (pkK o.id)) (lfPut (fB S.L) o.id none) (nB S.L - 1) ∧ Tn (Po3 pb bb ib) w w2) := vl (by
      intro w2 n2 ho2 hg2
      have hlt := HMA.out.lt
      have hm := HMA.out.relB.del HTB.out o.id
      rw [fB_some HO.out HOB.out] at hm
      refine ⟨(grown_old hg2 hlt.1 HN.out.1.symm).trans HMA.out.blk, own_block HMA.out.ownI (grown_old hg2 hlt.2.2 HN.out.2.2.symm), (grown_old hg2 (by have := HSA.out; omega) (by have := HL.out.2.1; omega)).trans HNA.out, ?_, hm, ?_⟩
      · have := map_tight ho2
        rwa [hm.size] at this
      · exact tn_then HBA.out (tn_grown hg2 (fun k e => by cases e; exact Or.inr (Or.inl rfl))))
    cases good with
    | false =>
      have HF : Vl (∀ w2 n2, w2.ownsMap Tryd.prog 3 lkElem bb n2 (DB.del (pkK o.id)) → WA.grownBy w2 (some bb) → OBackE w pb bb ib S o.id false (.returned .nilIface) w2) := vl (by
        intro w2 n2 ho2 hg2
        obtain ⟨q1, q2, q3, q4, q5, q6⟩ := HDEL.out w2 n2 ho2 hg2
        unfold OBackE
        rw [back_bad HBU.out]
        have hnd := HI.out.nodup
        have e1 := cnt_drop S.L hnd HOM.out (fun x => x.busy)
        have e2 := cnt_drop S.L hnd HOM.out (fun x => !x.busy)
        rw [HOB.out] at e1 e2
        have hB : nB (dropK S.L o.id) = nB S.L - 1 := by unfold nB busyL; simp at e1 ⊢; omega
        have hJ : nI (dropK S.L o.id) = nI S.L := by unfold nI idleL; simp at e2 ⊢; omega
        have hfi : fI S.L o.id = none := fI_busy HO.out HOB.out
        refine ⟨rfl, ⟨_, _, ⟨q1, HN.out.1, HN.out.2.1, HN.out.2.2, by show w2.ownsMap _ _ _ _ (nB (dropK S.L o.id)) _; rw [hB]; exact q4, by show w2.ownsMap _ _ _ _ (nI (dropK S.L o.id)) _; rw [hJ]; exact q2, q5.congr (fun i => fB_drop hnd o.id i) hB, HMA.out.relI.congr (fun i => by rw [fI_drop hnd, ← fI_same hfi]) hJ⟩⟩, q6⟩)
      have a4' : (w.alloc (.cells #[.string o.to, .int .i64 0, .int .i64 0] 65)).cell? ⟨pb, 4, none⟩ = some (.map (some bb)) := a4
      rw [← HWA.out] at HMA HF
      clear HDEL a4
      go_enter Tryd.func9, Tryd.ntmps9
      go_wp2_with (first | (at_delete; refine wpList_delete_own _ rfl _ _ 54 3 rfl 65 klaw Tryd.underlying54 _ bb (nB S.L) DB rfl HMA.out.ownB _ _ rfl HKEY.out ?_; intro w2 hown2 hturn2; have HFF := vl (HF.out w2 _ hown2 hturn2.grown); clear hown2 hturn2 a4' c4 lk) | go_in)
      go_ret
      exact HFF.out
    | true =>
      have a4' : (w.alloc (.cells #[.string o.to, .int .i64 0, .int .i64 0] 65)).cell? ⟨pb, 4, none⟩ = some (.map (some bb)) := a4
      have hwr : S.turn + 1 ≤ 9223372036854775807 := by omega
      rw [← HWA.out] at HMA HDEL
      clear a4
      go_enter Tryd.func9, Tryd.ntmps9
      go_wp2_with (first | (at_delete; refine wpList_delete_own _ rfl _ _ 54 3 rfl 65 klaw Tryd.underlying54 _ bb (nB S.L) DB rfl HMA.out.ownB _ _ rfl HKEY.out ?_; intro w2 hown2 hturn2; have HDD := vl (HDEL.out w2 _ hown2 hturn2.grown); have k2 : w2.cell? ⟨pb, 2, none⟩ = some (.int .i64 S.turn) := (by simp only [World.cell?, HDD.out.1]; rfl); have f2 : w2.frozen? ⟨pb, 2, none⟩ = false := (by simp [World.frozen?, HDD.out.1]); clear hown2 hturn2 a4' c4 lk HDEL) | go_in)
      obtain ⟨W3, hW3⟩ : ∃ W3, w2.setCell ⟨pb, 2, none⟩ (.int .i64 (S.turn + 1)) = W3 := ⟨_, rfl⟩
      obtain ⟨q1, q2, q3, q4, q5, q6⟩ := HDD.out
      have r1 : W3.heap[pb]? = some (.cells #[.int .i64 S.many, .int .i64 S.last, .int .i64 (S.turn + 1), .int .i64 S.now, .map (some bb), .map (some ib)] 56 (0, 0)) := by rw [← hW3]; exact blk_turn q1 _
      have far : ∀ k, k ≠ pb → W3.heap[k]? = w2.heap[k]? := fun k hk => by rw [← hW3]; exact Below.heap_setCell _ _ _ _ hk
      have hlt := HMA.out.lt
      have r2 : W3.ownsMap Tryd.prog 3 lkElem ib (nI S.L) DI := own_block q2 (far ib HN.out.2.1)
      have r3 : W3.heap[w.heap.size]? = some (.cells #[.string o.to, .int .i64 0, .int .i64 0] 65 (0, 0)) := (far _ (by have := HL.out.1; omega)).trans q3
      have r4 : W3.ownsMap Tryd.prog 3 lkElem bb (nB S.L - 1) (DB.del (pkK o.id)) := own_block q4 (far bb HN.out.1)
      have r6 : Tn (Po3 pb bb ib) w W3 := tn_trans q6 (by rw [← hW3]; exact tn_set (Or.inl rfl))
      have hnl : nI S.L ≤ 1000 := by
        have h1 : nI S.L ≤ S.L.length := by unfold nI idleL; exact List.length_filter_le _ _
        have := HI.out.len
        have := HI.out.many.2
        omega
      have r2d : W3.drew.ownsMap Tryd.prog 3 lkElem ib (nI S.L) DI := own_block r2 rfl
      obtain ⟨w4, hst, ho4, hm4, hg4⟩ := map_put r2d HMA.out.relI HII.out hnl (iV (setI S.now (S.turn + 1) o))
      have hfi : fI S.L o.id = none := fI_busy HO.out HOB.out
      rw [hfi] at ho4 hm4
      unfold lkV iV setI at hst
      have x5 : W3.cell? ⟨pb, 5, none⟩ = some (.map (some ib)) := by simp only [World.cell?, r1]; rfl
      have x2 : W3.cell? ⟨pb, 2, none⟩ = some (.int .i64 (S.turn + 1)) := by simp only [World.cell?, r1]; rfl
      have x3 : W3.cell? ⟨pb, 3, none⟩ = some (.int .i64 S.now) := by simp only [World.cell?, r1]; rfl
      have y0 : W3.cell? ⟨w.heap.size, 0, none⟩ = some (.string o.to) := by simp only [World.cell?, r3]; rfl
      have HF : Vl (OBackE w pb bb ib S o.id true (.returned .nilIface) w4) := vl (by
        unfold OBackE
        rw [back_good HBU.out]
        have hnd := HI.out.nodup
        have e1 := cnt_map S.L hnd HOM.out (setI S.now (S.turn + 1)) (fun x => x.busy)
        have e2 := cnt_map S.L hnd HOM.out (setI S.now (S.turn + 1)) (fun x => !x.busy)
        rw [HOB.out] at e1 e2
        have hB : nB (mapK S.L o.id (setI S.now (S.turn + 1))) = nB S.L - 1 := by unfold nB busyL; simp [setI] at e1 ⊢; omega
        have hJ : nI (mapK S.L o.id (setI S.now (S.turn + 1))) = nI S.L + 1 := by unfold nI idleL; simp [setI] at e2 ⊢; omega
        refine ⟨rfl, ⟨_, _, ⟨(grown_old hg4 (by have := (Array.getElem?_eq_some_iff.1 r1).1; exact this) HN.out.2.1.symm).trans r1, HN.out.1, HN.out.2.1, HN.out.2.2, ?_, ?_, q5.congr (fun i => fB_map HO.out (f := setI S.now (S.turn + 1)) (fun _ => by rfl) i) hB, hm4.congr (fun i => fI_map HO.out (f := setI S.now (S.turn + 1)) (fun _ => by rfl) i) hJ⟩⟩, ?_⟩
        · show w4.ownsMap _ _ _ _ (nB (mapK S.L o.id (setI S.now (S.turn + 1)))) _
          rw [hB]
          exact own_block r4 (grown_old (w := W3.drew) hg4 r4.lt HN.out.2.2)
        · show w4.ownsMap _ _ _ _ (nI (mapK S.L o.id (setI S.now (S.turn + 1)))) _
          rw [hJ]
          exact ho4
        · exact tn_trans r6 (tn_trans (Tn.of_below ((Below.refl _ W3).drew)) (tn_grown hg4 (fun k e => by cases e; exact Or.inr (Or.inr rfl)))))
      rw [hW3]
      clear hW3 q1 q2 q3 q4 q5 q6 r1 r2 r3 r4 r6 far hlt ho4 hm4 hg4 r2d hfi k2 f2 HDD hnl
      go_region
      go_wp2
      go_ret
      exact HF.out
end Go.Proofs.YtibjbdcmhjbndaaDoor
/-
  CONNECTIONS TO PLACES: the Go function Idle of package pool; a round over a map of connections. No claim by itself.
-/
namespace Go.Proofs.YtibjbdcmhjbndaaDoor
open Go.RowKit Go.Maps
set_option maxRecDepth 100000
theorem bq (s t : ByteArray) : (s.toList == t.toList) = decide (s = t) := by
  rw [Bool.eq_iff_iff, beq_iff_eq, decide_eq_true_iff, ByteArray.toList_eq, ByteArray.toList_eq]
  constructor
  · intro h
    obtain ⟨⟨a⟩⟩ := s
    obtain ⟨⟨b⟩⟩ := t
    simp at h
    rw [h]
  · intro h; rw [h]
def strike (left : Lit → Bool) (id : Int) : Lit → Bool := fun z => left z && !z.sameKey (pkK id)
theorem strike_at (left : Lit → Bool) (id i : Int) : strike left id (pkK i) = (left (pkK i) && !decide (i = id)) := by
  unfold strike
  rw [same_pk]
section
variable {P : Program} (w : World) {ops : Array Oper} {rest : List Oper} {o : Oper} {a : Act} {Q : Exit → Act → World → Prop}
theorem wpList_next_lk (hg : o.guard = none) (it : Operand) (hop : o.op = Op.next it false) (K : Keyed P 3) (hk : P.underlying 3 = some (.int .i64))
    (b r n : Nat) (D : Dat) (left : Lit → Bool) (cnt : Nat) (hit : a.eval it = .pointer (some ⟨r, 0, none⟩)) (h : w.ranges P 3 lkElem b r n D left cnt)
    (hDone : (∀ kl, left kl = false) → wpList P ops Q rest (a.put o.dst (.tuple #[.bool false])) w)
    (hMore : ∀ (id : Int) (s : ByteArray) (t q : Int) (w' : World) (cnt' : Nat), Ix64 id → left (pkK id) = true → (∀ zd, D.atKey (pkK id) zd = lkD (s, t, q)) → w'.ranges P 3 lkElem b r n D (strike left id) cnt' → cnt' < cnt →
      w.grownBy w' (some r) → (Instr.entry (.pointer (some ⟨r, 0, none⟩))).run P w' = .ok (.tuple #[.int .i64 id, .agg #[.string s, .int .i64 t, .int .i64 q]]) w' → wpList P ops Q rest (a.put o.dst (.tuple #[.bool true, .int .i64 id, .agg #[.string s, .int .i64 t, .int .i64 q]])) w') :
    wpList P ops Q (o :: rest) a w :=
  wpList_next_ranges w hg it hop 3 K lkElem (Value.int .i64) (fun c : LV => lkV c) (fun key kl hkey => by obtain ⟨x, rfl, _⟩ := Maps.keyOf_int_inv hk hkey; exact ⟨x, rfl⟩) (fun v y hv => by obtain ⟨c, rfl, _⟩ := lkElem_inv hv; exact ⟨c, rfl⟩)
    b r n D left cnt hit h (fun _ hl => hDone hl) (fun x c kl y w' cnt' hkey hl hv hat hrg hlt hgr _ hen => by
      obtain ⟨x', ex, rfl, hwf⟩ := Maps.keyOf_int_inv hk hkey
      cases ex
      rw [lkElem_mk] at hv
      refine hMore x c.1 c.2.1 c.2.2 w' cnt' ?_ hl (fun zd => (hat zd).trans (by rw [← Option.some.inj hv])) hrg hlt hgr hen
      simp [Lit.wf, IntKind.min, IntKind.max, IntKind.bits, IntKind.signed] at hwf
      unfold Ix64
      omega)
end
theorem below_grown {B : Nat} {a w w' : World} {row : Option Nat} (h : Below B a w) (g : w.grownBy w' row) (hB : B ≤ w.heap.size) (hr : ∀ k, row = some k → B ≤ k) : Below B a w' :=
  ⟨g.os.trans h.os, g.tape.trans h.tape, g.output.trans h.output, Nat.le_trans h.size g.size, fun i hi => (g.block i (Nat.lt_of_lt_of_le hi hB) (fun e => by have := hr i e.symm; omega)).trans (h.block i hi)⟩
/-- An entry of the Idle ones that comes out is one of them. -/
theorem idle_entry {D : Dat} {L : LL} {n : Nat} (h : MF D (fI L) n) {id : Int} {v : LV} (ha : ∀ zd, D.atKey (pkK id) zd = lkD v) : ∃ o ∈ L, o.id = id ∧ o.busy = false ∧ v = iV o := by
  have h1 := ha (.agg [])
  rw [h.at_] at h1
  cases e : fI L id with
  | none => rw [e] at h1; simp [lkD] at h1
  | some u =>
    rw [e] at h1
    have h2 := lkD_inj h1
    subst h2
    unfold fI at e
    split at e
    · rename_i o ho
      split at e
      · cases e
      · rename_i hb
        cases e
        exact ⟨o, (lk_some ho).1, (lk_some ho).2, by simpa using hb, rfl⟩
    · cases e
/-- How many of those that have come are as p says. -/
def cntV (L : LL) (p : Lk → Bool) (left : Lit → Bool) : Nat := (L.filter (fun x => p x && !left (pkK x.id))).length
theorem cntV_step {L : LL} (hn : (L.map Lk.id).Nodup) {p : Lk → Bool} {left : Lit → Bool} {o : Lk} (ho : o ∈ L) (hl : left (pkK o.id) = true) : cntV L p (strike left o.id) = cntV L p left + (if p o then 1 else 0) := by
  unfold cntV
  induction L with
  | nil => cases ho
  | cons x r ih =>
    rw [List.map_cons, List.nodup_cons] at hn
    rcases List.mem_cons.1 ho with rfl | h
    · have hr : r.filter (fun y => p y && !strike left o.id (pkK y.id)) = r.filter (fun y => p y && !left (pkK y.id)) := by
        apply List.filter_congr
        intro y hy
        have : y.id ≠ o.id := fun e => hn.1 (by rw [← e]; exact List.mem_map_of_mem (f := Lk.id) hy)
        rw [strike_at]
        simp [this]
      rw [List.filter_cons, List.filter_cons, hr, strike_at, hl]
      cases p o <;> simp
    · have hne : x.id ≠ o.id := fun e => hn.1 (by rw [e]; exact List.mem_map_of_mem (f := Lk.id) h)
      have h1 := ih hn.2 h
      rw [List.filter_cons, List.filter_cons, strike_at]
      simp only [hne, decide_false, Bool.not_false, Bool.and_true]
      cases p x && !left (pkK x.id) <;> simp <;> omega
theorem cntV_start {L : LL} {D : Dat} {n : Nat} (h : MF D (fI L) n) (hn : (L.map Lk.id).Nodup) (to : ByteArray) : cntV L (isTo to) (Maps.has D) = 0 := by
  unfold cntV
  rw [List.length_eq_zero_iff, List.filter_eq_nil_iff]
  intro x hx
  cases e : isTo to x with
  | false => simp
  | true => rw [h.some_ (fI_some (lk_mem hn hx) (isTo_iff.1 e).1)]; simp
theorem cntV_end {L : LL} {to : ByteArray} {left : Lit → Bool} (h : ∀ kl, left kl = false) : cntV L (isTo to) left = idleTo L to := by
  unfold cntV idleTo
  congr 1
  apply List.filter_congr
  intro x _
  rw [h]
  simp
theorem cntV_le (L : LL) (p : Lk → Bool) (left : Lit → Bool) : cntV L p left ≤ L.length := List.length_filter_le _ _
set_option maxHeartbeats 1000000 in
theorem oidle_any {w : World} {pb bb ib : Nat} {DB DI : Dat} {S : Po} (h : PoM w pb bb ib DB DI S) (hI : PoI S) (to : ByteArray) :
    Calls Tryd.prog 15 #[pptr pb, .string to] w fun e w' => e = .returned (.int .i64 (idleTo S.L to : Nat)) ∧ Below w.heap.size w w' := by
  obtain ⟨-, -, -, -, -, c5, -⟩ := h.cells
  have HM := vl h
  have HI := vl hI
  have hll : S.L.length ≤ 8 := by have := hI.len; have := hI.many.2; omega
  have HLL := vl hll
  clear h hI hll
  unfold pptr
  go_enter Tryd.func15, Tryd.ntmps15
  go_wp2_with (first | (at_range; refine wpList_range_own _ rfl _ 54 rfl 3 65 klaw Tryd.underlying54 _ ib (nI S.L) DI rfl HM.out.ownI ?_; intro w0 hrg0 hg0 hs0; have HRG := vl hrg0; have HG0 := vl hg0; clear hrg0 hg0 hs0) | go_in)
  go_frame
  go_loopw [5, 7] (fun s5 _ wr => ∃ (k : Nat) (left : Lit → Bool) (cnt : Nat), s5 = .int .i64 k ∧ Vl (wr.ranges Tryd.prog 3 lkElem ib w.heap.size (nI S.L) DI left cnt) ∧ Vl (Below w.heap.size w wr) ∧ Vl (k = cntV S.L (isTo to) left))
    (fun _ _ wr => wr.rangeLeft ib w.heap.size)
  case atStart => exact ⟨0, _, _, rfl, HRG, vl (below_grown (Below.refl _ _) HG0.out (Nat.le_refl _) (fun k hk => by cases hk)), vl (cntV_start HM.out.relI HI.out.nodup to).symm⟩
  case round =>
    obtain ⟨k, left, cnt, rfl, HRW, HB, HK⟩ := hrel
    have hk8 : k ≤ 8 := by have := HK.out; have := cntV_le S.L (isTo to) left; have := HLL.out; omega
    clear c5
    go_wp2_with (first
      | (at_next; refine wpList_next_lk _ rfl _ rfl klaw Tryd.underlying3 ib w.heap.size (nI S.L) DI left cnt rfl HRW.out ?_ ?_)
      | go_in)
    · intro hl
      have HL := vl hl
      clear hl
      go_wp2
      go_ret
      exact ⟨by rw [HK.out, cntV_end HL.out]; rfl, HB.out⟩
    · intro id s t q w1 cnt1 hid hlf hat hrg1 hlt hg1 hen
      obtain ⟨o, hoL, hoid, hob, hov⟩ := idle_entry HM.out.relI hat
      obtain ⟨rfl, rfl, rfl⟩ : s = o.to ∧ t = o.turn ∧ q = o.at_ := by
        unfold iV at hov
        injection hov with a b
        injection b with b c
        exact ⟨a, b, c⟩
      subst hoid
      have HR1 := vl hrg1
      have HLT := vl hlt
      have HB1 := vl (below_grown HB.out hg1 HB.out.size (fun k hk => by cases hk; exact Nat.le_refl _))
      have HC := vl (cntV_step (p := isTo to) HI.out.nodup hoL hlf)
      clear hat hrg1 hlt hg1 HB hlf hov hid
      by_cases he : o.to = to
      · have he2 : (o.to.toList == to.toList) = true := by rw [bq]; exact decide_eq_true he
        have he3 : o.to.toList = to.toList := by simpa using he2
        have HK2 : Vl (k + 1 = cntV S.L (isTo to) (strike left o.id)) := vl (by rw [HC.out, ← HK.out, isTo_iff.2 ⟨hob, he⟩]; rfl)
        generalize o.to = s at *
        clear he he3 HC hoL hob
        go_wp2
        go_roundw
        case rel => exact ⟨k + 1, _, _, by go_num, vl (HR1.out.alloc _), vl (HB1.out.alloc HB1.out.size _), HK2⟩
        case measure => rw [(HR1.out.alloc _).left_eq, HRW.out.left_eq]; exact HLT.out
      · have he2 : (o.to.toList == to.toList) = false := by rw [bq]; exact decide_eq_false he
        have he3 : ¬ o.to.toList = to.toList := by simpa using he2
        have hno : isTo to o = false := by
          cases e : isTo to o with
          | false => rfl
          | true => exact absurd (isTo_iff.1 e).2 he
        have HK2 : Vl (k = cntV S.L (isTo to) (strike left o.id)) := vl (by rw [HC.out, ← HK.out, hno]; rfl)
        generalize o.to = s at *
        clear he HC hoL hob hno
        go_wp2
        go_roundw
        case rel => exact ⟨k, _, _, rfl, vl (HR1.out.alloc _), vl (HB1.out.alloc HB1.out.size _), HK2⟩
        case measure => rw [(HR1.out.alloc _).left_eq, HRW.out.left_eq]; exact HLT.out
end Go.Proofs.YtibjbdcmhjbndaaDoor
/-
  CONNECTIONS TO PLACES: what Tick lets go, entry by entry. No claim by itself.
-/
namespace Go.Proofs.YtibjbdcmhjbndaaDoor
open Go.RowKit Go.Maps
set_option maxRecDepth 100000
/-- Whether the one with this id goes. -/
def goesI (L : LL) (p : Lk → Bool) (i : Int) : Bool := match lkFind L i with
  | some o => p o
  | none => false
/-- What the map says while entries come. -/
def fLeft (L : LL) (p : Lk → Bool) (left : Lit → Bool) : LF := fun i => if goesI L p i = true ∧ left (pkK i) = false then none else fI L i
def cameL (L : LL) (p : Lk → Bool) (left : Lit → Bool) : LL := L.filter (fun x => p x && !left (pkK x.id))
theorem goesI_mem {L : LL} (hn : (L.map Lk.id).Nodup) {p : Lk → Bool} {o : Lk} (ho : o ∈ L) : goesI L p o.id = p o := by unfold goesI; rw [lk_mem hn ho]
theorem fLeft_start {L : LL} {D : Dat} {n : Nat} (h : MF D (fI L) n) {p : Lk → Bool} (hp : ∀ o ∈ L, p o = true → o.busy = false) (i : Int) : fLeft L p (Maps.has D) i = fI L i := by
  unfold fLeft
  by_cases hg : goesI L p i = true ∧ Maps.has D (pkK i) = false
  · rw [if_pos hg]
    obtain ⟨h1, h2⟩ := hg
    unfold goesI at h1
    cases e : lkFind L i with
    | none => rw [e] at h1; cases h1
    | some o =>
      rw [e] at h1
      rw [h.some_ (fI_some e (hp o (lk_some e).1 h1))] at h2
      cases h2
  · rw [if_neg hg]
theorem cameL_start {L : LL} {D : Dat} {n : Nat} (h : MF D (fI L) n) (hn : (L.map Lk.id).Nodup) {p : Lk → Bool} (hp : ∀ o ∈ L, p o = true → o.busy = false) : cameL L p (Maps.has D) = [] := by
  unfold cameL
  rw [List.filter_eq_nil_iff]
  intro x hx
  cases e : p x with
  | false => simp
  | true => rw [h.some_ (fI_some (lk_mem hn hx) (hp x hx e))]; simp
theorem fLeft_no {L : LL} (hn : (L.map Lk.id).Nodup) {p : Lk → Bool} {left : Lit → Bool} {o : Lk} (ho : o ∈ L) (hp : p o = false) (i : Int) : fLeft L p (strike left o.id) i = fLeft L p left i := by
  unfold fLeft
  rw [strike_at]
  by_cases hi : i = o.id
  · subst hi
    rw [goesI_mem hn ho, hp]
    simp
  · simp [hi]
theorem fLeft_yes {L : LL} (hn : (L.map Lk.id).Nodup) {p : Lk → Bool} {left : Lit → Bool} {o : Lk} (ho : o ∈ L) (hp : p o = true) (i : Int) : fLeft L p (strike left o.id) i = lfPut (fLeft L p left) o.id none i := by
  unfold fLeft lfPut
  rw [strike_at]
  by_cases hi : i = o.id
  · subst hi
    rw [goesI_mem hn ho, hp]
    simp
  · simp [hi]
theorem fLeft_at {L : LL} {p : Lk → Bool} {left : Lit → Bool} {id : Int} {v : LV} (h : fLeft L p left id = some v) : fI L id = some v := by
  unfold fLeft at h
  split at h
  · cases h
  · exact h
theorem fI_inv {L : LL} {id : Int} {v : LV} (e : fI L id = some v) : ∃ o ∈ L, o.id = id ∧ o.busy = false ∧ v = iV o := by
  unfold fI at e
  split at e
  · rename_i o ho
    split at e
    · cases e
    · rename_i hb
      cases e
      exact ⟨o, (lk_some ho).1, (lk_some ho).2, by simpa using hb, rfl⟩
  · cases e
theorem mf_entry {D : Dat} {f : LF} {n : Nat} (h : MF D f n) {id : Int} {v : LV} (ha : ∀ zd, D.atKey (pkK id) zd = lkD v) : f id = some v := by
  have h1 := ha (.agg [])
  rw [h.at_] at h1
  cases e : f id with
  | none => rw [e] at h1; simp [lkD] at h1
  | some u =>
    rw [e] at h1
    rw [lkD_inj h1]
theorem cameL_no {L : LL} (hn : (L.map Lk.id).Nodup) {p : Lk → Bool} {left : Lit → Bool} {o : Lk} (ho : o ∈ L) (hp : p o = false) : cameL L p (strike left o.id) = cameL L p left := by
  unfold cameL
  apply List.filter_congr
  intro x hx
  rw [strike_at]
  by_cases e : x.id = o.id
  · rw [lk_eq hn hx ho e, hp]; simp
  · simp [e]
theorem cameL_yes {L : LL} (hn : (L.map Lk.id).Nodup) {p : Lk → Bool} {left : Lit → Bool} {o : Lk} (ho : o ∈ L) (hp : p o = true) (hl : left (pkK o.id) = true) : (cameL L p (strike left o.id)).Perm (cameL L p left ++ [o]) := by
  induction L with
  | nil => cases ho
  | cons x r ih =>
    rw [List.map_cons, List.nodup_cons] at hn
    unfold cameL at ih ⊢
    rcases List.mem_cons.1 ho with rfl | h
    · have hr : r.filter (fun y => p y && !strike left o.id (pkK y.id)) = r.filter (fun y => p y && !left (pkK y.id)) := by
        apply List.filter_congr
        intro y hy
        have : y.id ≠ o.id := fun e => hn.1 (by rw [← e]; exact List.mem_map_of_mem (f := Lk.id) hy)
        rw [strike_at]
        simp [this]
      rw [List.filter_cons, List.filter_cons, hr, strike_at, hl, hp]
      simp
      exact (List.perm_append_singleton o _).symm
    · have hne : x.id ≠ o.id := fun e => hn.1 (by rw [e]; exact List.mem_map_of_mem (f := Lk.id) h)
      have h1 := ih hn.2 h
      rw [List.filter_cons, List.filter_cons, strike_at]
      simp only [hne, decide_false, Bool.not_false, Bool.and_true]
      split
      · exact (List.Perm.cons x h1)
      · exact h1
theorem cameL_end {L : LL} {p : Lk → Bool} {left : Lit → Bool} (h : ∀ kl, left kl = false) : cameL L p left = L.filter p := by
  unfold cameL
  apply List.filter_congr
  intro x _
  rw [h]
  simp
theorem fLeft_end {L : LL} (hn : (L.map Lk.id).Nodup) {p : Lk → Bool} {left : Lit → Bool} (h : ∀ kl, left kl = false) (i : Int) : fI (L.filter (fun x => !p x)) i = fLeft L p left i := by
  unfold fLeft fI goesI
  rw [lk_filter hn, h]
  cases lkFind L i with
  | none => simp
  | some o => cases hq : p o <;> simp [hq]
theorem fB_filter {L : LL} (hn : (L.map Lk.id).Nodup) {p : Lk → Bool} (hp : ∀ o ∈ L, p o = true → o.busy = false) (i : Int) : fB (L.filter (fun x => !p x)) i = fB L i := by
  unfold fB
  rw [lk_filter hn]
  cases e : lkFind L i with
  | none => simp
  | some o =>
    cases hq : p o with
    | false => simp [hq]
    | true => simp [hq, hp o (lk_some e).1 hq]
theorem nB_filter {L : LL} {p : Lk → Bool} (hp : ∀ o ∈ L, p o = true → o.busy = false) : nB (L.filter (fun x => !p x)) = nB L := by
  unfold nB busyL
  rw [List.filter_filter]
  congr 1
  apply List.filter_congr
  intro x hx
  cases e : p x with
  | false => simp
  | true => simp [hp x hx e]
theorem nI_filter {L : LL} {p : Lk → Bool} (hp : ∀ o ∈ L, p o = true → o.busy = false) : (L.filter p).length + nI (L.filter (fun x => !p x)) = nI L := by
  unfold nI idleL
  induction L with
  | nil => rfl
  | cons x r ih =>
    have h1 := ih (fun o ho => hp o (List.mem_cons_of_mem _ ho))
    rw [List.filter_filter] at h1 ⊢
    cases e : p x with
    | false => cases e2 : x.busy <;> simp [e, e2] <;> omega
    | true => have := hp x (by simp) e; simp [e, this]; omega
theorem goes_idle {now old : Int} : ∀ L : LL, ∀ o ∈ L, goesB now old o = true → o.busy = false := by
  intro L o _ h
  unfold goesB at h
  cases e : o.busy <;> simp_all
end Go.Proofs.YtibjbdcmhjbndaaDoor
