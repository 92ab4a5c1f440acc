/-
  CONNECTIONS TO PLACES: the Go function Take of package pool. No claim by itself.
-/
import Derived.Maps.OwnIn
import Derived.Sort.QuietIn
import Derived.Test.YtibjbdcmhjbndaaDoorLo9X
import Derived.Test.YtibjbdcmhjbndaaDoorWheld
namespace Go.Proofs.YtibjbdcmhjbndaaDoor
open Go Go.RowKit Go.Maps Go.Shelf
set_option maxRecDepth 100000
attribute [local go_sem] Oper.semAt_some
/-- What Take answers. -/
def OTakeE (w : World) (pb bb ib : Nat) (S : Po) (to : ByteArray) (e : Ending) (w' : World) : Prop :=
  e = .returned (.tuple #[.int .i64 (takeT S to).1, .bool (takeT S to).2.1, errW (takeT S to).2.2.1]) ∧ PoK w pb bb ib (takeT S to).2.2.2 w'
/-- What Take lays first: its two variables and its three results. -/
structure TkB (W : World) (n pb : Nat) (to : ByteArray) : Prop where
  k0 : W.heap[n]? = some (.cells #[.pointer (some ⟨pb, 0, none⟩)] 23 (0, 0))
  k1 : W.heap[n + 1]? = some (.cells #[.string to] 9 (0, 0))
  k2 : W.heap[n + 2]? = some (.cells #[.int .i64 0] 3 (0, 0))
  k3 : W.heap[n + 3]? = some (.cells #[.bool false] 4 (0, 0))
  k4 : W.heap[n + 4]? = some (.cells #[.nilIface] 25 (0, 0))
def tkW (w : World) (pb : Nat) (to : ByteArray) : World := ((((w.alloc (.cells #[.pointer (some ⟨pb, 0, none⟩)] 23)).alloc (.cells #[.string to] 9)).alloc (.cells #[.int .i64 0] 3)).alloc (.cells #[.bool false] 4)).alloc (.cells #[.nilIface] 25)
theorem alloc_old (V : World) (o : Obj) {k : Nat} {x : Option Obj} (hk : k < V.heap.size) (e : V.heap[k]? = x) : (V.alloc o).heap[k]? = x := (Below.heap_alloc _ _ _ hk).trans e
theorem tkW_below (w : World) (pb : Nat) (to : ByteArray) : Below w.heap.size w (tkW w pb to) := by
  unfold tkW
  exact (((((Below.refl _ w).alloc (Nat.le_refl _) _).alloc (by simp) _).alloc (by simp <;> omega) _).alloc (by simp <;> omega) _).alloc (by simp <;> omega) _
theorem tkW_size (w : World) (pb : Nat) (to : ByteArray) : (tkW w pb to).heap.size = w.heap.size + 5 := by unfold tkW; simp
theorem tkW_rows (w : World) (pb : Nat) (to : ByteArray) : TkB (tkW w pb to) w.heap.size pb to := by
  unfold tkW
  have a1 := heap_alloc_new (w.alloc (.cells #[.pointer (some ⟨pb, 0, none⟩)] 23)) (.cells #[.string to] 9 (0, 0))
  have a2 := heap_alloc_new ((w.alloc (.cells #[.pointer (some ⟨pb, 0, none⟩)] 23)).alloc (.cells #[.string to] 9)) (.cells #[.int .i64 0] 3 (0, 0))
  have a3 := heap_alloc_new (((w.alloc (.cells #[.pointer (some ⟨pb, 0, none⟩)] 23)).alloc (.cells #[.string to] 9)).alloc (.cells #[.int .i64 0] 3)) (.cells #[.bool false] 4 (0, 0))
  have a4 := heap_alloc_new ((((w.alloc (.cells #[.pointer (some ⟨pb, 0, none⟩)] 23)).alloc (.cells #[.string to] 9)).alloc (.cells #[.int .i64 0] 3)).alloc (.cells #[.bool false] 4)) (.cells #[.nilIface] 25 (0, 0))
  simp only [World.size_alloc] at a1 a2 a3 a4
  exact ⟨alloc_old _ _ (by simp <;> omega) (alloc_old _ _ (by simp <;> omega) (alloc_old _ _ (by simp <;> omega) (alloc_old _ _ (by simp) (heap_alloc_new w _)))),
    alloc_old _ _ (by simp <;> omega) (alloc_old _ _ (by simp <;> omega) (alloc_old _ _ (by simp) a1)), alloc_old _ _ (by simp <;> omega) (alloc_old _ _ (by simp) a2), alloc_old _ _ (by simp) a3, a4⟩
section
variable {W W' : World} {n pb : Nat} {to : ByteArray} (h : TkB W n pb to)
include h
theorem TkB.lt : n + 4 < W.heap.size := (Array.getElem?_eq_some_iff.1 h.k4).1
theorem TkB.same (hk : ∀ k, n ≤ k → k < n + 5 → W'.heap[k]? = W.heap[k]?) : TkB W' n pb to :=
  ⟨(hk _ (by omega) (by omega)).trans h.k0, (hk _ (by omega) (by omega)).trans h.k1, (hk _ (by omega) (by omega)).trans h.k2, (hk _ (by omega) (by omega)).trans h.k3, (hk _ (by omega) (by omega)).trans h.k4⟩
theorem TkB.below {B : Nat} (hb : Below B W W') (hB : n + 5 ≤ B) : TkB W' n pb to := h.same (fun k _ h2 => hb.block k (by omega))
theorem TkB.cells : W.cell? ⟨n, 0, none⟩ = some (.pointer (some ⟨pb, 0, none⟩)) ∧ W.cell? ⟨n + 1, 0, none⟩ = some (.string to) ∧ W.cell? ⟨n + 1 + 1, 0, none⟩ = some (.int .i64 0) ∧ W.cell? ⟨n + 1 + 1 + 1, 0, none⟩ = some (.bool false) ∧ W.cell? ⟨n + 1 + 1 + 1 + 1, 0, none⟩ = some .nilIface ∧
    (∀ j, W.frozen? ⟨n + 1 + 1, j, none⟩ = false) ∧ (∀ j, W.frozen? ⟨n + 1 + 1 + 1, j, none⟩ = false) ∧ ∀ j, W.frozen? ⟨n + 1 + 1 + 1 + 1, j, none⟩ = false := by
  have h0 := h.k0
  have h1 := h.k1
  have h2 : W.heap[n + 1 + 1]? = _ := h.k2
  have h3 : W.heap[n + 1 + 1 + 1]? = _ := h.k3
  have h4 : W.heap[n + 1 + 1 + 1 + 1]? = _ := h.k4
  exact ⟨by simp only [World.cell?, h0]; rfl, by simp only [World.cell?, h1]; rfl, by simp only [World.cell?, h2]; rfl, by simp only [World.cell?, h3]; rfl, by simp only [World.cell?, h4]; rfl,
    fun j => by simp [World.frozen?, h2], fun j => by simp [World.frozen?, h3], fun j => by simp [World.frozen?, h4]⟩
end
theorem fld_to (s : ByteArray) (a b : Int) (w : World) : (Instr.field 65 (.agg #[.string s, .int .i64 a, .int .i64 b]) 0).run Tryd.prog w = .ok (.string s) w := by kernel_rfl
def Pl3 (pb bb ib b n k : Nat) : Prop := Po3 pb bb ib k ∨ k = b ∨ (n ≤ k ∧ k < n + 5)
/-- Whether the id at a place is to the place. -/
def isAt (T : LL) (to : ByteArray) (i : Nat) : Prop := (T.getD i lk0).to = to
def TgI (V : World) (b : Nat) (T : LL) (to : ByteArray) (D : List Int) (pre : List (Bk D)) (W : World) : Prop := (∀ x ∈ pre, ¬ isAt T to x.1.1) ∧ Tn (fun k => k = b) V W
def TgX (V : World) (pb bb ib b n : Nat) (S : Po) (T : LL) (to : ByteArray) (D : List Int) (c : Code) (pre : List (Bk D)) (W : World) : Prop :=
  c = .ret ∧ ∃ p0 x, pre = p0 ++ [x] ∧ (∀ y ∈ p0, ¬ isAt T to y.1.1) ∧ isAt T to x.1.1 ∧ W.heap[n + 2]? = some (.cells #[.int .i64 (T.getD x.1.1 lk0).id] 3 (0, 0)) ∧ W.heap[n + 3]? = some (.cells #[.bool false] 4 (0, 0)) ∧ W.heap[n + 4]? = some (.cells #[.nilIface] 25 (0, 0)) ∧
    (∃ DB DI, PoM W pb bb ib DB DI ⟨S.many, S.last, S.now, S.turn, mapK S.L (T.getD x.1.1 lk0).id setB⟩) ∧ Tn (Pl3 pb bb ib b n) V W
theorem tn_pl {w V X : World} {pb bb ib b : Nat} (h1 : Below w.heap.size w V) (hb : w.heap.size ≤ b) (h2 : Tn (Pl3 pb bb ib b w.heap.size) V X) : Tn (Po3 pb bb ib) w X :=
  ⟨h2.os.trans h1.os, h2.tape.trans h1.tape, h2.output.trans h1.output, Nat.le_trans h1.size h2.size, fun k hk hn => (h2.block k (Nat.lt_of_lt_of_le hk h1.size) (fun e => by
    rcases e with e | e | e
    · exact hn e
    · omega
    · omega)).trans (h1.block k hk)⟩
theorem tn_putD {S : Nat → Prop} {w X : World} {D : Nat} (h : Tn S w X) (hD : w.heap.size ≤ D) (o : Obj) : Tn S w (X.putObj D o) :=
  ⟨h.os, h.tape, h.output, by rw [World.putObj_size]; exact h.size, fun k hk hn => (World.putObj_heap_other (by omega)).trans (h.block k hk hn)⟩
theorem grown_undraw {a b : World} {r : Option Nat} (h : a.drew.grownBy b r) : a.grownBy b r := ⟨h.os, h.tape, h.output, h.size, h.block⟩
theorem tn_drewL {S : Nat → Prop} {a b : World} (h : Tn S a.drew b) : Tn S a b := ⟨h.os, h.tape, h.output, h.size, h.block⟩
theorem fB_idle {L : LL} {id : Int} {o : Lk} (h : lkFind L id = some o) (hb : o.busy = false) : fB L id = none := by unfold fB; rw [h]; simp [hb]
/-- What the world is behind a hit. -/
theorem tk_hit {W w2 w4 : World} {pb bb ib b n B m4 : Nat} {DB DI : Dat} {S : Po} {o : Lk} {to : ByteArray} (hM : PoM W pb bb ib DB DI S) (hI : PoI S) (hK : TkB W n pb to) (ho : o ∈ S.L) (hb : o.busy = false) (hp : pb < n) (hbb : bb < n) (hib : ib < n) (hB : n + 5 ≤ B)
    (h2 : w2.ownsMap Tryd.prog 3 lkElem ib (nI S.L) (DI.del (pkK o.id))) (g2 : W.drew.grownBy w2 (some ib)) (h4 : w4.ownsMap Tryd.prog 3 lkElem bb m4 (DB.put (pkK o.id) (lkD (o.to, 0, 0)))) (g4 : w2.drew.grownBy w4 (some bb)) :
    (((w4.setCell ⟨n + 1 + 1, 0, none⟩ (.int .i64 o.id)).setCell ⟨n + 1 + 1 + 1, 0, none⟩ (.bool false)).setCell ⟨n + 1 + 1 + 1 + 1, 0, none⟩ .nilIface).heap[n + 2]? = some (.cells #[.int .i64 o.id] 3 (0, 0)) ∧
    (((w4.setCell ⟨n + 1 + 1, 0, none⟩ (.int .i64 o.id)).setCell ⟨n + 1 + 1 + 1, 0, none⟩ (.bool false)).setCell ⟨n + 1 + 1 + 1 + 1, 0, none⟩ .nilIface).heap[n + 3]? = some (.cells #[.bool false] 4 (0, 0)) ∧
    (((w4.setCell ⟨n + 1 + 1, 0, none⟩ (.int .i64 o.id)).setCell ⟨n + 1 + 1 + 1, 0, none⟩ (.bool false)).setCell ⟨n + 1 + 1 + 1 + 1, 0, none⟩ .nilIface).heap[n + 4]? = some (.cells #[.nilIface] 25 (0, 0)) ∧
    (∃ DB' DI', PoM (((w4.setCell ⟨n + 1 + 1, 0, none⟩ (.int .i64 o.id)).setCell ⟨n + 1 + 1 + 1, 0, none⟩ (.bool false)).setCell ⟨n + 1 + 1 + 1 + 1, 0, none⟩ .nilIface) pb bb ib DB' DI' ⟨S.many, S.last, S.now, S.turn, mapK S.L o.id setB⟩) ∧
    Tn (Pl3 pb bb ib b n) W (((w4.setCell ⟨n + 1 + 1, 0, none⟩ (.int .i64 o.id)).setCell ⟨n + 1 + 1 + 1, 0, none⟩ (.bool false)).setCell ⟨n + 1 + 1 + 1 + 1, 0, none⟩ .nilIface) ∧
    KeepsFrom B W (((w4.setCell ⟨n + 1 + 1, 0, none⟩ (.int .i64 o.id)).setCell ⟨n + 1 + 1 + 1, 0, none⟩ (.bool false)).setCell ⟨n + 1 + 1 + 1 + 1, 0, none⟩ .nilIface) := by
  obtain ⟨X, hX⟩ : ∃ X, ((w4.setCell ⟨n + 1 + 1, 0, none⟩ (.int .i64 o.id)).setCell ⟨n + 1 + 1 + 1, 0, none⟩ (.bool false)).setCell ⟨n + 1 + 1 + 1 + 1, 0, none⟩ .nilIface = X := ⟨_, rfl⟩
  have hkl := hK.lt
  have hw2 : W.heap.size ≤ w2.heap.size := g2.size
  have e4 : ∀ k, k < W.heap.size → k ≠ ib → k ≠ bb → w4.heap[k]? = W.heap[k]? := fun k hk h1 h2 => by
    have a1 : w4.heap[k]? = w2.heap[k]? := grown_old (w := w2.drew) g4 (Nat.lt_of_lt_of_le hk hw2) h2
    have a2 : w2.heap[k]? = W.heap[k]? := grown_old (w := W.drew) g2 hk h1
    exact a1.trans a2
  have eX : ∀ k, k < n → X.heap[k]? = w4.heap[k]? := fun k hk => by
    rw [← hX, Below.heap_setCell _ _ _ _ (by show k ≠ n + 1 + 1 + 1 + 1; omega), Below.heap_setCell _ _ _ _ (by show k ≠ n + 1 + 1 + 1; omega), Below.heap_setCell _ _ _ _ (by show k ≠ n + 1 + 1; omega)]
  have q2 : w4.heap[n + 1 + 1]? = some (.cells #[.int .i64 0] 3 (0, 0)) := (e4 _ (by omega) (by omega) (by omega)).trans hK.k2
  have q3 : w4.heap[n + 1 + 1 + 1]? = some (.cells #[.bool false] 4 (0, 0)) := (e4 _ (by omega) (by omega) (by omega)).trans hK.k3
  have q4 : w4.heap[n + 1 + 1 + 1 + 1]? = some (.cells #[.nilIface] 25 (0, 0)) := (e4 _ (by omega) (by omega) (by omega)).trans hK.k4
  have hfnd := lk_mem hI.nodup ho
  have e1 := cnt_map S.L hI.nodup ho setB (fun x => x.busy)
  have e2 := cnt_map S.L hI.nodup ho setB (fun x => !x.busy)
  rw [hb] at e1 e2
  have cB : nB (mapK S.L o.id setB) = nB S.L + 1 := by unfold nB busyL; simp [setB] at e1 ⊢; omega
  have cI : nI (mapK S.L o.id setB) = nI S.L - 1 := by unfold nI idleL; simp [setB] at e2 ⊢; omega
  have mI := hM.relI.del (hM.ownI.tidy klaw) o.id
  rw [fI_some hfnd hb] at mI
  have mB := hM.relB.put (hM.ownB.tidy klaw) o.id (o.to, 0, 0)
  rw [fB_idle hfnd hb] at mB
  have tB := map_tight h4
  rw [mB.size] at tB
  have tI := map_tight h2
  rw [mI.size] at tI
  have tA : Tn (Pl3 pb bb ib b n) W w2 := tn_drewL <| tn_grown (S := Pl3 pb bb ib b n) (w := W.drew) g2 (fun k e => by cases e; exact Or.inl (Or.inr (Or.inr rfl)))
  have tB2 : Tn (Pl3 pb bb ib b n) w2 w4 := tn_drewL <| tn_grown (S := Pl3 pb bb ib b n) (w := w2.drew) g4 (fun k e => by cases e; exact Or.inl (Or.inr (Or.inl rfl)))
  have tT : Tn (Pl3 pb bb ib b n) W w4 := tA.trans' tB2
  have tX : Tn (Pl3 pb bb ib b n) w4 X := by
    rw [← hX]
    exact ((tn_set (Or.inr (Or.inr ⟨by show n ≤ n + 1 + 1; omega, by show n + 1 + 1 < n + 5; omega⟩))).trans' (tn_set (Or.inr (Or.inr ⟨by show n ≤ n + 1 + 1 + 1; omega, by show n + 1 + 1 + 1 < n + 5; omega⟩)))).trans' (tn_set (Or.inr (Or.inr ⟨by show n ≤ n + 1 + 1 + 1 + 1; omega, by show n + 1 + 1 + 1 + 1 < n + 5; omega⟩)))
  have kX : KeepsFrom B W X := by
    refine (KeepsOthers.drew W).from _ |>.trans ?_
    refine (KeepsFrom.of_grownBy g2 (fun j e => by cases e; omega)).trans ?_
    refine (KeepsOthers.drew w2).from _ |>.trans ?_
    refine (KeepsFrom.of_grownBy g4 (fun j e => by cases e; omega)).trans ?_
    rw [← hX]
    exact ((((KeepsOthers.setCell _ _ _).trans (KeepsOthers.setCell _ _ _)).trans (KeepsOthers.setCell _ _ _))).from _
  refine ⟨?_, ?_, ?_, ?_, ?_, ?_⟩
  · rw [hX, ← hX, Below.heap_setCell _ _ _ _ (by show n + 1 + 1 ≠ n + 1 + 1 + 1 + 1; omega), Below.heap_setCell _ _ _ _ (by show n + 1 + 1 ≠ n + 1 + 1 + 1; omega)]
    exact heap_setCell_same w4 (n + 1 + 1) 0 _ 3 _ q2
  · rw [Below.heap_setCell _ _ _ _ (by show n + 1 + 1 + 1 ≠ n + 1 + 1 + 1 + 1; omega)]
    refine heap_setCell_same _ (n + 1 + 1 + 1) 0 #[.bool false] 4 _ ?_
    rw [Below.heap_setCell _ _ _ _ (by show n + 1 + 1 + 1 ≠ n + 1 + 1; omega)]
    exact q3
  · refine heap_setCell_same _ (n + 1 + 1 + 1 + 1) 0 #[.nilIface] 25 _ ?_
    rw [Below.heap_setCell _ _ _ _ (by show n + 1 + 1 + 1 + 1 ≠ n + 1 + 1 + 1; omega), Below.heap_setCell _ _ _ _ (by show n + 1 + 1 + 1 + 1 ≠ n + 1 + 1; omega)]
    exact q4
  · rw [hX]
    refine ⟨_, _, ⟨(eX pb hp).trans ((e4 pb (by omega) hM.n2.symm hM.n1.symm).trans hM.blk), hM.n1, hM.n2, hM.n3, ?_, ?_, mB.congr (fun i => fB_map hfnd (f := setB) (fun _ => by rfl) i) cB, mI.congr (fun i => fI_map hfnd (f := setB) (fun _ => by rfl) i) cI⟩⟩
    · show X.ownsMap _ _ _ _ (nB (mapK S.L o.id setB)) _
      rw [cB]
      exact own_block tB (eX bb hbb)
    · show X.ownsMap _ _ _ _ (nI (mapK S.L o.id setB)) _
      rw [cI]
      exact own_block tI ((eX ib hib).trans (grown_old (w := w2.drew) g4 h2.lt hM.n3.symm))
  · rw [hX]; exact tT.trans' tX
  · rw [hX]; exact kX
theorem tn_out {w V X : World} {pb bb ib n : Nat} (h1 : Below w.heap.size w V) (hn : n = w.heap.size) (h2 : Tn (fun k => Po3 pb bb ib k ∨ n ≤ k) V X) : Tn (Po3 pb bb ib) w X :=
  ⟨h2.os.trans h1.os, h2.tape.trans h1.tape, h2.output.trans h1.output, Nat.le_trans h1.size h2.size, fun k hk hk2 => (h2.block k (Nat.lt_of_lt_of_le hk h1.size) (fun e => by
    rcases e with e | e
    · exact hk2 e
    · omega)).trans (h1.block k hk)⟩
/-- The end: three results are stored, and what was deferred is taken. -/
theorem tk_out {Y : World} {n pb Db : Nat} {to : ByteArray} (hK : TkB Y n pb to) (hD : n + 5 ≤ Db) {d : Obj} (hY : Y.heap[Db]? = some d) (a b e : Value) :
    (((Y.setCell ⟨n + 1 + 1, 0, none⟩ a).setCell ⟨n + 1 + 1 + 1, 0, none⟩ b).setCell ⟨n + 1 + 1 + 1 + 1, 0, none⟩ e).heap[Db]? = some d ∧
    ((((Y.setCell ⟨n + 1 + 1, 0, none⟩ a).setCell ⟨n + 1 + 1 + 1, 0, none⟩ b).setCell ⟨n + 1 + 1 + 1 + 1, 0, none⟩ e).putObj Db (.deferred none)).cell? ⟨n + 1 + 1, 0, none⟩ = some a ∧
    ((((Y.setCell ⟨n + 1 + 1, 0, none⟩ a).setCell ⟨n + 1 + 1 + 1, 0, none⟩ b).setCell ⟨n + 1 + 1 + 1 + 1, 0, none⟩ e).putObj Db (.deferred none)).cell? ⟨n + 1 + 1 + 1, 0, none⟩ = some b ∧
    ((((Y.setCell ⟨n + 1 + 1, 0, none⟩ a).setCell ⟨n + 1 + 1 + 1, 0, none⟩ b).setCell ⟨n + 1 + 1 + 1 + 1, 0, none⟩ e).putObj Db (.deferred none)).cell? ⟨n + 1 + 1 + 1 + 1, 0, none⟩ = some e ∧
    (∀ k, k < n → ((((Y.setCell ⟨n + 1 + 1, 0, none⟩ a).setCell ⟨n + 1 + 1 + 1, 0, none⟩ b).setCell ⟨n + 1 + 1 + 1 + 1, 0, none⟩ e).putObj Db (.deferred none)).heap[k]? = Y.heap[k]?) ∧
    Tn (fun k => n ≤ k) Y ((((Y.setCell ⟨n + 1 + 1, 0, none⟩ a).setCell ⟨n + 1 + 1 + 1, 0, none⟩ b).setCell ⟨n + 1 + 1 + 1 + 1, 0, none⟩ e).putObj Db (.deferred none)) := by
  have q2 : Y.heap[n + 1 + 1]? = some (.cells #[.int .i64 0] 3 (0, 0)) := hK.k2
  have q3 : Y.heap[n + 1 + 1 + 1]? = some (.cells #[.bool false] 4 (0, 0)) := hK.k3
  have q4 : Y.heap[n + 1 + 1 + 1 + 1]? = some (.cells #[.nilIface] 25 (0, 0)) := hK.k4
  obtain ⟨X, hX⟩ : ∃ X, ((Y.setCell ⟨n + 1 + 1, 0, none⟩ a).setCell ⟨n + 1 + 1 + 1, 0, none⟩ b).setCell ⟨n + 1 + 1 + 1 + 1, 0, none⟩ e = X := ⟨_, rfl⟩
  have far : ∀ k, k ≠ n + 1 + 1 → k ≠ n + 1 + 1 + 1 → k ≠ n + 1 + 1 + 1 + 1 → X.heap[k]? = Y.heap[k]? := fun k h1 h2 h3 => by
    rw [← hX, Below.heap_setCell _ _ _ _ h3, Below.heap_setCell _ _ _ _ h2, Below.heap_setCell _ _ _ _ h1]
  have r2 : X.heap[n + 1 + 1]? = some (.cells #[a] 3 (0, 0)) := by
    rw [← hX, Below.heap_setCell _ _ _ _ (by show n + 1 + 1 ≠ n + 1 + 1 + 1 + 1; omega), Below.heap_setCell _ _ _ _ (by show n + 1 + 1 ≠ n + 1 + 1 + 1; omega)]
    exact heap_setCell_same Y (n + 1 + 1) 0 _ 3 _ q2
  have r3 : X.heap[n + 1 + 1 + 1]? = some (.cells #[b] 4 (0, 0)) := by
    rw [← hX, Below.heap_setCell _ _ _ _ (by show n + 1 + 1 + 1 ≠ n + 1 + 1 + 1 + 1; omega)]
    refine heap_setCell_same _ (n + 1 + 1 + 1) 0 #[.bool false] 4 _ ?_
    rw [Below.heap_setCell _ _ _ _ (by show n + 1 + 1 + 1 ≠ n + 1 + 1; omega)]
    exact q3
  have r4 : X.heap[n + 1 + 1 + 1 + 1]? = some (.cells #[e] 25 (0, 0)) := by
    rw [← hX]
    refine heap_setCell_same _ (n + 1 + 1 + 1 + 1) 0 #[.nilIface] 25 _ ?_
    rw [Below.heap_setCell _ _ _ _ (by show n + 1 + 1 + 1 + 1 ≠ n + 1 + 1 + 1; omega), Below.heap_setCell _ _ _ _ (by show n + 1 + 1 + 1 + 1 ≠ n + 1 + 1; omega)]
    exact q4
  have tX : Tn (fun k => n ≤ k) Y X := by
    rw [← hX]
    exact ((tn_set (by show n ≤ n + 1 + 1; omega)).trans' (tn_set (by show n ≤ n + 1 + 1 + 1; omega))).trans' (tn_set (by show n ≤ n + 1 + 1 + 1 + 1; omega))
  rw [hX]
  have p : ∀ k, k ≠ Db → (X.putObj Db (.deferred none)).heap[k]? = X.heap[k]? := fun k hk => World.putObj_heap_other hk
  refine ⟨(far Db (by omega) (by omega) (by omega)).trans hY, ?_, ?_, ?_, fun k hk => (p k (by omega)).trans (far k (by omega) (by omega) (by omega)), ?_⟩
  · have := (p (n + 1 + 1) (by omega)).trans r2
    simp only [World.cell?, this]; rfl
  · have := (p (n + 1 + 1 + 1) (by omega)).trans r3
    simp only [World.cell?, this]; rfl
  · have := (p (n + 1 + 1 + 1 + 1) (by omega)).trans r4
    simp only [World.cell?, this]; rfl
  · exact ⟨tX.os, tX.tape, tX.output, by rw [World.putObj_size]; exact tX.size, fun k hk hn => (p k (by omega)).trans (tX.block k hk hn)⟩
theorem po_drop {X w2 : World} {pb bb ib m : Nat} {DB DI : Dat} {S : Po} {o : Lk} (hM : PoM X pb bb ib DB DI S) (hI : PoI S) (ho : o ∈ S.L) (hb : o.busy = false) (h2 : w2.ownsMap Tryd.prog 3 lkElem ib m (DI.del (pkK o.id))) (g2 : X.grownBy w2 (some ib)) :
    PoM w2 pb bb ib DB (DI.del (pkK o.id)) ⟨S.many, S.last, S.now, S.turn, dropK S.L o.id⟩ := by
  have hlt := hM.lt
  have hfnd := lk_mem hI.nodup ho
  have mI := hM.relI.del (hM.ownI.tidy klaw) o.id
  rw [fI_some hfnd hb] at mI
  have e1 := cnt_drop S.L hI.nodup ho (fun x => x.busy)
  have e2 := cnt_drop S.L hI.nodup ho (fun x => !x.busy)
  rw [hb] at e1 e2
  have cB : nB (dropK S.L o.id) = nB S.L := by unfold nB busyL; simp at e1 ⊢; omega
  have cI : nI (dropK S.L o.id) = nI S.L - 1 := by unfold nI idleL; simp at e2 ⊢; omega
  have tI := map_tight h2
  rw [mI.size] at tI
  refine ⟨(grown_old g2 hlt.1 hM.n2.symm).trans hM.blk, hM.n1, hM.n2, hM.n3, ?_, ?_, hM.relB.congr (fun i => by rw [fB_drop hI.nodup, ← fB_same (fB_idle hfnd hb)]) cB, mI.congr (fun i => fI_drop hI.nodup o.id i) cI⟩
  · show w2.ownsMap _ _ _ _ (nB (dropK S.L o.id)) _
    rw [cB]
    exact own_block hM.ownB (grown_old g2 hlt.2.1 hM.n3)
  · show w2.ownsMap _ _ _ _ (nI (dropK S.L o.id)) _
    rw [cI]
    exact tI
theorem po_last {Y : World} {pb bb ib : Nat} {DB DI : Dat} {S : Po} (hM : PoM Y pb bb ib DB DI S) (l : Int) : PoM (Y.setCell ⟨pb, 1, none⟩ (.int .i64 l)) pb bb ib DB DI ⟨S.many, l, S.now, S.turn, S.L⟩ :=
  ⟨heap_setCell_same Y pb 1 _ _ _ hM.blk, hM.n1, hM.n2, hM.n3, own_block hM.ownB (Below.heap_setCell _ _ _ _ hM.n1), own_block hM.ownI (Below.heap_setCell _ _ _ _ hM.n2), hM.relB, hM.relI⟩
theorem po_put {Y w4 : World} {pb bb ib m : Nat} {DB DI : Dat} {S : Po} {id : Int} {to : ByteArray} (hM : PoM Y pb bb ib DB DI S) (hf : lkFind S.L id = none) (h4 : w4.ownsMap Tryd.prog 3 lkElem bb m (DB.put (pkK id) (lkD (to, 0, 0)))) (g4 : Y.drew.grownBy w4 (some bb)) :
    PoM w4 pb bb ib (DB.put (pkK id) (lkD (to, 0, 0))) DI ⟨S.many, S.last, S.now, S.turn, S.L ++ [newK id to]⟩ := by
  have hlt := hM.lt
  have mB := hM.relB.put (hM.ownB.tidy klaw) id (to, 0, 0)
  rw [fB_none hf] at mB
  have tB := map_tight h4
  rw [mB.size] at tB
  have e4 : ∀ k, k < Y.heap.size → k ≠ bb → w4.heap[k]? = Y.heap[k]? := fun k hk h => grown_old (w := Y.drew) g4 hk h
  refine ⟨(e4 _ hlt.1 hM.n1.symm).trans hM.blk, hM.n1, hM.n2, hM.n3, ?_, ?_, mB.congr (fun i => fB_new hf i) (nB_new _ _ _), hM.relI.congr (fun i => fI_new hf i) (nI_new _ _ _)⟩
  · show w4.ownsMap _ _ _ _ (nB (S.L ++ [newK id to])) _
    rw [nB_new]
    exact tB
  · show w4.ownsMap _ _ _ _ (nI (S.L ++ [newK id to])) _
    rw [nI_new]
    exact own_block hM.ownI (e4 _ hlt.2.2 hM.n3.symm)
/-- Behind the last place that is to the place: it is the best. -/
theorem tk_best {S : Po} {T : LL} (hT : ByTurn S T) (hI : PoI S) {to : ByteArray} {p0 : List (Bk (T.map Lk.id))} {x : Bk (T.map Lk.id)} (hsp : BkI (T.map Lk.id) (p0 ++ [x])) (h2 : ∀ y ∈ p0, ¬ isAt T to y.1.1) (h3 : isAt T to x.1.1) : bestK S.L to = some (T.getD x.1.1 lk0) := by
  have hx : x.1.1 < T.length := Nat.lt_of_lt_of_eq x.2.1 (List.length_map _)
  refine hT.best hI hx h3 (fun j h4 h5 => ?_)
  obtain ⟨q1, q2⟩ := hsp
  rw [List.length_append] at q1 q2
  simp only [List.length_map, List.length_cons, List.length_nil] at q1 q2
  obtain ⟨y, hy, hyi⟩ := q2 p0.length (by omega)
  rw [List.getElem?_append_right (Nat.le_refl _), Nat.sub_self] at hy
  simp at hy
  subst hy
  obtain ⟨z, hz, hzi⟩ := q2 (T.length - 1 - j) (by omega)
  rw [List.getElem?_append_left (by omega)] at hz
  have := h2 z (List.mem_of_getElem? hz)
  have hzi : z.1.1 = T.length - 1 - (T.length - 1 - j) := hzi
  rw [hzi, show T.length - 1 - (T.length - 1 - j) = j by omega] at this
  exact this
theorem tk_none {S : Po} {T : LL} (hT : ByTurn S T) {to : ByteArray} {xs : List (Bk (T.map Lk.id))} (hsp : BkI (T.map Lk.id) xs) (hl : xs.length = (T.map Lk.id).length) (h2 : ∀ y ∈ xs, ¬ isAt T to y.1.1) : bestK S.L to = none := by
  refine hT.none_ (fun j hj => ?_)
  rw [List.length_map] at hl
  obtain ⟨z, hz, hzi⟩ := hsp.2 (T.length - 1 - j) (by omega)
  have := h2 z (List.mem_of_getElem? hz)
  have hzi : z.1.1 = T.length - 1 - (T.length - 1 - j) := hzi.trans (by rw [List.length_map])
  rw [hzi, show T.length - 1 - (T.length - 1 - j) = j by omega] at this
  exact this
set_option maxHeartbeats 8000000 in
theorem otake_in {w : World} {pb bb ib : Nat} {DB DI : Dat} {S : Po} (h : PoM w pb bb ib DB DI S) (hI : PoI S) (to : ByteArray) (hto : to.size ≤ 140737488351232) (ht1 : S.turn ≤ 1000000000000) (hl1 : S.last ≤ 1000000000000) (htk : tokL (unums to) = true) :
    CallsIn Fence.wide 9 Tryd.prog 8 #[pptr pb, .string to] w (OTakeE w pb bb ib S to) := by
  obtain ⟨W1, hW1⟩ : ∃ W1, tkW w pb to = W1 := ⟨_, rfl⟩
  have hB1 : Below w.heap.size w W1 := by rw [← hW1]; exact tkW_below w pb to
  have hs1 : W1.heap.size = w.heap.size + 5 := by rw [← hW1]; exact tkW_size w pb to
  have hK1 : TkB W1 w.heap.size pb to := by rw [← hW1]; exact tkW_rows w pb to
  have HTK := vl (ntoken_any to W1 hto)
  rw [htk] at HTK
  have HM1 := vl (h.below (Nat.le_refl _) hB1)
  have HI := vl hI
  have HLT := vl h.lt
  have HB1 := vl hB1
  have HS1 := vl hs1
  have HK1 := vl hK1
  have HTT := vl htk
  have HM := vl h
  obtain ⟨c0, c1, c2, c3, c4, f2, f3, f4⟩ := hK1.cells
  clear h hI hB1 hs1 hK1 htk c0 c2 c3 c4 f2 f3 f4
  have HW1 := vl hW1
  unfold tkW at hW1
  have c1' := c1
  rw [← hW1] at c1'
  clear c1 hW1
  unfold pptr
  refine callsIn_of_wp_marks Tryd.func8 rfl trivial ?_ rfl
  simp only [Tryd.ntmps8, List.size_toArray, List.length_cons, List.length_nil, Nat.reduceAdd, Nat.reduceSub, Array.replicate_succ, Array.replicate_zero, List.push_toArray, List.append_toArray, List.nil_append, List.cons_append]
  gi_wp2_with fail
  refine ⟨trivial, ?_⟩
  have e1 := HW1.out
  unfold tkW at e1
  rw [e1]
  clear e1 c1' HW1
  refine (callsIn_wide.2 HTK.out).mono ?_
  rintro _ W2 ⟨rfl, hb2⟩
  have HB2 := vl hb2
  have HK2 := vl (HK1.out.below hb2 (by rw [HS1.out]; exact Nat.le_refl _))
  have HM2 := vl (HM1.out.below (Nat.le_refl _) hb2)
  obtain ⟨c0, -, -, -, -, -, -, -⟩ := HK2.out.cells
  have HCM := vl (ocame_any HM2.out HI.out ht1 hl1)
  unfold pptr at HCM
  clear hb2 HTK HK1
  gi_wp2_with fail
  refine ⟨trivial, ?_⟩
  refine (callsIn_wide.2 HCM.out).mono ?_
  rintro _ W3 ⟨v, T, rfl, hc1, hc2, hc3, hc4, hc5⟩
  have HBT : Vl (ByTurn S T) := vl ⟨hc1, hc2, hc3⟩
  have hs2 : W1.heap.size ≤ W2.heap.size := HB2.out.size
  have hs3 : W2.heap.size ≤ W3.heap.size := hc5.size
  have HK3 := vl (HK2.out.below hc5 (by have := HS1.out; omega))
  have HM3 := vl (HM2.out.below (Nat.le_refl _) hc5)
  have HB3 : Vl (Below w.heap.size w W3) := vl ((HB1.out.trans (HB2.out.mono HB1.out.size)).trans (hc5.mono (by have := HS1.out; omega)))
  have HR3 := vl hc4
  have hvs := irow_shape hc4
  have hvl := irow_lt hc4
  have HVL := vl hvl
  clear hc1 hc2 hc3 hc4 hc5 HCM c0 HK2 HM2 hvl
  have HIB := vl (iback_any v W3 (by obtain ⟨a, c, e⟩ := hvs; exact ⟨a, _, c, e⟩))
  gi_wp2_with fail
  refine ⟨trivial, ?_⟩
  refine (callsIn_wide.2 HIB.out).mono ?_
  rintro _ V ⟨rfl, hV⟩
  have hs4 : V.heap.size = W3.heap.size + 1 := by rw [hV, World.size_alloc]
  have hb4 : Below W3.heap.size W3 V := by rw [hV]; exact (Below.refl _ W3).alloc (Nat.le_refl _) _
  have HBX : Vl (Boxed V W3.heap.size 35 v) := vl (by rw [hV]; exact Boxed.new W3 35 _)
  have hs1 := HS1.out
  have HKV := vl (HK3.out.below hb4 (by omega))
  have HMV := vl (HM3.out.below (Nat.le_refl _) hb4)
  have HBV : Vl (Below w.heap.size w V) := vl (HB3.out.trans (hb4.mono (by omega)))
  have HRV : Vl (IRow V v W2.heap.size (T.map Lk.id)) := vl (irow_same HR3.out (fun k hk => hb4.block k (HVL.out k hk).2))
  have HSV := vl hs4
  have HGV : Vl (∀ k, v.ownBlock = some k → k < V.heap.size) := vl (fun k hk => by have := (HVL.out k hk).2; omega)
  obtain ⟨bx, hbx⟩ : ∃ bx, W3.heap.size = bx := ⟨_, rfl⟩
  rw [hbx] at HBX HSV HVL ⊢
  have hbn : w.heap.size + 5 ≤ bx := by omega
  have HT8 : Vl (T.length ≤ 8) := vl (by
    have h1 := HBT.out.len HI.out
    have h2 := nB_nI S.L
    have h3 := HI.out.len
    have h4 := HI.out.many.2
    omega)
  have h00 : TgI V bx T to (T.map Lk.id) [] V := ⟨(fun x hx => by cases hx), Tn.refl _ _⟩
  clear hV hb4 hs4 hs1 HR3 HB3 HM3 HK3 HIB hbx hs2 hs3
  gi_wp2_with fail
  refine wpIn_range_bx2 (N := (T.map Lk.id).length + 1) (K := fun k => k = bx ∨ v.ownBlock = some k) rfl (by decide) (gf := 32) (lb := #[.pointer (some ⟨bx, 0, none⟩)]) rfl trivial (enters_of Tryd.func32 (by kernel_rfl) rfl)
    (iback_stops 8 (by decide) v (T.map Lk.id) bx W2.heap.size V HBX.out HRV.out HGV.out (by rw [List.length_map]; have := HT8.out; omega)) (by have := HSV.out; omega) (fun k hk => by
      rcases hk with e | e
      · have := HSV.out; omega
      · exact HGV.out k e) (Below.refl _ _) (fun _ => rfl)
    (TgI V bx T to (T.map Lk.id)) (TgX V pb bb ib bx w.heap.size S T to (T.map Lk.id)) (fun pre u W h => ⟨h.1, h.2.trans' (tn_set rfl)⟩) ?hI ?hIx h00 ?a1 ?assign ?body ?done ?stop
  case assign =>
    intro l x W K hK
    dsimp only [bkV]
    gi_wp2
    exact hK
  case hI =>
    rintro s X Y row ⟨h1, h2⟩ hgr hr
    exact ⟨h1, ⟨hgr.os.trans h2.os, hgr.tape.trans h2.tape, hgr.output.trans h2.output, Nat.le_trans h2.size hgr.size, fun k hk hn => (hgr.block k (Nat.lt_of_lt_of_le hk h2.size) (fun e => by have := (hr k e.symm).1; omega)).trans (h2.block k hk hn)⟩⟩
  case hIx =>
    rintro c s X Y row ⟨hc, p0, x, e1, e2, e3, e4, e5, e6, ⟨DB', DI', e7⟩, e8⟩ hgr hr
    have hsame : ∀ k, k < V.heap.size → Y.heap[k]? = X.heap[k]? := fun k hk => hgr.block k (Nat.lt_of_lt_of_le hk e8.size) (fun e => by have := (hr k e.symm).1; omega)
    have hlt := HMV.out.lt
    have hkl := HKV.out.lt
    exact ⟨hc, p0, x, e1, e2, e3, (hsame _ (by omega)).trans e4, (hsame _ (by omega)).trans e5, (hsame _ (by omega)).trans e6, ⟨DB', DI', e7.kept (hsame _ hlt.1) (hsame _ hlt.2.1) (hsame _ hlt.2.2)⟩, ⟨hgr.os.trans e8.os, hgr.tape.trans e8.tape, hgr.output.trans e8.output, Nat.le_trans e8.size hgr.size, fun k hk hn => (hsame k hk).trans (e8.block k hk hn)⟩⟩
  case body =>
    as_aux_lemma =>
      rintro l pre x W ⟨hno, hTn⟩ hlen
      have hlt := HMV.out.lt
      have hkl := HKV.out.lt
      have hsv := HSV.out
      have hpw := HM.out.lt
      have hKW : TkB W w.heap.size pb to := HKV.out.same (fun k h1 h2 => hTn.block k (by omega) (fun e => by have e' : k = bx := e; omega))
      have hMW : PoM W pb bb ib DB DI S := HMV.out.kept (hTn.block _ hlt.1 (fun e => by have e' : pb = bx := e; omega)) (hTn.block _ hlt.2.1 (fun e => by have e' : bb = bx := e; omega)) (hTn.block _ hlt.2.2 (fun e => by have e' : ib = bx := e; omega))
      have hxT : x.1.1 < T.length := Nat.lt_of_lt_of_eq x.2.1 (List.length_map _)
      obtain ⟨o, ho⟩ : ∃ o, T.getD x.1.1 lk0 = o := ⟨_, rfl⟩
      have hxo : x.1.2 = o.id := by rw [x.2.2, ids_at hxT, ho]
      obtain ⟨hoL, hoB⟩ := HBT.out.at_ hxT
      rw [ho] at hoL hoB
      have hid : Ix64 o.id := by have := HI.out.each o hoL; unfold Ix64; omega
      have hfd := fld_to
      obtain ⟨c0, c1, -, -, -, -, -, -⟩ := hKW.cells
      obtain ⟨-, -, -, -, -, c5, -⟩ := hMW.cells
      have lk : ∀ n, (Instr.lookup 54 (.map (some ib)) (.int .i64 o.id) false).run Tryd.prog (W.drewN n) = .ok (.agg #[.string o.to, .int .i64 o.turn, .int .i64 o.at_]) (W.drewN n) := fun n => look_v (own_block (w' := W.drewN n) hMW.ownI rfl) hMW.relI hid (fI_some (lk_mem HI.out.nodup hoL) hoB)
      have HKW := vl hKW
      have HMW := vl hMW
      have HOL := vl hoL
      have HOB := vl hoB
      have HO := vl ho
      have HID := vl hid
      have HNO := vl hno
      have HTN := vl hTn
      have HPW := vl hpw
      have HLV := vl hlt
      have HKL := vl hkl
      rw [hxo]
      clear hKW hMW hoL hoB ho hid hno hTn hpw hlt hkl hsv hxT hlen
      by_cases he : o.to = to
      · have he2 : (o.to.toList == to.toList) = true := by rw [bq]; exact decide_eq_true he
        have he3 : o.to.toList = to.toList := by simpa using he2
        gi_wp2_with fail
        refine wpIn_mono ?_ NoPanic.imp
        refine wpIn_region_held (S := (fun (w' : World) => ((w'.cell? ⟨w.heap.size, 0, none⟩ = some (.pointer (some ⟨pb, 0, none⟩)) ∧ w'.cell? ⟨w.heap.size + 1, 0, none⟩ = some (.string to)) ∧ w'.cell? ⟨pb, 5, none⟩ = some (.map (some ib))) ∧ (Instr.lookup 54 (.map (some ib)) (.int .i64 o.id) false).run Tryd.prog w' = .ok (.agg #[.string o.to, .int .i64 o.turn, .int .i64 o.at_]) w')) rfl (by rintro ⟨a, w, h⟩; exact h) (by kernel_rfl) ⟨⟨⟨c0, c1⟩, c5⟩, lk 1⟩ (fun hHeld => ?_)
        refine wpAnyH_take (i := 0) (oi := { dst := some 20, op := Op.load 23 (Operand.tmp 2), type := 23, pos := "pool.go:44", after := #[], guard := none }) (v := .pointer (some ⟨pb, 0, none⟩)) rfl (by kernel_rfl) (by kernel_rfl) (by kernel_rfl) (fun _ _ _ h => h) (Or.inl ⟨by rfl, (by intro w hSw; (try dsimp only at hSw); go_simp)⟩) hHeld ?_
        try simp only [Act.put, List.setIfInBounds_toArray, List.set_cons_zero, List.set_cons_succ]
        refine wpAnyH_take (i := 1) (oi := { dst := some 21, op := Op.nilCheck (Operand.tmp 20), type := 0, pos := "pool.go:44", after := #[{ on := 0, ground := Ground.data }], guard := none }) (v := .pointer (some ⟨pb, 0, none⟩)) rfl (by kernel_rfl) (by kernel_rfl) (by kernel_rfl) (fun _ _ _ h => h) (Or.inl ⟨by rfl, (by intro w hSw; (try dsimp only at hSw); go_simp)⟩) hHeld ?_
        try simp only [Act.put, List.setIfInBounds_toArray, List.set_cons_zero, List.set_cons_succ]
        refine wpAnyH_take (i := 2) (oi := { dst := some 22, op := Op.fieldAddr 56 (Operand.tmp 21) 5, type := 0, pos := "pool.go:44", after := #[{ on := 1, ground := Ground.data }], guard := none }) (v := .pointer (some ⟨pb, 5, none⟩)) rfl (by kernel_rfl) (by kernel_rfl) (by kernel_rfl) (fun _ _ _ h => h) (Or.inl ⟨by rfl, (by intro w hSw; (try dsimp only at hSw); go_simp)⟩) hHeld ?_
        try simp only [Act.put, List.setIfInBounds_toArray, List.set_cons_zero, List.set_cons_succ]
        refine wpAnyH_take (i := 3) (oi := { dst := some 23, op := Op.load 54 (Operand.tmp 22), type := 54, pos := "pool.go:44", after := #[{ on := 2, ground := Ground.data }], guard := none }) (v := .map (some ib)) rfl (by kernel_rfl) (by kernel_rfl) (by kernel_rfl) (fun _ _ _ h => h) (Or.inl ⟨by rfl, (by intro w hSw; (try dsimp only at hSw); go_simp)⟩) hHeld ?_
        try simp only [Act.put, List.setIfInBounds_toArray, List.set_cons_zero, List.set_cons_succ]
        refine wpAnyH_take (i := 4) (oi := { dst := some 24, op := Op.move (Operand.tmp 9), type := 3, pos := "pool.go:44", after := #[], guard := none }) (v := .int .i64 o.id) rfl (by kernel_rfl) (by kernel_rfl) (by kernel_rfl) (fun _ _ _ h => h) (Or.inl ⟨by rfl, (by intro w hSw; (try dsimp only at hSw); go_simp)⟩) hHeld ?_
        try simp only [Act.put, List.setIfInBounds_toArray, List.set_cons_zero, List.set_cons_succ]
        refine wpAnyH_take (i := 5) (oi := { dst := some 25, op := Op.lookup 54 (Operand.tmp 23) (Operand.tmp 24) false, type := 65, pos := "pool.go:44", after := #[{ on := 3, ground := Ground.data }, { on := 4, ground := Ground.data }], guard := none }) (v := .agg #[.string o.to, .int .i64 o.turn, .int .i64 o.at_]) rfl (by kernel_rfl) (by kernel_rfl) (by kernel_rfl) (fun _ _ _ h => h) (Or.inl ⟨by rfl, (by intro w hSw; (try dsimp only at hSw); go_simp)⟩) hHeld ?_
        try simp only [Act.put, List.setIfInBounds_toArray, List.set_cons_zero, List.set_cons_succ]
        refine wpAnyH_take (i := 6) (oi := { dst := some 26, op := Op.field 65 (Operand.tmp 25) 0, type := 9, pos := "pool.go:44", after := #[{ on := 5, ground := Ground.data }], guard := none }) (v := .string o.to) rfl (by kernel_rfl) (by kernel_rfl) (by kernel_rfl) (fun _ _ _ h => h) (Or.inl ⟨by rfl, (by intro w hSw; (try dsimp only at hSw); go_simp)⟩) hHeld ?_
        try simp only [Act.put, List.setIfInBounds_toArray, List.set_cons_zero, List.set_cons_succ]
        refine wpAnyH_take (i := 7) (oi := { dst := some 27, op := Op.load 9 (Operand.tmp 3), type := 9, pos := "pool.go:44", after := #[], guard := none }) (v := .string to) rfl (by kernel_rfl) (by kernel_rfl) (by kernel_rfl) (fun _ _ _ h => h) (Or.inl ⟨by rfl, (by intro w hSw; (try dsimp only at hSw); go_simp)⟩) hHeld ?_
        try simp only [Act.put, List.setIfInBounds_toArray, List.set_cons_zero, List.set_cons_succ]
        refine wpAnyH_take (i := 8) (oi := { dst := some 28, op := Op.binOp BinOp.eql 9 (Operand.tmp 26) (Operand.tmp 27) 9, type := 4, pos := "pool.go:44", after := #[{ on := 6, ground := Ground.data }, { on := 7, ground := Ground.data }], guard := none }) (v := .bool true) rfl (by kernel_rfl) (by kernel_rfl) (by kernel_rfl) (fun _ _ _ h => h) (Or.inl ⟨by rfl, (by intro w hSw; (try dsimp only at hSw); go_simp)⟩) hHeld ?_
        try simp only [Act.put, List.setIfInBounds_toArray, List.set_cons_zero, List.set_cons_succ]
        refine wpAnyH_done (by kernel_rfl) (NoPanic.normal ?_) _
        clear hHeld
        have c0d : W.drew.cell? ⟨w.heap.size, 0, none⟩ = some (.pointer (some ⟨pb, 0, none⟩)) := c0
        have c5d : W.drew.cell? ⟨pb, 5, none⟩ = some (.map (some ib)) := c5
        have HOI : Vl (W.drew.ownsMap Tryd.prog 3 lkElem ib (nI S.L) DI) := vl (own_block HMW.out.ownI rfl)
        have HKY := vl (okey64 HID.out)
        clear lk hfd c0 c1 c5
        gi_wp2_with (gi_at_delete; refine wpListIn_delete_own _ rfl _ _ 54 3 rfl 65 klaw Tryd.underlying54 _ ib (nI S.L) DI rfl HOI.out _ _ rfl HKY.out ?_; intro w2 hown2 hturn2; have HO2 := vl hown2; have HG2 := vl hturn2.grown; clear hown2 hturn2 c0d c5d)
        have hlt := HLV.out
        have hkl := HKL.out
        have hpw := HPW.out
        have hwl := HKW.out.lt
        have e2 : ∀ k, k < W.heap.size → k ≠ ib → w2.heap[k]? = W.heap[k]? := fun k hk h1 => grown_old (w := W.drew) HG2.out hk h1
        have hK2 : TkB w2 w.heap.size pb to := HKW.out.same (fun k h1 h2 => e2 k (by omega) (by omega))
        obtain ⟨c0, c1, c2, c3, c4, f2, f3, f4⟩ := hK2.cells
        have b2 := (e2 pb HMW.out.lt.1 HMW.out.n2.symm).trans HMW.out.blk
        have c4m : w2.cell? ⟨pb, 4, none⟩ = some (.map (some bb)) := by simp only [World.cell?, b2]; rfl
        have hnl : nB S.L ≤ 1000 := by
          have h1 : nB S.L ≤ S.L.length := by unfold nB busyL; exact List.length_filter_le _ _
          have := HI.out.len
          have := HI.out.many.2
          omega
        obtain ⟨w4, hst, ho4, -, hg4⟩ := map_put (own_block (w' := w2.drew) HMW.out.ownB (e2 bb HMW.out.lt.2.1 HMW.out.n3)) HMW.out.relB HID.out hnl (o.to, 0, 0)
        have HFIN := vl (tk_hit (b := bx) (B := V.heap.size) HMW.out HI.out HKW.out HOL.out HOB.out hpw.1 hpw.2.1 hpw.2.2 (by have := HKV.out.lt; omega) HO2.out HG2.out ho4 hg4)
        have hK4 : TkB w4 w.heap.size pb to := hK2.same (fun k h1 h2 => grown_old (w := w2.drew) hg4 (by have := hK2.lt; show k < w2.heap.size; omega) (by omega))
        obtain ⟨d0, d1, d2, d3, d4, g2, g3, g4⟩ := hK4.cells
        have d4m : w4.cell? ⟨pb, 4, none⟩ = some (.map (some bb)) := by
          have e := (grown_old (w := w2.drew) hg4 (by show pb < w2.heap.size; have := hK2.lt; omega) HMW.out.n1.symm).trans b2
          simp only [World.cell?, e]
          rfl
        unfold lkV at hst
        rw [he] at hst
        have HST := vl hst
        clear hlt hkl hpw hwl e2 hK2 b2 hnl ho4 hg4 hK4 c2 c3 c4 f2 f3 f4 hst
        gi_wp2_with fail
        refine wpIn_mono ?_ NoPanic.imp
        refine wpIn_region_held (S := (fun (w' : World) => (w'.cell? ⟨w.heap.size, 0, none⟩ = some (.pointer (some ⟨pb, 0, none⟩)) ∧ w'.cell? ⟨w.heap.size + 1, 0, none⟩ = some (.string to)) ∧ w'.cell? ⟨pb, 4, none⟩ = some (.map (some bb)))) rfl (by rintro ⟨a, w, h⟩; exact h) (by kernel_rfl) ⟨⟨c0, c1⟩, c4m⟩ (fun hHeld => ?_)
        refine wpAnyH_take (i := 0) (oi := { dst := some 34, op := Op.load 23 (Operand.tmp 2), type := 23, pos := "pool.go:46", after := #[], guard := none }) (v := .pointer (some ⟨pb, 0, none⟩)) rfl (by kernel_rfl) (by kernel_rfl) (by kernel_rfl) (fun _ _ _ h => h) (Or.inl ⟨by rfl, (by intro w hSw; (try dsimp only at hSw); go_simp)⟩) hHeld ?_
        try simp only [Act.put, List.setIfInBounds_toArray, List.set_cons_zero, List.set_cons_succ]
        refine wpAnyH_take (i := 1) (oi := { dst := some 35, op := Op.nilCheck (Operand.tmp 34), type := 0, pos := "pool.go:46", after := #[{ on := 0, ground := Ground.data }], guard := none }) (v := .pointer (some ⟨pb, 0, none⟩)) rfl (by kernel_rfl) (by kernel_rfl) (by kernel_rfl) (fun _ _ _ h => h) (Or.inl ⟨by rfl, (by intro w hSw; (try dsimp only at hSw); go_simp)⟩) hHeld ?_
        try simp only [Act.put, List.setIfInBounds_toArray, List.set_cons_zero, List.set_cons_succ]
        refine wpAnyH_take (i := 2) (oi := { dst := some 36, op := Op.fieldAddr 56 (Operand.tmp 35) 4, type := 0, pos := "pool.go:46", after := #[{ on := 1, ground := Ground.data }], guard := none }) (v := .pointer (some ⟨pb, 4, none⟩)) rfl (by kernel_rfl) (by kernel_rfl) (by kernel_rfl) (fun _ _ _ h => h) (Or.inl ⟨by rfl, (by intro w hSw; (try dsimp only at hSw); go_simp)⟩) hHeld ?_
        try simp only [Act.put, List.setIfInBounds_toArray, List.set_cons_zero, List.set_cons_succ]
        refine wpAnyH_take (i := 3) (oi := { dst := some 37, op := Op.load 54 (Operand.tmp 36), type := 54, pos := "pool.go:46", after := #[{ on := 2, ground := Ground.data }], guard := none }) (v := .map (some bb)) rfl (by kernel_rfl) (by kernel_rfl) (by kernel_rfl) (fun _ _ _ h => h) (Or.inl ⟨by rfl, (by intro w hSw; (try dsimp only at hSw); go_simp)⟩) hHeld ?_
        try simp only [Act.put, List.setIfInBounds_toArray, List.set_cons_zero, List.set_cons_succ]
        refine wpAnyH_take (i := 4) (oi := { dst := some 38, op := Op.move (Operand.tmp 9), type := 3, pos := "pool.go:46", after := #[], guard := none }) (v := .int .i64 o.id) rfl (by kernel_rfl) (by kernel_rfl) (by kernel_rfl) (fun _ _ _ h => h) (Or.inl ⟨by rfl, (by intro w hSw; (try dsimp only at hSw); go_simp)⟩) hHeld ?_
        try simp only [Act.put, List.setIfInBounds_toArray, List.set_cons_zero, List.set_cons_succ]
        refine wpAnyH_take (i := 5) (oi := { dst := some 39, op := Op.load 9 (Operand.tmp 3), type := 9, pos := "pool.go:46", after := #[], guard := none }) (v := .string to) rfl (by kernel_rfl) (by kernel_rfl) (by kernel_rfl) (fun _ _ _ h => h) (Or.inl ⟨by rfl, (by intro w hSw; (try dsimp only at hSw); go_simp)⟩) hHeld ?_
        try simp only [Act.put, List.setIfInBounds_toArray, List.set_cons_zero, List.set_cons_succ]
        refine wpAnyH_take (i := 6) (oi := { dst := some 40, op := Op.build 65 #[(0, Operand.tmp 39)], type := 65, pos := "pool.go:46", after := #[{ on := 5, ground := Ground.data }], guard := none }) (v := .agg #[.string to, .int .i64 0, .int .i64 0]) rfl (by kernel_rfl) (by kernel_rfl) (by kernel_rfl) (fun _ _ _ h => h) (Or.inl ⟨by rfl, (by intro w hSw; (try dsimp only at hSw); go_simp)⟩) hHeld ?_
        try simp only [Act.put, List.setIfInBounds_toArray, List.set_cons_zero, List.set_cons_succ]
        refine wpAnyH_ready (rs := [7]) (by kernel_rfl) (by simp) ?_
        refine AllReadyH.cons (o := { dst := none, op := Op.mapUpdate 54 (Operand.tmp 37) (Operand.tmp 38) (Operand.tmp 40), type := 0, pos := "pool.go:46", after := #[{ on := 3, ground := Ground.data }, { on := 4, ground := Ground.data }, { on := 6, ground := Ground.data }, { on := 0, ground := Ground.phase }, { on := 1, ground := Ground.phase }, { on := 2, ground := Ground.phase }, { on := 3, ground := Ground.phase }, { on := 4, ground := Ground.phase }, { on := 5, ground := Ground.phase }, { on := 6, ground := Ground.phase }], guard := none }) rfl (fun K hK => ?_) AllReadyH.nil
        have hst := HST.out
        go_simp
        refine hK.out _ _ ⟨⟨d0, d1⟩, d4m⟩ (fun hHeld => ?_)
        clear hK K hst HST d0 d1 d4m
        try simp only [Act.put, List.setIfInBounds_toArray, List.set_cons_zero, List.set_cons_succ]
        refine wpAnyH_done (by kernel_rfl) (NoPanic.normal ?_) _
        clear hHeld c0 c1 c4m
        gi_wp2_with fail
        obtain ⟨r2, r3, r4, rM, rT, rK⟩ := HFIN.out
        have hT2 : Tn (Pl3 pb bb ib bx w.heap.size) V W := ⟨HTN.out.os, HTN.out.tape, HTN.out.output, HTN.out.size, fun k hk hn => HTN.out.block k hk (fun e => hn (Or.inr (Or.inl e)))⟩
        refine ⟨rK, rfl, pre, x, rfl, HNO.out, ?_, ?_, r3, r4, ?_, hT2.trans' rT⟩
        · unfold isAt
          rw [HO.out]
          exact he
        · rw [HO.out]; exact r2
        · rw [HO.out]; exact rM
      · have he2 : (o.to.toList == to.toList) = false := by rw [bq]; exact decide_eq_false he
        have he3 : ¬ o.to.toList = to.toList := by simpa using he2
        gi_wp2_with fail
        refine wpIn_mono ?_ NoPanic.imp
        refine wpIn_region_held (S := (fun (w' : World) => ((w'.cell? ⟨w.heap.size, 0, none⟩ = some (.pointer (some ⟨pb, 0, none⟩)) ∧ w'.cell? ⟨w.heap.size + 1, 0, none⟩ = some (.string to)) ∧ w'.cell? ⟨pb, 5, none⟩ = some (.map (some ib))) ∧ (Instr.lookup 54 (.map (some ib)) (.int .i64 o.id) false).run Tryd.prog w' = .ok (.agg #[.string o.to, .int .i64 o.turn, .int .i64 o.at_]) w')) rfl (by rintro ⟨a, w, h⟩; exact h) (by kernel_rfl) ⟨⟨⟨c0, c1⟩, c5⟩, lk 1⟩ (fun hHeld => ?_)
        refine wpAnyH_take (i := 0) (oi := { dst := some 20, op := Op.load 23 (Operand.tmp 2), type := 23, pos := "pool.go:44", after := #[], guard := none }) (v := .pointer (some ⟨pb, 0, none⟩)) rfl (by kernel_rfl) (by kernel_rfl) (by kernel_rfl) (fun _ _ _ h => h) (Or.inl ⟨by rfl, (by intro w hSw; (try dsimp only at hSw); go_simp)⟩) hHeld ?_
        try simp only [Act.put, List.setIfInBounds_toArray, List.set_cons_zero, List.set_cons_succ]
        refine wpAnyH_take (i := 1) (oi := { dst := some 21, op := Op.nilCheck (Operand.tmp 20), type := 0, pos := "pool.go:44", after := #[{ on := 0, ground := Ground.data }], guard := none }) (v := .pointer (some ⟨pb, 0, none⟩)) rfl (by kernel_rfl) (by kernel_rfl) (by kernel_rfl) (fun _ _ _ h => h) (Or.inl ⟨by rfl, (by intro w hSw; (try dsimp only at hSw); go_simp)⟩) hHeld ?_
        try simp only [Act.put, List.setIfInBounds_toArray, List.set_cons_zero, List.set_cons_succ]
        refine wpAnyH_take (i := 2) (oi := { dst := some 22, op := Op.fieldAddr 56 (Operand.tmp 21) 5, type := 0, pos := "pool.go:44", after := #[{ on := 1, ground := Ground.data }], guard := none }) (v := .pointer (some ⟨pb, 5, none⟩)) rfl (by kernel_rfl) (by kernel_rfl) (by kernel_rfl) (fun _ _ _ h => h) (Or.inl ⟨by rfl, (by intro w hSw; (try dsimp only at hSw); go_simp)⟩) hHeld ?_
        try simp only [Act.put, List.setIfInBounds_toArray, List.set_cons_zero, List.set_cons_succ]
        refine wpAnyH_take (i := 3) (oi := { dst := some 23, op := Op.load 54 (Operand.tmp 22), type := 54, pos := "pool.go:44", after := #[{ on := 2, ground := Ground.data }], guard := none }) (v := .map (some ib)) rfl (by kernel_rfl) (by kernel_rfl) (by kernel_rfl) (fun _ _ _ h => h) (Or.inl ⟨by rfl, (by intro w hSw; (try dsimp only at hSw); go_simp)⟩) hHeld ?_
        try simp only [Act.put, List.setIfInBounds_toArray, List.set_cons_zero, List.set_cons_succ]
        refine wpAnyH_take (i := 4) (oi := { dst := some 24, op := Op.move (Operand.tmp 9), type := 3, pos := "pool.go:44", after := #[], guard := none }) (v := .int .i64 o.id) rfl (by kernel_rfl) (by kernel_rfl) (by kernel_rfl) (fun _ _ _ h => h) (Or.inl ⟨by rfl, (by intro w hSw; (try dsimp only at hSw); go_simp)⟩) hHeld ?_
        try simp only [Act.put, List.setIfInBounds_toArray, List.set_cons_zero, List.set_cons_succ]
        refine wpAnyH_take (i := 5) (oi := { dst := some 25, op := Op.lookup 54 (Operand.tmp 23) (Operand.tmp 24) false, type := 65, pos := "pool.go:44", after := #[{ on := 3, ground := Ground.data }, { on := 4, ground := Ground.data }], guard := none }) (v := .agg #[.string o.to, .int .i64 o.turn, .int .i64 o.at_]) rfl (by kernel_rfl) (by kernel_rfl) (by kernel_rfl) (fun _ _ _ h => h) (Or.inl ⟨by rfl, (by intro w hSw; (try dsimp only at hSw); go_simp)⟩) hHeld ?_
        try simp only [Act.put, List.setIfInBounds_toArray, List.set_cons_zero, List.set_cons_succ]
        refine wpAnyH_take (i := 6) (oi := { dst := some 26, op := Op.field 65 (Operand.tmp 25) 0, type := 9, pos := "pool.go:44", after := #[{ on := 5, ground := Ground.data }], guard := none }) (v := .string o.to) rfl (by kernel_rfl) (by kernel_rfl) (by kernel_rfl) (fun _ _ _ h => h) (Or.inl ⟨by rfl, (by intro w hSw; (try dsimp only at hSw); go_simp)⟩) hHeld ?_
        try simp only [Act.put, List.setIfInBounds_toArray, List.set_cons_zero, List.set_cons_succ]
        refine wpAnyH_take (i := 7) (oi := { dst := some 27, op := Op.load 9 (Operand.tmp 3), type := 9, pos := "pool.go:44", after := #[], guard := none }) (v := .string to) rfl (by kernel_rfl) (by kernel_rfl) (by kernel_rfl) (fun _ _ _ h => h) (Or.inl ⟨by rfl, (by intro w hSw; (try dsimp only at hSw); go_simp)⟩) hHeld ?_
        try simp only [Act.put, List.setIfInBounds_toArray, List.set_cons_zero, List.set_cons_succ]
        refine wpAnyH_take (i := 8) (oi := { dst := some 28, op := Op.binOp BinOp.eql 9 (Operand.tmp 26) (Operand.tmp 27) 9, type := 4, pos := "pool.go:44", after := #[{ on := 6, ground := Ground.data }, { on := 7, ground := Ground.data }], guard := none }) (v := .bool false) rfl (by kernel_rfl) (by kernel_rfl) (by kernel_rfl) (fun _ _ _ h => h) (Or.inl ⟨by rfl, (by intro w hSw; (try dsimp only at hSw); go_simp)⟩) hHeld ?_
        try simp only [Act.put, List.setIfInBounds_toArray, List.set_cons_zero, List.set_cons_succ]
        refine wpAnyH_done (by kernel_rfl) (NoPanic.normal ?_) _
        clear hHeld
        gi_wp2_with fail
        have hkk : ∀ k, (k = bx ∨ v.ownBlock = some k) → W.drew.heap[k]? = W.heap[k]? := fun k _ => rfl
        refine ⟨(KeepsOthers.drew W).from _, hkk, fun y hy => ?_, HTN.out.trans' (Tn.of_below ((Below.refl _ W).drew))⟩
        rcases List.mem_append.1 hy with h | h
        · exact HNO.out y h
        · rw [List.mem_singleton.1 h]
          unfold isAt
          rw [HO.out]
          exact he
  case done =>
    as_aux_lemma =>
      rintro Db xs X hD ⟨hbk, hxl⟩ ⟨hno, hTn⟩ hX
      have HNB := vl (tk_none HBT.out hbk hxl hno)
      have hlt := HMV.out.lt
      have hkl := HKV.out.lt
      have hsv := HSV.out
      have hpw := HM.out.lt
      have hKX : TkB X w.heap.size pb to := HKV.out.same (fun k h1 h2 => hTn.block k (by omega) (fun e => by have e' : k = bx := e; omega))
      have hMX : PoM X pb bb ib DB DI S := HMV.out.kept (hTn.block _ hlt.1 (fun e => by have e' : pb = bx := e; omega)) (hTn.block _ hlt.2.1 (fun e => by have e' : bb = bx := e; omega)) (hTn.block _ hlt.2.2 (fun e => by have e' : ib = bx := e; omega))
      obtain ⟨c0, c1, c2, c3, c4, f2, f3, f4⟩ := hKX.cells
      obtain ⟨p0, p1, p2, p3, p4, p5, pf⟩ := hMX.cells
      have hlB : (Builtin.len_ #[54] 3 #[.map (some bb)]).run Tryd.prog X.drew = .ok (.int .i64 (nB S.L : Nat)) X.drew := by
        have := (own_block (w' := X.drew) hMX.ownB rfl).len Tryd.underlying54 3
        rwa [hMX.relB.size] at this
      have HKX := vl hKX
      have HMX := vl hMX
      have HTN := vl hTn
      have HX := vl hX
      have HD := vl hD
      have HPW := vl hpw
      have HLV := vl hlt
      have HKL := vl hkl
      obtain ⟨nb, hnb⟩ : ∃ nb, nB S.L = nb := ⟨_, rfl⟩
      rw [hnb] at hlB
      have HNBB := vl hnb
      have hnb8 : nb ≤ 8 := by
        have h1 : nB S.L ≤ S.L.length := by unfold nB busyL; exact List.length_filter_le _ _
        have := HI.out.len
        have := HI.out.many.2
        omega
      have hm1 := HI.out.many.1
      have hm8 := HI.out.many.2
      clear hKX hMX hTn hX hD hpw hlt hkl hsv hnb hbk hxl hno h00
      by_cases hf : S.many ≤ (nb : Int)
      · gi_wp2_with fail
        refine wpIn_wide.2 ?_
        go_region
        gi_wp2_with fail
        obtain ⟨z1, z2, z3, z4, z5, z6⟩ := tk_out HKX.out (Db := Db) (by have := HD.out; have := HSV.out; omega) HX.out (.int .i64 0) (.bool false) (.iface 53 (.int .i64 4))
        obtain ⟨Z, hZ⟩ : ∃ Z, ((X.setCell ⟨w.heap.size + 1 + 1, 0, none⟩ (.int .i64 0)).setCell ⟨w.heap.size + 1 + 1 + 1, 0, none⟩ (.bool false)).setCell ⟨w.heap.size + 1 + 1 + 1 + 1, 0, none⟩ (.iface 53 (.int .i64 4)) = Z := ⟨_, rfl⟩
        rw [hZ] at z1 z2 z3 z4 z5 z6 ⊢
        refine ⟨by simp, .inl ⟨_, _, rfl, run_takeDeferred (b := Db) (ds := []) (w := Z.drew) z1, ?_⟩⟩
        have y2 : (Z.drew.putObj Db (.deferred none)).cell? ⟨w.heap.size + 1 + 1, 0, none⟩ = some (.int .i64 0) := z2
        have y3 : (Z.drew.putObj Db (.deferred none)).cell? ⟨w.heap.size + 1 + 1 + 1, 0, none⟩ = some (.bool false) := z3
        have y4 : (Z.drew.putObj Db (.deferred none)).cell? ⟨w.heap.size + 1 + 1 + 1 + 1, 0, none⟩ = some (.iface 53 (.int .i64 4)) := z4
        refine ⟨.tuple #[.int .i64 0, .bool false, .iface 53 (.int .i64 4)], by simp [results, Tryd.results8, go_sem, y2, y3, y4], ?_⟩
        unfold OTakeE
        rw [take_full HTT.out HI.out HNB.out (by rw [HNBB.out]; exact hf)]
        have hpw := HPW.out
        refine ⟨rfl, ⟨DB, DI, HMX.out.kept (w' := Z.drew.putObj Db (.deferred none)) (z5 pb hpw.1) (z5 bb hpw.2.1) (z5 ib hpw.2.2)⟩, ?_⟩
        refine tn_out HBV.out rfl (HTN.out.wider (fun i e => Or.inr (by have e' : i = bx := e; omega)) |>.trans' ?_)
        exact ⟨z6.os, z6.tape, z6.output, z6.size, fun k hk hn => z6.block k hk (fun e => hn (Or.inr e))⟩
      · have hvl : T.length = nI S.L := HBT.out.len HI.out
        obtain ⟨nt, hnt⟩ : ∃ nt, T.length = nt := ⟨_, rfl⟩
        rw [hnt] at hvl
        have HNT := vl hnt
        have HVT := vl hvl
        have hnt8 : nt ≤ 8 := by rw [← hnt]; exact HT8.out
        have hRX : IRow X v W2.heap.size (T.map Lk.id) := irow_same HRV.out (fun k hk => HTN.out.block k (HGV.out k hk) (fun e => by have e' : k = bx := e; have := (HVL.out k hk).2; omega))
        have hlB2 : ∀ n, (Builtin.len_ #[54] 3 #[.map (some bb)]).run Tryd.prog (X.drew.drewN n) = .ok (.int .i64 (nb : Nat)) (X.drew.drewN n) := fun n => by
          have := (own_block (w' := X.drew.drewN n) HMX.out.ownB rfl).len Tryd.underlying54 3
          rwa [HMX.out.relB.size, HNBB.out] at this
        have hwr : IntKind.i64.wrap ((nb : Int) + (nt : Int)) = (nb : Int) + (nt : Int) := by rw [IntKind.wrap_i64]; omega
        by_cases hg : S.many ≤ (nb : Int) + (nt : Int)
        · have hpos : 0 < nt := by omega
          obtain ⟨g, vc, rfl, hg1, hg2, hg3, hg4, hg5⟩ : ∃ g c, v = .slice (some ⟨g, 0, none⟩) nt c ∧ W2.heap.size ≤ g ∧ g < X.heap.size ∧ nt ≤ c ∧ c ≤ maxLen ∧ ∀ t, t < nt → X.cell? ⟨g, t, none⟩ = some (.int .i64 ((T.map Lk.id).getD t 0)) := by
            rcases hRX with ⟨_, e⟩ | h
            · have : (T.map Lk.id).length = 0 := by rw [e]; rfl
              rw [List.length_map] at this
              omega
            · rw [List.length_map, hnt] at h; exact h
          have cid := hg5 0 hpos
          rw [ids_at (by rw [hnt]; exact hpos)] at cid
          obtain ⟨hoL, hoB⟩ := HBT.out.at_ (i := 0) (by rw [hnt]; exact hpos)
          have HOO := vl (HBT.out.old HI.out (by rw [hnt]; exact hpos))
          obtain ⟨o, ho⟩ : ∃ o, T.getD 0 lk0 = o := ⟨_, rfl⟩
          rw [ho] at cid hoL hoB HOO
          have hid : Ix64 o.id := by have := HI.out.each o hoL; unfold Ix64; omega
          have hpos' : (0 : Int) < (nt : Int) := by omega
          obtain ⟨w2, hdr, hown2, htu2⟩ := (own_block (w' := X.drew.drew.drew) HMX.out.ownI rfl).drop klaw Tryd.underlying54 (okey64 hid) 0
          have HM2 := vl (po_drop HMX.out HI.out hoL hoB hown2 (grown_undraw (grown_undraw (grown_undraw htu2.grown))))
          have HG2 : Vl (X.grownBy w2 (some ib)) := vl (grown_undraw (grown_undraw (grown_undraw htu2.grown)))
          clear hRX hg1 hg2 hg3 hg5 hoL hoB ho hown2 htu2 hid hnt hvl hvs HNT
          gi_wp2_with fail
          refine wpIn_wide.2 ?_
          go_region
          gi_wp2_with fail
          refine wpIn_mono ?_ NoPanic.imp
          refine wpIn_wide.2 ?_
          refine wp_region_held (S := (fun (w' : World) => (w'.cell? ⟨w.heap.size, 0, none⟩ = some (.pointer (some ⟨pb, 0, none⟩)) ∧ w'.cell? ⟨pb, 0, none⟩ = some (.int .i64 S.many)) ∧ w'.cell? ⟨pb, 4, none⟩ = some (.map (some bb)) ∧ (Builtin.len_ #[54] 3 #[.map (some bb)]).run Tryd.prog w' = .ok (.int .i64 (nb : Nat)) w')) rfl ?_
          have hHeld : (fun (w' : World) => (w'.cell? ⟨w.heap.size, 0, none⟩ = some (.pointer (some ⟨pb, 0, none⟩)) ∧ w'.cell? ⟨pb, 0, none⟩ = some (.int .i64 S.many)) ∧ w'.cell? ⟨pb, 4, none⟩ = some (.map (some bb)) ∧ (Builtin.len_ #[54] 3 #[.map (some bb)]).run Tryd.prog w' = .ok (.int .i64 (nb : Nat)) w') X.drew.drew := ⟨⟨c0, p0⟩, p4, hlB2 1⟩
          change wpAnyH _ _ _ _ _ _ _ _ X.drew.drew
          refine wpAnyH_take (i := 0) (oi := { dst := some 53, op := Op.load 23 (Operand.tmp 2), type := 23, pos := "pool.go:53", after := #[], guard := none }) (v := .pointer (some ⟨pb, 0, none⟩)) rfl (by kernel_rfl) (by kernel_rfl) (by kernel_rfl) (fun _ _ _ h => h) (Or.inl ⟨by rfl, (by intro w hSw; (try dsimp only at hSw); go_simp)⟩) hHeld ?_
          try simp only [Act.put, List.setIfInBounds_toArray, List.set_cons_zero, List.set_cons_succ]
          refine wpAnyH_take (i := 1) (oi := { dst := some 54, op := Op.nilCheck (Operand.tmp 53), type := 0, pos := "pool.go:53", after := #[{ on := 0, ground := Ground.data }], guard := none }) (v := .pointer (some ⟨pb, 0, none⟩)) rfl (by kernel_rfl) (by kernel_rfl) (by kernel_rfl) (fun _ _ _ h => h) (Or.inl ⟨by rfl, (by intro w hSw; (try dsimp only at hSw); go_simp)⟩) hHeld ?_
          try simp only [Act.put, List.setIfInBounds_toArray, List.set_cons_zero, List.set_cons_succ]
          refine wpAnyH_take (i := 2) (oi := { dst := some 55, op := Op.fieldAddr 56 (Operand.tmp 54) 4, type := 0, pos := "pool.go:53", after := #[{ on := 1, ground := Ground.data }], guard := none }) (v := .pointer (some ⟨pb, 4, none⟩)) rfl (by kernel_rfl) (by kernel_rfl) (by kernel_rfl) (fun _ _ _ h => h) (Or.inl ⟨by rfl, (by intro w hSw; (try dsimp only at hSw); go_simp)⟩) hHeld ?_
          try simp only [Act.put, List.setIfInBounds_toArray, List.set_cons_zero, List.set_cons_succ]
          refine wpAnyH_take (i := 3) (oi := { dst := some 56, op := Op.load 54 (Operand.tmp 55), type := 54, pos := "pool.go:53", after := #[{ on := 2, ground := Ground.data }], guard := none }) (v := .map (some bb)) rfl (by kernel_rfl) (by kernel_rfl) (by kernel_rfl) (fun _ _ _ h => h) (Or.inl ⟨by rfl, (by intro w hSw; (try dsimp only at hSw); go_simp)⟩) hHeld ?_
          try simp only [Act.put, List.setIfInBounds_toArray, List.set_cons_zero, List.set_cons_succ]
          refine wpAnyH_take (i := 4) (oi := { dst := some 57, op := Op.call { callee := Callee.builtin Builtin.len, args := #[Operand.tmp 56], argTypes := #[54] }, type := 3, pos := "pool.go:53", after := #[{ on := 3, ground := Ground.data }], guard := none }) (v := .int .i64 (nb : Nat)) rfl (by kernel_rfl) (by kernel_rfl) (by kernel_rfl) (fun _ _ _ h => h) (Or.inl ⟨by rfl, (by intro w hSw; (try dsimp only at hSw); go_simp)⟩) hHeld ?_
          try simp only [Act.put, List.setIfInBounds_toArray, List.set_cons_zero, List.set_cons_succ]
          refine wpAnyH_take (i := 5) (oi := { dst := some 58, op := Op.move (Operand.tmp 7), type := 35, pos := "pool.go:53", after := #[], guard := none }) (v := .slice (some ⟨g, 0, none⟩) nt vc) rfl (by kernel_rfl) (by kernel_rfl) (by kernel_rfl) (fun _ _ _ h => h) (Or.inl ⟨by rfl, (by intro w hSw; (try dsimp only at hSw); go_simp)⟩) hHeld ?_
          try simp only [Act.put, List.setIfInBounds_toArray, List.set_cons_zero, List.set_cons_succ]
          refine wpAnyH_take (i := 6) (oi := { dst := some 59, op := Op.call { callee := Callee.builtin Builtin.len, args := #[Operand.tmp 58], argTypes := #[35] }, type := 3, pos := "pool.go:53", after := #[{ on := 5, ground := Ground.data }], guard := none }) (v := .int .i64 (nt : Nat)) rfl (by kernel_rfl) (by kernel_rfl) (by kernel_rfl) (fun _ _ _ h => h) (Or.inl ⟨by rfl, (by intro w hSw; (try dsimp only at hSw); go_simp)⟩) hHeld ?_
          try simp only [Act.put, List.setIfInBounds_toArray, List.set_cons_zero, List.set_cons_succ]
          refine wpAnyH_take (i := 7) (oi := { dst := some 60, op := Op.binOp BinOp.add 3 (Operand.tmp 57) (Operand.tmp 59) 3, type := 3, pos := "pool.go:53", after := #[{ on := 4, ground := Ground.data }, { on := 6, ground := Ground.data }], guard := none }) (v := .int .i64 ((nb : Int) + (nt : Int))) rfl (by kernel_rfl) (by kernel_rfl) (by kernel_rfl) (fun _ _ _ h => h) (Or.inl ⟨by rfl, (by intro w hSw; (try dsimp only at hSw); go_simp)⟩) hHeld ?_
          try simp only [Act.put, List.setIfInBounds_toArray, List.set_cons_zero, List.set_cons_succ]
          refine wpAnyH_take (i := 8) (oi := { dst := some 61, op := Op.load 23 (Operand.tmp 2), type := 23, pos := "pool.go:53", after := #[], guard := none }) (v := .pointer (some ⟨pb, 0, none⟩)) rfl (by kernel_rfl) (by kernel_rfl) (by kernel_rfl) (fun _ _ _ h => h) (Or.inl ⟨by rfl, (by intro w hSw; (try dsimp only at hSw); go_simp)⟩) hHeld ?_
          try simp only [Act.put, List.setIfInBounds_toArray, List.set_cons_zero, List.set_cons_succ]
          refine wpAnyH_take (i := 9) (oi := { dst := some 62, op := Op.nilCheck (Operand.tmp 61), type := 0, pos := "pool.go:53", after := #[{ on := 8, ground := Ground.data }], guard := none }) (v := .pointer (some ⟨pb, 0, none⟩)) rfl (by kernel_rfl) (by kernel_rfl) (by kernel_rfl) (fun _ _ _ h => h) (Or.inl ⟨by rfl, (by intro w hSw; (try dsimp only at hSw); go_simp)⟩) hHeld ?_
          try simp only [Act.put, List.setIfInBounds_toArray, List.set_cons_zero, List.set_cons_succ]
          refine wpAnyH_take (i := 10) (oi := { dst := some 63, op := Op.fieldAddr 56 (Operand.tmp 62) 0, type := 0, pos := "pool.go:53", after := #[{ on := 9, ground := Ground.data }], guard := none }) (v := .pointer (some ⟨pb, 0, none⟩)) rfl (by kernel_rfl) (by kernel_rfl) (by kernel_rfl) (fun _ _ _ h => h) (Or.inl ⟨by rfl, (by intro w hSw; (try dsimp only at hSw); go_simp)⟩) hHeld ?_
          try simp only [Act.put, List.setIfInBounds_toArray, List.set_cons_zero, List.set_cons_succ]
          refine wpAnyH_take (i := 11) (oi := { dst := some 64, op := Op.load 3 (Operand.tmp 63), type := 3, pos := "pool.go:53", after := #[{ on := 10, ground := Ground.data }], guard := none }) (v := .int .i64 S.many) rfl (by kernel_rfl) (by kernel_rfl) (by kernel_rfl) (fun _ _ _ h => h) (Or.inl ⟨by rfl, (by intro w hSw; (try dsimp only at hSw); go_simp)⟩) hHeld ?_
          try simp only [Act.put, List.setIfInBounds_toArray, List.set_cons_zero, List.set_cons_succ]
          refine wpAnyH_take (i := 12) (oi := { dst := some 65, op := Op.binOp BinOp.geq 3 (Operand.tmp 60) (Operand.tmp 64) 3, type := 4, pos := "pool.go:53", after := #[{ on := 7, ground := Ground.data }, { on := 11, ground := Ground.data }], guard := none }) (v := .bool true) rfl (by kernel_rfl) (by kernel_rfl) (by kernel_rfl) (fun _ _ _ h => h) (Or.inl ⟨by rfl, (by intro w hSw; (try dsimp only at hSw); go_simp)⟩) hHeld ?_
          try simp only [Act.put, List.setIfInBounds_toArray, List.set_cons_zero, List.set_cons_succ]
          refine wpAnyH_done (by kernel_rfl) (NoPanic.normal ?_) _
          clear hHeld
          gi_wp2_with fail
          refine wpIn_wide.2 ?_
          go_region
          have hlt := HMX.out.lt
          have hkl := HKL.out
          have hsv := HSV.out
          have hpw := HPW.out
          have hkx := HKX.out.lt
          have HMY := HM2
          have HKY : Vl (TkB w2 w.heap.size pb to) := vl (HKX.out.same (fun k h1 h2 => grown_old HG2.out (by omega) (by omega)))
          have HTY : Vl (Tn (fun k => Po3 pb bb ib k ∨ w.heap.size ≤ k) V w2) := vl ((HTN.out.wider (fun i e => Or.inr (by have e' : i = bx := e; omega))).trans' (tn_grown HG2.out (fun k e => by cases e; exact Or.inl (Or.inr (Or.inr rfl)))))
          have HXY : Vl (w2.heap[Db]? = some (.deferred (some []))) := vl ((grown_old HG2.out (Array.getElem?_eq_some_iff.1 HX.out).1 (by have := HD.out; omega)).trans HX.out)
          have HLL : Vl ((dropK S.L o.id).length ≤ 8) := vl (by have h1 : (dropK S.L o.id).length ≤ S.L.length := List.length_filter_le _ _; have := HI.out.len; have := HI.out.many.2; omega)
          have HFR : Vl (lkFind (dropK S.L o.id) (S.last + 1) = none) := vl (fresh_drop HI.out o.id)
          clear HM2 HG2 hdr cid hlB2 hlB c0 c1 c2 c3 c4 f2 f3 f4 p0 p1 p2 p3 p4 p5 pf hlt hkl hsv hpw hkx
          as_aux_lemma =>
            have b2 := HMY.out.blk
            have hlt := HMY.out.lt
            have x1 : w2.cell? ⟨pb, 1, none⟩ = some (.int .i64 S.last) := by simp only [World.cell?, b2]; rfl
            have xf : w2.frozen? ⟨pb, 1, none⟩ = false := by simp [World.frozen?, b2]
            have hl0 := HI.out.last
            have hwl : IntKind.i64.wrap (S.last + 1) = S.last + 1 := by rw [IntKind.wrap_i64]; omega
            have hsl : S.last + 1 ≤ 9223372036854775807 := by omega
            obtain ⟨c0, -, -, -, -, -, -, -⟩ := HKY.out.cells
            have HM5 := vl (po_last HMY.out (S.last + 1))
            have HK5 : Vl (TkB (w2.setCell ⟨pb, 1, none⟩ (.int .i64 (S.last + 1))) w.heap.size pb to) := vl (HKY.out.same (fun k h1 h2 => Below.heap_setCell _ _ _ _ (by show k ≠ pb; have := HPW.out; omega)))
            have HT5 : Vl (Tn (fun k => Po3 pb bb ib k ∨ w.heap.size ≤ k) V (w2.setCell ⟨pb, 1, none⟩ (.int .i64 (S.last + 1)))) := vl (HTY.out.trans' (tn_set (Or.inl (Or.inl rfl))))
            have HX5 : Vl ((w2.setCell ⟨pb, 1, none⟩ (.int .i64 (S.last + 1))).heap[Db]? = some (.deferred (some []))) := vl ((Below.heap_setCell _ _ _ _ (by show Db ≠ pb; have := HD.out; have := HPW.out; have := HKL.out; omega)).trans HXY.out)
            clear b2 hlt
            gi_wp2_with fail
            obtain ⟨Z, hZ⟩ : ∃ Z, w2.setCell ⟨pb, 1, none⟩ (.int .i64 (S.last + 1)) = Z := ⟨_, rfl⟩
            rw [hZ] at HM5 HK5 HT5 HX5 ⊢
            clear hZ c0 x1 xf
            obtain ⟨c0, c1, c2, c3, c4, f2, f3, f4⟩ := HK5.out.cells
            obtain ⟨p0, p1, p2, p3, p4, p5, pf⟩ := HM5.out.cells
            have p1 : Z.cell? ⟨pb, 1, none⟩ = some (.int .i64 (S.last + 1)) := p1
            have hfr : lkFind (dropK S.L o.id) (S.last + 1) = none := HFR.out
            obtain ⟨w4, hst, ho4, -, hg4⟩ := map_put (own_block (w' := Z.drew) HM5.out.ownB rfl) HM5.out.relB (id := S.last + 1) (by unfold Ix64; omega) (by
              have h1 : nB (dropK S.L o.id) ≤ (dropK S.L o.id).length := by unfold nB busyL; exact List.length_filter_le _ _
              have h2 := HLL.out
              show nB (dropK S.L o.id) ≤ 1000
              omega) (to, 0, 0)
            have HM4 := vl (po_put HM5.out hfr ho4 hg4)
            have hpw := HPW.out
            have hk5 := HK5.out.lt
            have HK4 : Vl (TkB w4 w.heap.size pb to) := vl (HK5.out.same (fun k h1 h2 => grown_old (w := Z.drew) hg4 (by show k < Z.heap.size; omega) (by omega)))
            have HT4 : Vl (Tn (fun k => Po3 pb bb ib k ∨ w.heap.size ≤ k) V w4) := vl (HT5.out.trans' (tn_drewL (tn_grown (S := fun k => Po3 pb bb ib k ∨ w.heap.size ≤ k) (w := Z.drew) hg4 (fun k e => by cases e; exact Or.inl (Or.inr (Or.inl rfl))))))
            have HX4 : Vl (w4.heap[Db]? = some (.deferred (some []))) := vl ((grown_old (w := Z.drew) hg4 (Array.getElem?_eq_some_iff.1 HX5.out).1 (by have := HD.out; have := HKL.out; omega)).trans HX5.out)
            obtain ⟨d0, -, d2, d3, d4, g2, g3, g4⟩ := HK4.out.cells
            have b4 := HM4.out.blk
            have d1 : w4.cell? ⟨pb, 1, none⟩ = some (.int .i64 (S.last + 1)) := by simp only [World.cell?, b4]; rfl
            have d4m : w4.cell? ⟨pb, 4, none⟩ = some (.map (some bb)) := by simp only [World.cell?, b4]; rfl
            have d1s : w4.cell? ⟨w.heap.size + 1, 0, none⟩ = some (.string to) := by have := HK4.out.k1; simp only [World.cell?, this]; rfl
            unfold lkV at hst
            have HST := vl hst
            clear hfr ho4 hg4 hk5 hpw b4 hst p0 p2 p3 p5 pf c2 c3 c4 f2 f3 f4
            refine wpIn_mono ?_ NoPanic.imp
            refine wpIn_wide.2 ?_
            refine wp_region_held (S := (fun (w' : World) => (w'.cell? ⟨w.heap.size, 0, none⟩ = some (.pointer (some ⟨pb, 0, none⟩)) ∧ w'.cell? ⟨w.heap.size + 1, 0, none⟩ = some (.string to)) ∧ w'.cell? ⟨pb, 4, none⟩ = some (.map (some bb)) ∧ w'.cell? ⟨pb, 1, none⟩ = some (.int .i64 (S.last + 1)))) rfl ?_
            have hHeld : (fun (w' : World) => (w'.cell? ⟨w.heap.size, 0, none⟩ = some (.pointer (some ⟨pb, 0, none⟩)) ∧ w'.cell? ⟨w.heap.size + 1, 0, none⟩ = some (.string to)) ∧ w'.cell? ⟨pb, 4, none⟩ = some (.map (some bb)) ∧ w'.cell? ⟨pb, 1, none⟩ = some (.int .i64 (S.last + 1))) Z.drew := ⟨⟨c0, c1⟩, p4, p1⟩
            change wpAnyH _ _ _ _ _ _ _ _ Z.drew
            refine wpAnyH_take (i := 0) (oi := { dst := some 80, op := Op.load 23 (Operand.tmp 2), type := 23, pos := "pool.go:57", after := #[], guard := none }) (v := .pointer (some ⟨pb, 0, none⟩)) rfl (by kernel_rfl) (by kernel_rfl) (by kernel_rfl) (fun _ _ _ h => h) (Or.inl ⟨by rfl, (by intro w hSw; (try dsimp only at hSw); go_simp)⟩) hHeld ?_
            try simp only [Act.put, List.setIfInBounds_toArray, List.set_cons_zero, List.set_cons_succ]
            refine wpAnyH_take (i := 1) (oi := { dst := some 81, op := Op.nilCheck (Operand.tmp 80), type := 0, pos := "pool.go:57", after := #[{ on := 0, ground := Ground.data }], guard := none }) (v := .pointer (some ⟨pb, 0, none⟩)) rfl (by kernel_rfl) (by kernel_rfl) (by kernel_rfl) (fun _ _ _ h => h) (Or.inl ⟨by rfl, (by intro w hSw; (try dsimp only at hSw); go_simp)⟩) hHeld ?_
            try simp only [Act.put, List.setIfInBounds_toArray, List.set_cons_zero, List.set_cons_succ]
            refine wpAnyH_take (i := 2) (oi := { dst := some 82, op := Op.fieldAddr 56 (Operand.tmp 81) 4, type := 0, pos := "pool.go:57", after := #[{ on := 1, ground := Ground.data }], guard := none }) (v := .pointer (some ⟨pb, 4, none⟩)) rfl (by kernel_rfl) (by kernel_rfl) (by kernel_rfl) (fun _ _ _ h => h) (Or.inl ⟨by rfl, (by intro w hSw; (try dsimp only at hSw); go_simp)⟩) hHeld ?_
            try simp only [Act.put, List.setIfInBounds_toArray, List.set_cons_zero, List.set_cons_succ]
            refine wpAnyH_take (i := 3) (oi := { dst := some 83, op := Op.load 54 (Operand.tmp 82), type := 54, pos := "pool.go:57", after := #[{ on := 2, ground := Ground.data }], guard := none }) (v := .map (some bb)) rfl (by kernel_rfl) (by kernel_rfl) (by kernel_rfl) (fun _ _ _ h => h) (Or.inl ⟨by rfl, (by intro w hSw; (try dsimp only at hSw); go_simp)⟩) hHeld ?_
            try simp only [Act.put, List.setIfInBounds_toArray, List.set_cons_zero, List.set_cons_succ]
            refine wpAnyH_take (i := 4) (oi := { dst := some 84, op := Op.load 23 (Operand.tmp 2), type := 23, pos := "pool.go:57", after := #[], guard := none }) (v := .pointer (some ⟨pb, 0, none⟩)) rfl (by kernel_rfl) (by kernel_rfl) (by kernel_rfl) (fun _ _ _ h => h) (Or.inl ⟨by rfl, (by intro w hSw; (try dsimp only at hSw); go_simp)⟩) hHeld ?_
            try simp only [Act.put, List.setIfInBounds_toArray, List.set_cons_zero, List.set_cons_succ]
            refine wpAnyH_take (i := 5) (oi := { dst := some 85, op := Op.nilCheck (Operand.tmp 84), type := 0, pos := "pool.go:57", after := #[{ on := 4, ground := Ground.data }], guard := none }) (v := .pointer (some ⟨pb, 0, none⟩)) rfl (by kernel_rfl) (by kernel_rfl) (by kernel_rfl) (fun _ _ _ h => h) (Or.inl ⟨by rfl, (by intro w hSw; (try dsimp only at hSw); go_simp)⟩) hHeld ?_
            try simp only [Act.put, List.setIfInBounds_toArray, List.set_cons_zero, List.set_cons_succ]
            refine wpAnyH_take (i := 6) (oi := { dst := some 86, op := Op.fieldAddr 56 (Operand.tmp 85) 1, type := 0, pos := "pool.go:57", after := #[{ on := 5, ground := Ground.data }], guard := none }) (v := .pointer (some ⟨pb, 1, none⟩)) rfl (by kernel_rfl) (by kernel_rfl) (by kernel_rfl) (fun _ _ _ h => h) (Or.inl ⟨by rfl, (by intro w hSw; (try dsimp only at hSw); go_simp)⟩) hHeld ?_
            try simp only [Act.put, List.setIfInBounds_toArray, List.set_cons_zero, List.set_cons_succ]
            refine wpAnyH_take (i := 7) (oi := { dst := some 87, op := Op.load 3 (Operand.tmp 86), type := 3, pos := "pool.go:57", after := #[{ on := 6, ground := Ground.data }], guard := none }) (v := .int .i64 (S.last + 1)) rfl (by kernel_rfl) (by kernel_rfl) (by kernel_rfl) (fun _ _ _ h => h) (Or.inl ⟨by rfl, (by intro w hSw; (try dsimp only at hSw); go_simp)⟩) hHeld ?_
            try simp only [Act.put, List.setIfInBounds_toArray, List.set_cons_zero, List.set_cons_succ]
            refine wpAnyH_take (i := 8) (oi := { dst := some 88, op := Op.load 9 (Operand.tmp 3), type := 9, pos := "pool.go:57", after := #[], guard := none }) (v := .string to) rfl (by kernel_rfl) (by kernel_rfl) (by kernel_rfl) (fun _ _ _ h => h) (Or.inl ⟨by rfl, (by intro w hSw; (try dsimp only at hSw); go_simp)⟩) hHeld ?_
            try simp only [Act.put, List.setIfInBounds_toArray, List.set_cons_zero, List.set_cons_succ]
            refine wpAnyH_take (i := 9) (oi := { dst := some 89, op := Op.build 65 #[(0, Operand.tmp 88)], type := 65, pos := "pool.go:57", after := #[{ on := 8, ground := Ground.data }], guard := none }) (v := .agg #[.string to, .int .i64 0, .int .i64 0]) rfl (by kernel_rfl) (by kernel_rfl) (by kernel_rfl) (fun _ _ _ h => h) (Or.inl ⟨by rfl, (by intro w hSw; (try dsimp only at hSw); go_simp)⟩) hHeld ?_
            try simp only [Act.put, List.setIfInBounds_toArray, List.set_cons_zero, List.set_cons_succ]
            refine wpAnyH_ready (rs := [10]) (by kernel_rfl) (by simp) ?_
            refine AllReadyH.cons (o := { dst := none, op := Op.mapUpdate 54 (Operand.tmp 83) (Operand.tmp 87) (Operand.tmp 89), type := 0, pos := "pool.go:57", after := #[{ on := 3, ground := Ground.data }, { on := 7, ground := Ground.data }, { on := 9, ground := Ground.data }, { on := 0, ground := Ground.phase }, { on := 1, ground := Ground.phase }, { on := 2, ground := Ground.phase }, { on := 3, ground := Ground.phase }, { on := 4, ground := Ground.phase }, { on := 5, ground := Ground.phase }, { on := 6, ground := Ground.phase }, { on := 7, ground := Ground.phase }, { on := 8, ground := Ground.phase }, { on := 9, ground := Ground.phase }], guard := none }) rfl (fun K hK => ?_) AllReadyH.nil
            have hst := HST.out
            go_simp
            refine hK.out _ _ ⟨⟨d0, d1s⟩, d4m, d1⟩ (fun hHeld => ?_)
            clear hK K hst HST c0 c1 p1 p4 d4m d1s
            try simp only [Act.put, List.setIfInBounds_toArray, List.set_cons_zero, List.set_cons_succ]
            refine wpAnyH_done (by kernel_rfl) (NoPanic.normal ?_) _
            clear hHeld
            gi_wp2_with fail
            obtain ⟨z1, z2, z3, z4, z5, z6⟩ := tk_out HK4.out (Db := Db) (by have := HD.out; have := HSV.out; omega) HX4.out (.int .i64 (S.last + 1)) (.bool true) .nilIface
            obtain ⟨Q, hQ⟩ : ∃ Q, ((w4.setCell ⟨w.heap.size + 1 + 1, 0, none⟩ (.int .i64 (S.last + 1))).setCell ⟨w.heap.size + 1 + 1 + 1, 0, none⟩ (.bool true)).setCell ⟨w.heap.size + 1 + 1 + 1 + 1, 0, none⟩ .nilIface = Q := ⟨_, rfl⟩
            rw [hQ] at z1 z2 z3 z4 z5 z6 ⊢
            refine ⟨by simp, .inl ⟨_, _, rfl, run_takeDeferred (b := Db) (ds := []) z1, ?_⟩⟩
            refine ⟨.tuple #[.int .i64 (S.last + 1), .bool true, .nilIface], by simp [results, Tryd.results8, go_sem, z2, z3, z4], ?_⟩
            unfold OTakeE
            rw [take_old HTT.out HNB.out (by rw [HNBB.out, ← HVT.out]; exact hg) HOO.out]
            have hpw := HPW.out
            refine ⟨rfl, ⟨_, _, HM4.out.kept (w' := Q.putObj Db (.deferred none)) (z5 pb hpw.1) (z5 bb hpw.2.1) (z5 ib hpw.2.2)⟩, ?_⟩
            exact tn_out HBV.out rfl (HT4.out.trans' (z6.wider (fun i e => Or.inr e)))
        · obtain ⟨va, vc, hv⟩ := hvs
          rw [List.length_map, hnt] at hv
          subst hv
          clear hRX hnt hvl HNT
          gi_wp2_with fail
          refine wpIn_wide.2 ?_
          go_region
          gi_wp2_with fail
          refine wpIn_mono ?_ NoPanic.imp
          refine wpIn_wide.2 ?_
          refine wp_region_held (S := (fun (w' : World) => (w'.cell? ⟨w.heap.size, 0, none⟩ = some (.pointer (some ⟨pb, 0, none⟩)) ∧ w'.cell? ⟨pb, 0, none⟩ = some (.int .i64 S.many)) ∧ w'.cell? ⟨pb, 4, none⟩ = some (.map (some bb)) ∧ (Builtin.len_ #[54] 3 #[.map (some bb)]).run Tryd.prog w' = .ok (.int .i64 (nb : Nat)) w')) rfl ?_
          have hHeld : (fun (w' : World) => (w'.cell? ⟨w.heap.size, 0, none⟩ = some (.pointer (some ⟨pb, 0, none⟩)) ∧ w'.cell? ⟨pb, 0, none⟩ = some (.int .i64 S.many)) ∧ w'.cell? ⟨pb, 4, none⟩ = some (.map (some bb)) ∧ (Builtin.len_ #[54] 3 #[.map (some bb)]).run Tryd.prog w' = .ok (.int .i64 (nb : Nat)) w') X.drew.drew := ⟨⟨c0, p0⟩, p4, hlB2 1⟩
          change wpAnyH _ _ _ _ _ _ _ _ X.drew.drew
          refine wpAnyH_take (i := 0) (oi := { dst := some 53, op := Op.load 23 (Operand.tmp 2), type := 23, pos := "pool.go:53", after := #[], guard := none }) (v := .pointer (some ⟨pb, 0, none⟩)) rfl (by kernel_rfl) (by kernel_rfl) (by kernel_rfl) (fun _ _ _ h => h) (Or.inl ⟨by rfl, (by intro w hSw; (try dsimp only at hSw); go_simp)⟩) hHeld ?_
          try simp only [Act.put, List.setIfInBounds_toArray, List.set_cons_zero, List.set_cons_succ]
          refine wpAnyH_take (i := 1) (oi := { dst := some 54, op := Op.nilCheck (Operand.tmp 53), type := 0, pos := "pool.go:53", after := #[{ on := 0, ground := Ground.data }], guard := none }) (v := .pointer (some ⟨pb, 0, none⟩)) rfl (by kernel_rfl) (by kernel_rfl) (by kernel_rfl) (fun _ _ _ h => h) (Or.inl ⟨by rfl, (by intro w hSw; (try dsimp only at hSw); go_simp)⟩) hHeld ?_
          try simp only [Act.put, List.setIfInBounds_toArray, List.set_cons_zero, List.set_cons_succ]
          refine wpAnyH_take (i := 2) (oi := { dst := some 55, op := Op.fieldAddr 56 (Operand.tmp 54) 4, type := 0, pos := "pool.go:53", after := #[{ on := 1, ground := Ground.data }], guard := none }) (v := .pointer (some ⟨pb, 4, none⟩)) rfl (by kernel_rfl) (by kernel_rfl) (by kernel_rfl) (fun _ _ _ h => h) (Or.inl ⟨by rfl, (by intro w hSw; (try dsimp only at hSw); go_simp)⟩) hHeld ?_
          try simp only [Act.put, List.setIfInBounds_toArray, List.set_cons_zero, List.set_cons_succ]
          refine wpAnyH_take (i := 3) (oi := { dst := some 56, op := Op.load 54 (Operand.tmp 55), type := 54, pos := "pool.go:53", after := #[{ on := 2, ground := Ground.data }], guard := none }) (v := .map (some bb)) rfl (by kernel_rfl) (by kernel_rfl) (by kernel_rfl) (fun _ _ _ h => h) (Or.inl ⟨by rfl, (by intro w hSw; (try dsimp only at hSw); go_simp)⟩) hHeld ?_
          try simp only [Act.put, List.setIfInBounds_toArray, List.set_cons_zero, List.set_cons_succ]
          refine wpAnyH_take (i := 4) (oi := { dst := some 57, op := Op.call { callee := Callee.builtin Builtin.len, args := #[Operand.tmp 56], argTypes := #[54] }, type := 3, pos := "pool.go:53", after := #[{ on := 3, ground := Ground.data }], guard := none }) (v := .int .i64 (nb : Nat)) rfl (by kernel_rfl) (by kernel_rfl) (by kernel_rfl) (fun _ _ _ h => h) (Or.inl ⟨by rfl, (by intro w hSw; (try dsimp only at hSw); go_simp)⟩) hHeld ?_
          try simp only [Act.put, List.setIfInBounds_toArray, List.set_cons_zero, List.set_cons_succ]
          refine wpAnyH_take (i := 5) (oi := { dst := some 58, op := Op.move (Operand.tmp 7), type := 35, pos := "pool.go:53", after := #[], guard := none }) (v := .slice va nt vc) rfl (by kernel_rfl) (by kernel_rfl) (by kernel_rfl) (fun _ _ _ h => h) (Or.inl ⟨by rfl, (by intro w hSw; (try dsimp only at hSw); go_simp)⟩) hHeld ?_
          try simp only [Act.put, List.setIfInBounds_toArray, List.set_cons_zero, List.set_cons_succ]
          refine wpAnyH_take (i := 6) (oi := { dst := some 59, op := Op.call { callee := Callee.builtin Builtin.len, args := #[Operand.tmp 58], argTypes := #[35] }, type := 3, pos := "pool.go:53", after := #[{ on := 5, ground := Ground.data }], guard := none }) (v := .int .i64 (nt : Nat)) rfl (by kernel_rfl) (by kernel_rfl) (by kernel_rfl) (fun _ _ _ h => h) (Or.inl ⟨by rfl, (by intro w hSw; (try dsimp only at hSw); go_simp)⟩) hHeld ?_
          try simp only [Act.put, List.setIfInBounds_toArray, List.set_cons_zero, List.set_cons_succ]
          refine wpAnyH_take (i := 7) (oi := { dst := some 60, op := Op.binOp BinOp.add 3 (Operand.tmp 57) (Operand.tmp 59) 3, type := 3, pos := "pool.go:53", after := #[{ on := 4, ground := Ground.data }, { on := 6, ground := Ground.data }], guard := none }) (v := .int .i64 ((nb : Int) + (nt : Int))) rfl (by kernel_rfl) (by kernel_rfl) (by kernel_rfl) (fun _ _ _ h => h) (Or.inl ⟨by rfl, (by intro w hSw; (try dsimp only at hSw); go_simp)⟩) hHeld ?_
          try simp only [Act.put, List.setIfInBounds_toArray, List.set_cons_zero, List.set_cons_succ]
          refine wpAnyH_take (i := 8) (oi := { dst := some 61, op := Op.load 23 (Operand.tmp 2), type := 23, pos := "pool.go:53", after := #[], guard := none }) (v := .pointer (some ⟨pb, 0, none⟩)) rfl (by kernel_rfl) (by kernel_rfl) (by kernel_rfl) (fun _ _ _ h => h) (Or.inl ⟨by rfl, (by intro w hSw; (try dsimp only at hSw); go_simp)⟩) hHeld ?_
          try simp only [Act.put, List.setIfInBounds_toArray, List.set_cons_zero, List.set_cons_succ]
          refine wpAnyH_take (i := 9) (oi := { dst := some 62, op := Op.nilCheck (Operand.tmp 61), type := 0, pos := "pool.go:53", after := #[{ on := 8, ground := Ground.data }], guard := none }) (v := .pointer (some ⟨pb, 0, none⟩)) rfl (by kernel_rfl) (by kernel_rfl) (by kernel_rfl) (fun _ _ _ h => h) (Or.inl ⟨by rfl, (by intro w hSw; (try dsimp only at hSw); go_simp)⟩) hHeld ?_
          try simp only [Act.put, List.setIfInBounds_toArray, List.set_cons_zero, List.set_cons_succ]
          refine wpAnyH_take (i := 10) (oi := { dst := some 63, op := Op.fieldAddr 56 (Operand.tmp 62) 0, type := 0, pos := "pool.go:53", after := #[{ on := 9, ground := Ground.data }], guard := none }) (v := .pointer (some ⟨pb, 0, none⟩)) rfl (by kernel_rfl) (by kernel_rfl) (by kernel_rfl) (fun _ _ _ h => h) (Or.inl ⟨by rfl, (by intro w hSw; (try dsimp only at hSw); go_simp)⟩) hHeld ?_
          try simp only [Act.put, List.setIfInBounds_toArray, List.set_cons_zero, List.set_cons_succ]
          refine wpAnyH_take (i := 11) (oi := { dst := some 64, op := Op.load 3 (Operand.tmp 63), type := 3, pos := "pool.go:53", after := #[{ on := 10, ground := Ground.data }], guard := none }) (v := .int .i64 S.many) rfl (by kernel_rfl) (by kernel_rfl) (by kernel_rfl) (fun _ _ _ h => h) (Or.inl ⟨by rfl, (by intro w hSw; (try dsimp only at hSw); go_simp)⟩) hHeld ?_
          try simp only [Act.put, List.setIfInBounds_toArray, List.set_cons_zero, List.set_cons_succ]
          refine wpAnyH_take (i := 12) (oi := { dst := some 65, op := Op.binOp BinOp.geq 3 (Operand.tmp 60) (Operand.tmp 64) 3, type := 4, pos := "pool.go:53", after := #[{ on := 7, ground := Ground.data }, { on := 11, ground := Ground.data }], guard := none }) (v := .bool false) rfl (by kernel_rfl) (by kernel_rfl) (by kernel_rfl) (fun _ _ _ h => h) (Or.inl ⟨by rfl, (by intro w hSw; (try dsimp only at hSw); go_simp)⟩) hHeld ?_
          try simp only [Act.put, List.setIfInBounds_toArray, List.set_cons_zero, List.set_cons_succ]
          refine wpAnyH_done (by kernel_rfl) (NoPanic.normal ?_) _
          clear hHeld
          have hkx := HKX.out.lt
          have HMY : Vl (PoM X.drew.drew pb bb ib DB DI S) := vl (HMX.out.kept (w' := X.drew.drew) rfl rfl rfl)
          have HKY : Vl (TkB X.drew.drew w.heap.size pb to) := vl (HKX.out.same (W' := X.drew.drew) (fun k _ _ => rfl))
          have HTY : Vl (Tn (fun k => Po3 pb bb ib k ∨ w.heap.size ≤ k) V X.drew.drew) := vl ((HTN.out.wider (fun i e => Or.inr (by have e' : i = bx := e; omega))).trans' (Tn.of_below ((Below.refl _ X).drew.drew)))
          have HXY : Vl (X.drew.drew.heap[Db]? = some (.deferred (some []))) := vl HX.out
          have HLL : Vl (S.L.length ≤ 8) := vl (by have := HI.out.len; have := HI.out.many.2; omega)
          have HFR : Vl (lkFind S.L (S.last + 1) = none) := vl (fresh_find HI.out)
          have HGN := vl hg
          clear hlB2 hlB c0 c1 c2 c3 c4 f2 f3 f4 p0 p1 p2 p3 p4 p5 pf hkx
          obtain ⟨Y, hY⟩ : ∃ Y, X.drew.drew = Y := ⟨_, rfl⟩
          rw [hY] at HMY HKY HTY HXY ⊢
          clear hY
          as_aux_lemma =>
            have b2 := HMY.out.blk
            have hlt := HMY.out.lt
            have x1 : Y.cell? ⟨pb, 1, none⟩ = some (.int .i64 S.last) := by simp only [World.cell?, b2]; rfl
            have xf : Y.frozen? ⟨pb, 1, none⟩ = false := by simp [World.frozen?, b2]
            have hl0 := HI.out.last
            have hwl : IntKind.i64.wrap (S.last + 1) = S.last + 1 := by rw [IntKind.wrap_i64]; omega
            have hsl : S.last + 1 ≤ 9223372036854775807 := by omega
            obtain ⟨c0, -, -, -, -, -, -, -⟩ := HKY.out.cells
            have HM5 := vl (po_last HMY.out (S.last + 1))
            have HK5 : Vl (TkB (Y.setCell ⟨pb, 1, none⟩ (.int .i64 (S.last + 1))) w.heap.size pb to) := vl (HKY.out.same (fun k h1 h2 => Below.heap_setCell _ _ _ _ (by show k ≠ pb; have := HPW.out; omega)))
            have HT5 : Vl (Tn (fun k => Po3 pb bb ib k ∨ w.heap.size ≤ k) V (Y.setCell ⟨pb, 1, none⟩ (.int .i64 (S.last + 1)))) := vl (HTY.out.trans' (tn_set (Or.inl (Or.inl rfl))))
            have HX5 : Vl ((Y.setCell ⟨pb, 1, none⟩ (.int .i64 (S.last + 1))).heap[Db]? = some (.deferred (some []))) := vl ((Below.heap_setCell _ _ _ _ (by show Db ≠ pb; have := HD.out; have := HPW.out; have := HKL.out; omega)).trans HXY.out)
            clear b2 hlt
            gi_wp2_with fail
            obtain ⟨Z, hZ⟩ : ∃ Z, Y.setCell ⟨pb, 1, none⟩ (.int .i64 (S.last + 1)) = Z := ⟨_, rfl⟩
            rw [hZ] at HM5 HK5 HT5 HX5 ⊢
            clear hZ c0 x1 xf
            obtain ⟨c0, c1, c2, c3, c4, f2, f3, f4⟩ := HK5.out.cells
            obtain ⟨p0, p1, p2, p3, p4, p5, pf⟩ := HM5.out.cells
            have p1 : Z.cell? ⟨pb, 1, none⟩ = some (.int .i64 (S.last + 1)) := p1
            have hfr : lkFind (S.L) (S.last + 1) = none := HFR.out
            obtain ⟨w4, hst, ho4, -, hg4⟩ := map_put (own_block (w' := Z.drew) HM5.out.ownB rfl) HM5.out.relB (id := S.last + 1) (by unfold Ix64; omega) (by
              have h1 : nB (S.L) ≤ (S.L).length := by unfold nB busyL; exact List.length_filter_le _ _
              have h2 := HLL.out
              show nB (S.L) ≤ 1000
              omega) (to, 0, 0)
            have HM4 := vl (po_put HM5.out hfr ho4 hg4)
            have hpw := HPW.out
            have hk5 := HK5.out.lt
            have HK4 : Vl (TkB w4 w.heap.size pb to) := vl (HK5.out.same (fun k h1 h2 => grown_old (w := Z.drew) hg4 (by show k < Z.heap.size; omega) (by omega)))
            have HT4 : Vl (Tn (fun k => Po3 pb bb ib k ∨ w.heap.size ≤ k) V w4) := vl (HT5.out.trans' (tn_drewL (tn_grown (S := fun k => Po3 pb bb ib k ∨ w.heap.size ≤ k) (w := Z.drew) hg4 (fun k e => by cases e; exact Or.inl (Or.inr (Or.inl rfl))))))
            have HX4 : Vl (w4.heap[Db]? = some (.deferred (some []))) := vl ((grown_old (w := Z.drew) hg4 (Array.getElem?_eq_some_iff.1 HX5.out).1 (by have := HD.out; have := HKL.out; omega)).trans HX5.out)
            obtain ⟨d0, -, d2, d3, d4, g2, g3, g4⟩ := HK4.out.cells
            have b4 := HM4.out.blk
            have d1 : w4.cell? ⟨pb, 1, none⟩ = some (.int .i64 (S.last + 1)) := by simp only [World.cell?, b4]; rfl
            have d4m : w4.cell? ⟨pb, 4, none⟩ = some (.map (some bb)) := by simp only [World.cell?, b4]; rfl
            have d1s : w4.cell? ⟨w.heap.size + 1, 0, none⟩ = some (.string to) := by have := HK4.out.k1; simp only [World.cell?, this]; rfl
            unfold lkV at hst
            have HST := vl hst
            clear hfr ho4 hg4 hk5 hpw b4 hst p0 p2 p3 p5 pf c2 c3 c4 f2 f3 f4
            refine wpIn_mono ?_ NoPanic.imp
            refine wpIn_wide.2 ?_
            refine wp_region_held (S := (fun (w' : World) => (w'.cell? ⟨w.heap.size, 0, none⟩ = some (.pointer (some ⟨pb, 0, none⟩)) ∧ w'.cell? ⟨w.heap.size + 1, 0, none⟩ = some (.string to)) ∧ w'.cell? ⟨pb, 4, none⟩ = some (.map (some bb)) ∧ w'.cell? ⟨pb, 1, none⟩ = some (.int .i64 (S.last + 1)))) rfl ?_
            have hHeld : (fun (w' : World) => (w'.cell? ⟨w.heap.size, 0, none⟩ = some (.pointer (some ⟨pb, 0, none⟩)) ∧ w'.cell? ⟨w.heap.size + 1, 0, none⟩ = some (.string to)) ∧ w'.cell? ⟨pb, 4, none⟩ = some (.map (some bb)) ∧ w'.cell? ⟨pb, 1, none⟩ = some (.int .i64 (S.last + 1))) Z.drew := ⟨⟨c0, c1⟩, p4, p1⟩
            change wpAnyH _ _ _ _ _ _ _ _ Z.drew
            refine wpAnyH_take (i := 0) (oi := { dst := some 80, op := Op.load 23 (Operand.tmp 2), type := 23, pos := "pool.go:57", after := #[], guard := none }) (v := .pointer (some ⟨pb, 0, none⟩)) rfl (by kernel_rfl) (by kernel_rfl) (by kernel_rfl) (fun _ _ _ h => h) (Or.inl ⟨by rfl, (by intro w hSw; (try dsimp only at hSw); go_simp)⟩) hHeld ?_
            try simp only [Act.put, List.setIfInBounds_toArray, List.set_cons_zero, List.set_cons_succ]
            refine wpAnyH_take (i := 1) (oi := { dst := some 81, op := Op.nilCheck (Operand.tmp 80), type := 0, pos := "pool.go:57", after := #[{ on := 0, ground := Ground.data }], guard := none }) (v := .pointer (some ⟨pb, 0, none⟩)) rfl (by kernel_rfl) (by kernel_rfl) (by kernel_rfl) (fun _ _ _ h => h) (Or.inl ⟨by rfl, (by intro w hSw; (try dsimp only at hSw); go_simp)⟩) hHeld ?_
            try simp only [Act.put, List.setIfInBounds_toArray, List.set_cons_zero, List.set_cons_succ]
            refine wpAnyH_take (i := 2) (oi := { dst := some 82, op := Op.fieldAddr 56 (Operand.tmp 81) 4, type := 0, pos := "pool.go:57", after := #[{ on := 1, ground := Ground.data }], guard := none }) (v := .pointer (some ⟨pb, 4, none⟩)) rfl (by kernel_rfl) (by kernel_rfl) (by kernel_rfl) (fun _ _ _ h => h) (Or.inl ⟨by rfl, (by intro w hSw; (try dsimp only at hSw); go_simp)⟩) hHeld ?_
            try simp only [Act.put, List.setIfInBounds_toArray, List.set_cons_zero, List.set_cons_succ]
            refine wpAnyH_take (i := 3) (oi := { dst := some 83, op := Op.load 54 (Operand.tmp 82), type := 54, pos := "pool.go:57", after := #[{ on := 2, ground := Ground.data }], guard := none }) (v := .map (some bb)) rfl (by kernel_rfl) (by kernel_rfl) (by kernel_rfl) (fun _ _ _ h => h) (Or.inl ⟨by rfl, (by intro w hSw; (try dsimp only at hSw); go_simp)⟩) hHeld ?_
            try simp only [Act.put, List.setIfInBounds_toArray, List.set_cons_zero, List.set_cons_succ]
            refine wpAnyH_take (i := 4) (oi := { dst := some 84, op := Op.load 23 (Operand.tmp 2), type := 23, pos := "pool.go:57", after := #[], guard := none }) (v := .pointer (some ⟨pb, 0, none⟩)) rfl (by kernel_rfl) (by kernel_rfl) (by kernel_rfl) (fun _ _ _ h => h) (Or.inl ⟨by rfl, (by intro w hSw; (try dsimp only at hSw); go_simp)⟩) hHeld ?_
            try simp only [Act.put, List.setIfInBounds_toArray, List.set_cons_zero, List.set_cons_succ]
            refine wpAnyH_take (i := 5) (oi := { dst := some 85, op := Op.nilCheck (Operand.tmp 84), type := 0, pos := "pool.go:57", after := #[{ on := 4, ground := Ground.data }], guard := none }) (v := .pointer (some ⟨pb, 0, none⟩)) rfl (by kernel_rfl) (by kernel_rfl) (by kernel_rfl) (fun _ _ _ h => h) (Or.inl ⟨by rfl, (by intro w hSw; (try dsimp only at hSw); go_simp)⟩) hHeld ?_
            try simp only [Act.put, List.setIfInBounds_toArray, List.set_cons_zero, List.set_cons_succ]
            refine wpAnyH_take (i := 6) (oi := { dst := some 86, op := Op.fieldAddr 56 (Operand.tmp 85) 1, type := 0, pos := "pool.go:57", after := #[{ on := 5, ground := Ground.data }], guard := none }) (v := .pointer (some ⟨pb, 1, none⟩)) rfl (by kernel_rfl) (by kernel_rfl) (by kernel_rfl) (fun _ _ _ h => h) (Or.inl ⟨by rfl, (by intro w hSw; (try dsimp only at hSw); go_simp)⟩) hHeld ?_
            try simp only [Act.put, List.setIfInBounds_toArray, List.set_cons_zero, List.set_cons_succ]
            refine wpAnyH_take (i := 7) (oi := { dst := some 87, op := Op.load 3 (Operand.tmp 86), type := 3, pos := "pool.go:57", after := #[{ on := 6, ground := Ground.data }], guard := none }) (v := .int .i64 (S.last + 1)) rfl (by kernel_rfl) (by kernel_rfl) (by kernel_rfl) (fun _ _ _ h => h) (Or.inl ⟨by rfl, (by intro w hSw; (try dsimp only at hSw); go_simp)⟩) hHeld ?_
            try simp only [Act.put, List.setIfInBounds_toArray, List.set_cons_zero, List.set_cons_succ]
            refine wpAnyH_take (i := 8) (oi := { dst := some 88, op := Op.load 9 (Operand.tmp 3), type := 9, pos := "pool.go:57", after := #[], guard := none }) (v := .string to) rfl (by kernel_rfl) (by kernel_rfl) (by kernel_rfl) (fun _ _ _ h => h) (Or.inl ⟨by rfl, (by intro w hSw; (try dsimp only at hSw); go_simp)⟩) hHeld ?_
            try simp only [Act.put, List.setIfInBounds_toArray, List.set_cons_zero, List.set_cons_succ]
            refine wpAnyH_take (i := 9) (oi := { dst := some 89, op := Op.build 65 #[(0, Operand.tmp 88)], type := 65, pos := "pool.go:57", after := #[{ on := 8, ground := Ground.data }], guard := none }) (v := .agg #[.string to, .int .i64 0, .int .i64 0]) rfl (by kernel_rfl) (by kernel_rfl) (by kernel_rfl) (fun _ _ _ h => h) (Or.inl ⟨by rfl, (by intro w hSw; (try dsimp only at hSw); go_simp)⟩) hHeld ?_
            try simp only [Act.put, List.setIfInBounds_toArray, List.set_cons_zero, List.set_cons_succ]
            refine wpAnyH_ready (rs := [10]) (by kernel_rfl) (by simp) ?_
            refine AllReadyH.cons (o := { dst := none, op := Op.mapUpdate 54 (Operand.tmp 83) (Operand.tmp 87) (Operand.tmp 89), type := 0, pos := "pool.go:57", after := #[{ on := 3, ground := Ground.data }, { on := 7, ground := Ground.data }, { on := 9, ground := Ground.data }, { on := 0, ground := Ground.phase }, { on := 1, ground := Ground.phase }, { on := 2, ground := Ground.phase }, { on := 3, ground := Ground.phase }, { on := 4, ground := Ground.phase }, { on := 5, ground := Ground.phase }, { on := 6, ground := Ground.phase }, { on := 7, ground := Ground.phase }, { on := 8, ground := Ground.phase }, { on := 9, ground := Ground.phase }], guard := none }) rfl (fun K hK => ?_) AllReadyH.nil
            have hst := HST.out
            go_simp
            refine hK.out _ _ ⟨⟨d0, d1s⟩, d4m, d1⟩ (fun hHeld => ?_)
            clear hK K hst HST c0 c1 p1 p4 d4m d1s
            try simp only [Act.put, List.setIfInBounds_toArray, List.set_cons_zero, List.set_cons_succ]
            refine wpAnyH_done (by kernel_rfl) (NoPanic.normal ?_) _
            clear hHeld
            gi_wp2_with fail
            obtain ⟨z1, z2, z3, z4, z5, z6⟩ := tk_out HK4.out (Db := Db) (by have := HD.out; have := HSV.out; omega) HX4.out (.int .i64 (S.last + 1)) (.bool true) .nilIface
            obtain ⟨Q, hQ⟩ : ∃ Q, ((w4.setCell ⟨w.heap.size + 1 + 1, 0, none⟩ (.int .i64 (S.last + 1))).setCell ⟨w.heap.size + 1 + 1 + 1, 0, none⟩ (.bool true)).setCell ⟨w.heap.size + 1 + 1 + 1 + 1, 0, none⟩ .nilIface = Q := ⟨_, rfl⟩
            rw [hQ] at z1 z2 z3 z4 z5 z6 ⊢
            refine ⟨by simp, .inl ⟨_, _, rfl, run_takeDeferred (b := Db) (ds := []) z1, ?_⟩⟩
            refine ⟨.tuple #[.int .i64 (S.last + 1), .bool true, .nilIface], by simp [results, Tryd.results8, go_sem, z2, z3, z4], ?_⟩
            unfold OTakeE
            rw [take_new HTT.out HNB.out (by rw [HNBB.out, ← HVT.out]; have := HGN.out; omega)]
            have hpw := HPW.out
            refine ⟨rfl, ⟨_, _, HM4.out.kept (w' := Q.putObj Db (.deferred none)) (z5 pb hpw.1) (z5 bb hpw.2.1) (z5 ib hpw.2.2)⟩, ?_⟩
            exact tn_out HBV.out rfl (HT4.out.trans' (z6.wider (fun i e => Or.inr e)))
  case stop =>
    as_aux_lemma =>
      rintro Db c pre X hD hsp ⟨rfl, p0, x, e1, e2, e3, e4, e5, e6, ⟨DB', DI', e7⟩, e8⟩ hX
      subst e1
      have HB := vl (tk_best HBT.out HI.out hsp e2 e3)
      gi_wp2
      refine ⟨by simp, .inl ⟨_, _, rfl, run_takeDeferred (b := Db) (ds := []) hX, ?_⟩⟩
      have hkl := HKV.out.lt
      have v2 := (World.putObj_heap_other (w := X) (r := Db) (o := .deferred none) (k := w.heap.size + 1 + 1) (by omega)).trans e4
      have v3 := (World.putObj_heap_other (w := X) (r := Db) (o := .deferred none) (k := w.heap.size + 1 + 1 + 1) (by omega)).trans e5
      have v4 := (World.putObj_heap_other (w := X) (r := Db) (o := .deferred none) (k := w.heap.size + 1 + 1 + 1 + 1) (by omega)).trans e6
      have j2 : (X.putObj Db (.deferred none)).cell? ⟨w.heap.size + 1 + 1, 0, none⟩ = some (.int .i64 (T.getD x.1.1 lk0).id) := by simp only [World.cell?, v2]; rfl
      have j3 : (X.putObj Db (.deferred none)).cell? ⟨w.heap.size + 1 + 1 + 1, 0, none⟩ = some (.bool false) := by simp only [World.cell?, v3]; rfl
      have j4 : (X.putObj Db (.deferred none)).cell? ⟨w.heap.size + 1 + 1 + 1 + 1, 0, none⟩ = some .nilIface := by simp only [World.cell?, v4]; rfl
      refine ⟨.tuple #[.int .i64 (T.getD x.1.1 lk0).id, .bool false, .nilIface], by simp [results, Tryd.results8, go_sem, j2, j3, j4], ?_⟩
      unfold OTakeE
      rw [take_again HTT.out HB.out]
      have hlt := HMV.out.lt
      refine ⟨rfl, ⟨DB', DI', e7.kept (World.putObj_heap_other (by omega)) (World.putObj_heap_other (by omega)) (World.putObj_heap_other (by omega))⟩, ?_⟩
      exact tn_putD (tn_pl HBV.out (by omega) e8) (by have := HBV.out.size; omega) _
end Go.Proofs.YtibjbdcmhjbndaaDoor
