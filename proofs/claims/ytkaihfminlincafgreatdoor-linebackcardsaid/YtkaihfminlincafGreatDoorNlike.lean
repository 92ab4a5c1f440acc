/-
  MESSAGES AS LINES: requests and replies that are alike, in boxes; what is written of them is bytes. No claim by itself.
-/
import Derived.Test.YtkaihfminlincafGreatDoorNsame
import Derived.Test.YtkaihfminlincafGreatDoorNlines
namespace Go.Proofs.YtkaihfminlincafGreatDoor
open Go.RowKit
set_option maxRecDepth 100000
/-- A request, a reply in a box. -/
def RqBox (w : World) (x : Nat) (q : RqM) : Prop := w.heap[x]? = some (.cells #[.string q.m, .string q.p, .string q.h, .slice q.fa q.fn q.fc, .slice q.ba q.bn q.bc] 25 (0, 0))
def RpBox (w : World) (x : Nat) (q : RpM) : Prop := w.heap[x]? = some (.cells #[.int .i64 q.code, .slice q.fa q.fn q.fc, .slice q.ba q.bn q.bc] 27 (0, 0))
theorem blk_lt {w : World} {x : Nat} {o : Obj} (h : w.heap[x]? = some o) : x < w.heap.size := (Array.getElem?_eq_some_iff.1 h).1
theorem RqBox.below {w w' : World} {x : Nat} {q : RqM} (h : RqBox w x q) (hb : Below w.heap.size w w') : RqBox w' x q := (hb.block x (blk_lt h)).trans h
theorem RpBox.below {w w' : World} {x : Nat} {q : RpM} (h : RpBox w x q) (hb : Below w.heap.size w w') : RpBox w' x q := (hb.block x (blk_lt h)).trans h
theorem RqBox.cells {w : World} {x : Nat} {q : RqM} (h : RqBox w x q) : w.cell? ⟨x, 0, none⟩ = some (.string q.m) ∧ w.cell? ⟨x, 1, none⟩ = some (.string q.p) ∧ w.cell? ⟨x, 2, none⟩ = some (.string q.h) ∧ w.cell? ⟨x, 3, none⟩ = some (.slice q.fa q.fn q.fc) ∧ w.cell? ⟨x, 4, none⟩ = some (.slice q.ba q.bn q.bc) := by
  unfold RqBox at h
  simp only [World.cell?, h]
  exact ⟨rfl, rfl, rfl, rfl, rfl⟩
theorem RpBox.cells {w : World} {x : Nat} {q : RpM} (h : RpBox w x q) : w.cell? ⟨x, 0, none⟩ = some (.int .i64 q.code) ∧ w.cell? ⟨x, 1, none⟩ = some (.slice q.fa q.fn q.fc) ∧ w.cell? ⟨x, 2, none⟩ = some (.slice q.ba q.bn q.bc) := by
  unfold RpBox at h
  simp only [World.cell?, h]
  exact ⟨rfl, rfl, rfl⟩
theorem sreq_like (q1 q2 : RqM) (w : World) (h1 : RqIn w q1) (h2 : RqIn w q2) (he : q1.rq = q2.rq) : Calls Tryz.prog 7 #[q1.val, q2.val] w fun e w' => e = .returned (.bool true) ∧ Below w.heap.size w w' := by
  obtain ⟨m, p, h, fa, fn, fc, ba, bn, bc, FL, B⟩ := q1
  obtain ⟨m2, p2, g2, fa2, fn2, fc2, ba2, bn2, bc2, FL2, B2⟩ := q2
  unfold RqM.rq at he
  simp only [Rq.mk.injEq] at he
  obtain ⟨e1, e2, e3, e4, e5⟩ := he
  obtain rfl := unums_inj e1
  obtain rfl := unums_inj e2
  obtain rfl := unums_inj e3
  obtain rfl := fds_inj e4
  subst e5
  obtain rfl : fn = fn2 := h1.fields.len.symm.trans h2.fields.len
  obtain rfl : bn = bn2 := h1.body.len.symm.trans h2.body.len
  exact srequest_any m p h fa fn fc ba bn bc fa2 fc2 ba2 bc2 FL B w h1.fields h2.fields h1.body h2.body h1.most.1
theorem srep_like (q1 q2 : RpM) (w : World) (h1 : RpIn w q1) (h2 : RpIn w q2) (he : q1.rp = q2.rp) : Calls Tryz.prog 10 #[q1.val, q2.val] w fun e w' => e = .returned (.bool true) ∧ Below w.heap.size w w' := by
  obtain ⟨c, fa, fn, fc, ba, bn, bc, FL, B⟩ := q1
  obtain ⟨c2, fa2, fn2, fc2, ba2, bn2, bc2, FL2, B2⟩ := q2
  unfold RpM.rp at he
  simp only [Rp.mk.injEq] at he
  obtain ⟨e1, e4, e5⟩ := he
  subst e1
  obtain rfl := fds_inj e4
  subst e5
  obtain rfl : fn = fn2 := h1.fields.len.symm.trans h2.fields.len
  obtain rfl : bn = bn2 := h1.body.len.symm.trans h2.body.len
  exact sreply_any c fa fn fc ba bn bc fa2 fc2 ba2 bc2 FL B w h1.fields h2.fields h1.body h2.body h1.most.1
theorem errW_zero : errW 0 = .nilIface := rfl
theorem UOwn.cut {w : World} {base : Nat} {v : Value} {L : List Int} (h : UOwn w base v L) (hb : Bytes L) (c : Nat) (hc : c < L.length) : ∃ g cap, v = .slice (some ⟨g, 0, none⟩) L.length cap ∧ c ≤ cap ∧ Arg w (some ⟨g, 0, none⟩) c cap (L.take c) := by
  rcases h with ⟨_, rfl⟩ | ⟨g, cap, rfl, h2, h3, h4, h5, h6, _⟩
  · simp at hc
  · refine ⟨g, cap, rfl, by omega, Or.inr ⟨g, 0, rfl, by simp; omega, by omega, h5, fun t ht => ?_, fun t => ?_⟩⟩
    · rw [Nat.zero_add, h6 t (by omega)]
      simp [List.getD, ht]
    · exact bytes_getD (bytes_take hb c) t
theorem bytes_all {L : List Int} {f : Int → Bool} (h : ∀ c ∈ L, f c = true) (hf : ∀ c, f c = true → 0 ≤ c ∧ c < 256) : Bytes L := fun c hc => hf c (h c hc)
theorem endF_at {α : Type} [Inhabited α] {p : Pz α} {b X : List Int} {v : α} (h : p (b ++ X) = (0, v, X)) : endF p (b ++ X) = (0, v, (b.length : Int)) := by
  rw [endF_ok h]
  simp
theorem bytes_lits {L : List Int} (h : (L.all fun c => decide (0 ≤ c) && decide (c < 256)) = true) : Bytes L := fun c hc => by
  have := List.all_eq_true.1 h c hc
  simp at this
  exact this
theorem bytes_linesF : ∀ FL : List (ByteArray × ByteArray), Bytes (linesL (fdsOf FL))
  | [] => by intro x hx; cases hx
  | f :: r => by
    show Bytes (lineOf (unums f.1, unums f.2) ++ linesL (fdsOf r))
    exact bytes_app (bytes_app (bytes_unums _) (bytes_app (bytes_lits rfl) (bytes_app (bytes_unums _) bytes_line))) (bytes_linesF r)
theorem bytes_lenLine (n : Nat) : Bytes (lenLine n) := bytes_app (bytes_lits rfl) (bytes_app (bytes_lits rfl) (bytes_app (bytes_dec n) (bytes_lits rfl)))
theorem bytes_askq (q : RqM) (hb : Bytes q.B) : Bytes (askL q.rq) := by
  unfold askL RqM.rq
  refine bytes_app (bytes_unums _) (bytes_app (bytes_lits rfl) (bytes_app (bytes_unums _) (bytes_app (bytes_lits rfl) (bytes_app (bytes_lits rfl) (bytes_app (bytes_unums _) (bytes_app bytes_line (bytes_app (bytes_linesF _) ?_)))))))
  unfold tailL
  split
  · exact bytes_line
  · exact bytes_app (bytes_lenLine _) hb
theorem bytes_tellq (q : RpM) (size : Int) (hs : 0 ≤ size) (hb : Bytes q.B) : Bytes (tellL q.rp size) := by
  unfold tellL RpM.rp
  refine bytes_app (bytes_lits rfl) (bytes_app (bytes_dec _) (bytes_app bytes_line (bytes_app (bytes_linesF _) ?_)))
  unfold tellTail
  split
  · exact bytes_app (bytes_lenLine _) hb
  · refine bytes_app (bytes_lits rfl) (bytes_app (bytes_lits rfl) (bytes_chunk ?_ _ _ (Nat.le_refl _) hb))
    split <;> omega
theorem errW_not {x : Int} (h : x ≠ 0) : errW x = .iface 57 (.int .i64 x) := by unfold errW; rw [if_neg h]
theorem endF_inv {α : Type} [Inhabited α] {p : Pz α} {b : List Int} {v : α} {u : Int} (h : endF p b = (0, v, u)) : ∃ X, p b = (0, v, X) ∧ u = (b.length : Int) - X.length := by
  unfold endF at h
  split at h
  · rename_i h0
    simp at h
    refine ⟨(p b).2.2, ?_, h.2.symm⟩
    rw [← h.1, ← h0]
  · split at h
    · simp at h
    · rename_i h0 _
      simp at h
      exact absurd h.1 h0
theorem Arg.head {w : World} {a : Option Addr} {len cap : Nat} {Z : List Int} (h : Arg w a len cap Z) (n : Nat) (hn : n ≤ len) (h1 : 1 ≤ len) : ∃ g off, a = some ⟨g, off, none⟩ ∧ n ≤ cap ∧ Arg w (some ⟨g, off, none⟩) n cap (Z.take n) := by
  rcases h with ⟨h0, _⟩ | ⟨g, off, rfl, hr⟩
  · omega
  · have hl := hr.hlen
    have hc := hr.hcap
    refine ⟨g, off, rfl, by omega, Or.inr ⟨g, off, rfl, by simp; omega, by omega, hr.hmax, fun t ht => ?_, fun t => bytes_getD (bytes_take (fun x hx => ?_) n) t⟩⟩
    · rw [hr.hcell t (by omega)]
      simp [List.getD, ht]
    · obtain ⟨i, hi, rfl⟩ := List.getElem_of_mem hx
      have := hr.hbyte i
      simpa [List.getD, List.getElem?_eq_getElem hi] using this
/- an error, held against nil -/
theorem ewg (x : Operand) (ea : Int) (W : World) : (eqGuard BinOp.eql 29 x (Operand.const Value.nilIface) (errW ea) Value.nilIface).run Tryz.prog W = .ok () W := by
  unfold errW
  split <;> simp [go_sem, eqGuard]
theorem ewg2 (x : Operand) (ea : Int) (W : World) : (eqGuard BinOp.neq 29 x (Operand.const Value.nilIface) (errW ea) Value.nilIface).run Tryz.prog W = .ok () W := by
  unfold errW
  split <;> simp [go_sem, eqGuard]
theorem ewe (ea : Int) (W : World) : (binOp BinOp.eql 29 (errW ea) Value.nilIface).run Tryz.prog W = .ok (.bool (decide (ea = 0))) W := by
  unfold errW
  split <;> simp_all [go_sem]
theorem ewn (ea : Int) (W : World) : (binOp BinOp.neq 29 (errW ea) Value.nilIface).run Tryz.prog W = .ok (.bool (!decide (ea = 0))) W := by
  unfold errW
  split <;> simp_all [go_sem]
end Go.Proofs.YtkaihfminlincafGreatDoor
