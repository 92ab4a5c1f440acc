/-
  WHAT A CALL TURNS, and what it leaves. No claim by itself.
-/
import Derived.Test.YtibjbdcmhjbndaaDoorVl
namespace Go.Proofs.YtibjbdcmhjbndaaDoor
open Go.RowKit
set_option maxRecDepth 100000
/-- Behind a call that turns the blocks of S alone. -/
structure Tn (S : Nat → Prop) (w w' : World) : Prop where
  os : w'.os = w.os
  tape : w'.tape = w.tape
  output : w'.output = w.output
  size : w.heap.size ≤ w'.heap.size
  block : ∀ k, k < w.heap.size → ¬ S k → w'.heap[k]? = w.heap[k]?
theorem Tn.refl (S : Nat → Prop) (w : World) : Tn S w w := ⟨rfl, rfl, rfl, Nat.le_refl _, fun _ _ _ => rfl⟩
theorem Tn.of_below {S : Nat → Prop} {w w' : World} (h : Below w.heap.size w w') : Tn S w w' := ⟨h.os, h.tape, h.output, h.size, fun k hk _ => h.block k hk⟩
theorem Tn.below {S : Nat → Prop} {B : Nat} {a w w' : World} (h : Below B a w) (k : Tn S w w') (hB : B ≤ w.heap.size) (hS : ∀ i, S i → B ≤ i) : Below B a w' :=
  ⟨k.os.trans h.os, k.tape.trans h.tape, k.output.trans h.output, Nat.le_trans h.size k.size, fun i hi => (k.block i (by omega) (fun hs => by have := hS i hs; omega)).trans (h.block i hi)⟩
theorem tn_set {S : Nat → Prop} {w : World} {a : Addr} {v : Value} (hS : S a.block) : Tn S w (w.setCell a v) := by
  have hb := (Below.refl a.block w).setCell (Nat.le_refl _) v
  refine ⟨hb.os, hb.tape, hb.output, hb.size, fun k _ hs => ?_⟩
  have hne : a.block ≠ k := fun e => hs (e ▸ hS)
  unfold World.setCell
  rw [Array.getElem?_modify]
  simp [hne]
theorem blk_of_cell {w : World} {g o : Nat} {v : Value} (h : w.cell? ⟨g, o, none⟩ = some v) : g < w.heap.size := by
  rcases Nat.lt_or_ge g w.heap.size with h1 | h1
  · exact h1
  · simp [World.cell?, Array.getElem?_eq_none h1] at h
theorem Tn.cell {S : Nat → Prop} {w w' : World} (h : Tn S w w') {g o : Nat} {v : Value} (hc : w.cell? ⟨g, o, none⟩ = some v) (hn : ¬ S g) : w'.cell? ⟨g, o, none⟩ = some v :=
  (World.cell?_of_block (a := ⟨g, o, none⟩) (h.block g (blk_of_cell hc) hn)).trans hc
def errW (n : Int) : Value := if n = 0 then .nilIface else .iface 53 (.int .i64 n)
end Go.Proofs.YtibjbdcmhjbndaaDoor
