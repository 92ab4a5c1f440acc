/-
  WINDOWS: what is asked of package flow, over whatever a window's memory looks like. No claim by itself.
-/
import Derived.Test.YtjkjeegmfhaidadDoorVl
namespace Go.Proofs.YtjkjeegmfhaidadDoor
open Go.RowKit
set_option maxRecDepth 100000
/-- Behind a call that turns the blocks of S alone. -/
structure Tn (S : Nat → Prop) (w w' : World) : Prop where
  os : w'.os = w.os
  tape : w'.tape = w.tape
  output : w'.output = w.output
  size : w.heap.size ≤ w'.heap.size
  block : ∀ k, k < w.heap.size → ¬ S k → w'.heap[k]? = w.heap[k]?
theorem Tn.refl (S : Nat → Prop) (w : World) : Tn S w w := ⟨rfl, rfl, rfl, Nat.le_refl _, fun _ _ _ => rfl⟩
theorem Tn.of_below {S : Nat → Prop} {w w' : World} (h : Below w.heap.size w w') : Tn S w w' := ⟨h.os, h.tape, h.output, h.size, fun k hk _ => h.block k hk⟩
theorem Tn.below {S : Nat → Prop} {B : Nat} {a w w' : World} (h : Below B a w) (k : Tn S w w') (hB : B ≤ w.heap.size) (hS : ∀ i, S i → B ≤ i) : Below B a w' :=
  ⟨k.os.trans h.os, k.tape.trans h.tape, k.output.trans h.output, Nat.le_trans h.size k.size, fun i hi => (k.block i (by omega) (fun hs => by have := hS i hs; omega)).trans (h.block i hi)⟩
theorem tn_set {S : Nat → Prop} {w : World} {a : Addr} {v : Value} (hS : S a.block) : Tn S w (w.setCell a v) := by
  have hb := (Below.refl a.block w).setCell (Nat.le_refl _) v
  refine ⟨hb.os, hb.tape, hb.output, hb.size, fun k _ hs => ?_⟩
  have hne : a.block ≠ k := fun e => hs (e ▸ hS)
  unfold World.setCell
  rw [Array.getElem?_modify]
  simp [hne]
theorem blk_of_cell {w : World} {g o : Nat} {v : Value} (h : w.cell? ⟨g, o, none⟩ = some v) : g < w.heap.size := by
  rcases Nat.lt_or_ge g w.heap.size with h1 | h1
  · exact h1
  · simp [World.cell?, Array.getElem?_eq_none h1] at h
theorem Tn.cell {S : Nat → Prop} {w w' : World} (h : Tn S w w') {g o : Nat} {v : Value} (hc : w.cell? ⟨g, o, none⟩ = some v) (hn : ¬ S g) : w'.cell? ⟨g, o, none⟩ = some v :=
  (World.cell?_of_block (a := ⟨g, o, none⟩) (h.block g (blk_of_cell hc) hn)).trans hc
def errW (n : Int) : Value := if n = 0 then .nilIface else .iface 44 (.int .i64 n)
/-- What taking, giving and shifting tell, and what is left then. -/
def takeF (n a : Int) : Int × Int := if a < 0 then (1, n) else if n < a then (9, n) else (0, n - a)
def giveF (n a : Int) : Int × Int := if a < 1 ∨ 2147483647 < a then (1, n) else if 2147483647 < n + a then (10, n) else (0, n + a)
def shiftF (n a b : Int) : Int × Int := if a < 0 ∨ 2147483647 < a ∨ b < 0 ∨ 2147483647 < b then (1, n) else if 2147483647 < n + b - a then (10, n) else (0, n + b - a)
/-- No sum of such a number and another one goes round. -/
def Mild (n : Int) : Prop := -1000000000000 ≤ n ∧ n ≤ 2147483647
/-- What a window is: in a world, at a block, its number, the blocks that are its own. -/
abbrev WinD := World → Nat → Int → (Nat → Prop) → Prop
def wptr (wb : Nat) : Value := .pointer (some ⟨wb, 0, none⟩)
def WNewSaid (D : WinD) : Prop := ∀ (n : Int) (w : World), Calls Tryd.prog 10 #[.int .i64 n] w fun e w' => Below w.heap.size w w' ∧
  ((0 ≤ n ∧ n ≤ 2147483647 ∧ ∃ wb S, e = .returned (.tuple #[wptr wb, .nilIface]) ∧ D w' wb n S ∧ ∀ k, S k → w.heap.size ≤ k) ∨ (¬ (0 ≤ n ∧ n ≤ 2147483647) ∧ ∃ v, e = .returned (.tuple #[v, .iface 44 (.int .i64 1)])))
def WTakeSaid (D : WinD) : Prop := ∀ (wb : Nat) (n : Int) (S : Nat → Prop) (a : Int) (w : World), D w wb n S → Mild n → Calls Tryd.prog 11 #[wptr wb, .int .i64 a] w fun e w' => e = .returned (errW (takeF n a).1) ∧ D w' wb (takeF n a).2 S ∧ Tn S w w'
def WGiveSaid (D : WinD) : Prop := ∀ (wb : Nat) (n : Int) (S : Nat → Prop) (a : Int) (w : World), D w wb n S → Mild n → Calls Tryd.prog 12 #[wptr wb, .int .i64 a] w fun e w' => e = .returned (errW (giveF n a).1) ∧ D w' wb (giveF n a).2 S ∧ Tn S w w'
def WShiftSaid (D : WinD) : Prop := ∀ (wb : Nat) (n : Int) (S : Nat → Prop) (a b : Int) (w : World), D w wb n S → Mild n → Calls Tryd.prog 13 #[wptr wb, .int .i64 a, .int .i64 b] w fun e w' => e = .returned (errW (shiftF n a b).1) ∧ D w' wb (shiftF n a b).2 S ∧ Tn S w w'
def WLeftSaid (D : WinD) : Prop := ∀ (wb : Nat) (n : Int) (S : Nat → Prop) (w : World), D w wb n S → Calls Tryd.prog 14 #[wptr wb] w fun e w' => e = .returned (.int .i64 n) ∧ w = w'
structure WinKeeps (D : WinD) : Prop where
  lt : ∀ {w wb n S}, D w wb n S → ∀ k, S k → k < w.heap.size
  frame : ∀ {w w' wb n S}, D w wb n S → (∀ k, S k → w'.heap[k]? = w.heap[k]?) → D w' wb n S
theorem WinKeeps.below {D : WinD} (K : WinKeeps D) {w w' : World} {wb : Nat} {n : Int} {S : Nat → Prop} (h : D w wb n S) (hb : Below w.heap.size w w') : D w' wb n S := K.frame h (fun k hk => hb.block k (K.lt h k hk))
theorem take_mild {n a : Int} (h : Mild n) : Mild (takeF n a).2 ∨ 0 ≤ (takeF n a).2 := by
  unfold takeF Mild at *
  by_cases h1 : a < 0
  · rw [if_pos h1]; exact Or.inl h
  rw [if_neg h1]
  by_cases h2 : n < a
  · rw [if_pos h2]; exact Or.inl h
  · rw [if_neg h2]; simp only; omega
end Go.Proofs.YtjkjeegmfhaidadDoor
