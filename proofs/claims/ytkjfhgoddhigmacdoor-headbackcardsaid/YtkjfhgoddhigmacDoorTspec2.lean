/-
  WHAT IS ASKED of package table besides, and rows of rows of numbers that are handed in. No claim by itself.
-/
import Derived.Test.YtkjfhgoddhigmacDoorTspec
namespace Go.Proofs.YtkjfhgoddhigmacDoor
open Go.RowKit
def TResizeSaid (D : TabD) : Prop := ∀ (tb : Nat) (max : Int) (A : List (ByteArray × ByteArray)) (S : Nat → Prop) (m : Int) (w : World), D w tb max A S → Fit max A →
    Calls Tryd.prog 18 #[tval tb, .int .i64 m] w fun e w' => Off S w w' ∧ ∃ S', (∀ k, S' k → S k ∨ w.heap.size ≤ k) ∧
      ((0 ≤ m ∧ m ≤ 4096 ∧ e = .returned .nilIface ∧ D w' tb m (A.take (keepN A m A.length)) S') ∨ (¬ (0 ≤ m ∧ m ≤ 4096) ∧ e = .returned (.iface 49 (.int .i64 1)) ∧ D w' tb max A S'))
def TMaxSaid (D : TabD) : Prop := ∀ (tb : Nat) (max : Int) (A : List (ByteArray × ByteArray)) (S : Nat → Prop) (w : World), D w tb max A S → Fit max A →
    Calls Tryd.prog 24 #[tval tb] w fun e w' => e = .returned (.int .i64 max) ∧ Below w.heap.size w w'
theorem Fit.shrink {m : Int} {A : List (ByteArray × ByteArray)} (h0 : 0 ≤ m) (h1 : m ≤ 4096) : Fit m (A.take (keepN A m A.length)) :=
  ⟨h0, h1, keepN_fits A m h0 A.length⟩
/-- Rows of numbers. -/
structure IRows (w : World) (g off len cap : Nat) (A : Nat → Option Addr) (L C : Nat → Nat) (Z : Nat → List Int) : Prop where
  hcap : len ≤ cap
  hmax : cap ≤ maxLen
  hrow : ∀ r, r < len → w.cell? ⟨g, off + r, none⟩ = some (.slice (A r) (L r) (C r)) ∧ L r ≤ C r ∧ C r ≤ maxLen
  hcell : ∀ r, r < len → ∀ c, c < L r → ∃ g' off', A r = some ⟨g', off', none⟩ ∧ w.cell? ⟨g', off' + c, none⟩ = some (.int .i64 ((Z r).getD c 0))
def IArg (w : World) (a : Option Addr) (len cap : Nat) (A : Nat → Option Addr) (L C : Nat → Nat) (Z : Nat → List Int) : Prop :=
  len = 0 ∨ ∃ g off, a = some ⟨g, off, none⟩ ∧ IRows w g off len cap A L C Z
theorem lt_of_cell {w : World} {g o : Nat} {v : Value} (h : w.cell? ⟨g, o, none⟩ = some v) : g < w.heap.size := by
  rcases Nat.lt_or_ge g w.heap.size with h1 | h1
  · exact h1
  · simp [World.cell?, Array.getElem?_eq_none h1] at h
theorem IArg.below {w w' : World} {a : Option Addr} {len cap : Nat} {A : Nat → Option Addr} {L C : Nat → Nat} {Z : Nat → List Int} (h : IArg w a len cap A L C Z) (hb : Below w.heap.size w w') : IArg w' a len cap A L C Z := by
  rcases h with h | ⟨g, off, ha, h1, h2, h3, h4⟩
  · exact Or.inl h
  · refine Or.inr ⟨g, off, ha, h1, h2, fun r hr => ?_, fun r hr c hc => ?_⟩
    · have k := h3 r hr
      exact ⟨(hb.cell (p := ⟨g, off + r, none⟩) (lt_of_cell k.1)).trans k.1, k.2⟩
    · obtain ⟨g', off', e, k⟩ := h4 r hr c hc
      exact ⟨g', off', e, (hb.cell (p := ⟨g', off' + c, none⟩) (lt_of_cell k)).trans k⟩
end Go.Proofs.YtkjfhgoddhigmacDoor
