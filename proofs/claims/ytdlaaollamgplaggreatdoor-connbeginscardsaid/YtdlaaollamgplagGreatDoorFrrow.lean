/-
  FRAMES IN A ROW OF MEMORY (as in frow). No claim by itself.
-/
import Derived.Test.YtdlaaollamgplagGreatDoorSfr
namespace Go.Proofs.YtdlaaollamgplagGreatDoor
open Go.RowKit
/-- Frames in a row of memory: each one's numbers, where its body lies, and the body. -/
structure FrRow (w : World) (g off len cap : Nat) (F : Nat → Frm) (A : Nat → Option Addr) (C : Nat → Nat) : Prop where
  hcap : len ≤ cap
  hmax : cap ≤ maxLen
  hel : ∀ t, t < len → (w.cell? ⟨g, off + t * 4, none⟩ = some (.int .i64 (F t).1) ∧ w.cell? ⟨g, off + t * 4 + 1, none⟩ = some (.int .i64 (F t).2.1)) ∧ (w.cell? ⟨g, off + t * 4 + 2, none⟩ = some (.int .i64 (F t).2.2.1) ∧ w.cell? ⟨g, off + t * 4 + 3, none⟩ = some (.slice (A t) (F t).2.2.2.length (C t))) ∧
    Arg w (A t) (F t).2.2.2.length (C t) (F t).2.2.2
theorem lt_cell {w : World} {g o : Nat} {v : Value} (h : w.cell? ⟨g, o, none⟩ = some v) : g < w.heap.size := by
  rcases Nat.lt_or_ge g w.heap.size with h1 | h1
  · exact h1
  · simp [World.cell?, Array.getElem?_eq_none h1] at h
theorem FrRow.below {w w' : World} {g off len cap : Nat} {F : Nat → Frm} {A : Nat → Option Addr} {C : Nat → Nat} (h : FrRow w g off len cap F A C) (hb : Below w.heap.size w w') : FrRow w' g off len cap F A C := by
  refine ⟨h.hcap, h.hmax, fun t ht => ?_⟩
  obtain ⟨⟨h1, h2⟩, ⟨h3, h4⟩, h5⟩ := h.hel t ht
  have hg := lt_cell h1
  exact ⟨⟨(hb.cell (p := ⟨g, off + t * 4, none⟩) hg).trans h1, (hb.cell (p := ⟨g, off + t * 4 + 1, none⟩) hg).trans h2⟩, ⟨(hb.cell (p := ⟨g, off + t * 4 + 2, none⟩) hg).trans h3, (hb.cell (p := ⟨g, off + t * 4 + 3, none⟩) hg).trans h4⟩, h5.below hb⟩
theorem arg_byte {w : World} {a : Option Addr} {len cap : Nat} {Z : List Int} (h : Arg w a len cap Z) : ∀ x ∈ Z, 0 ≤ x ∧ x < 256 := by
  rcases h with ⟨_, rfl⟩ | ⟨g, off, _, hr⟩
  · simp
  · exact byte_mem hr.hbyte
end Go.Proofs.YtdlaaollamgplagGreatDoor
