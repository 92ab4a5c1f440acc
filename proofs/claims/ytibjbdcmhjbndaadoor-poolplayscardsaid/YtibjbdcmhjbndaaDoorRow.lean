/-
  ROWS OF BYTES: what is known of them, later too. No claim by itself.
-/
import Derived.Test.YtibjbdcmhjbndaaDoorProg
import Derived.WalkKit
import Derived.WalkLawsBesides
import Derived.WalkSpells
import Derived.Laws.BytesArg
namespace Go.Proofs.YtibjbdcmhjbndaaDoor
open Go.RowKit
/-- The numbers in a row of bytes. -/
structure Row (w : World) (g off len cap : Nat) (Z : List Int) : Prop where
  hlen : Z.length = len
  hcap : len ≤ cap
  hmax : cap ≤ maxLen
  hcell : ∀ t, t < len → w.cell? ⟨g, off + t, none⟩ = some (.int .u8 (Z.getD t 0))
  hbyte : ∀ t, 0 ≤ Z.getD t 0 ∧ Z.getD t 0 < 256
theorem Row.below {w w' : World} {g off len cap : Nat} {Z : List Int} (h : Row w g off len cap Z) (hb : Below w.heap.size w w') : Row w' g off len cap Z := by
  refine ⟨h.hlen, h.hcap, h.hmax, fun t ht => ?_, h.hbyte⟩
  have hc := h.hcell t ht
  have hlt : g < w.heap.size := by
    rcases Nat.lt_or_ge g w.heap.size with h1 | h1
    · exact h1
    · simp [World.cell?, Array.getElem?_eq_none h1] at hc
  exact (hb.cell (p := ⟨g, off + t, none⟩) hlt).trans hc
theorem own_below {w w' : World} {base n : Nat} {v : Value} {xs : List Value} (h : w.ownsRow base 5 1 v n xs) (hb : Below w.heap.size w w') : w'.ownsRow base 5 1 v n xs := by
  obtain ⟨h1, h2 | ⟨g, cap, cur, hv, hg, hc, r⟩⟩ := h
  · exact ⟨h1, Or.inl h2⟩
  · have hlt : g < w.heap.size := by
      rcases Nat.lt_or_ge g w.heap.size with h3 | h3
      · exact h3
      · rw [Array.getElem?_eq_none h3] at hc; simp at hc
    exact ⟨h1, Or.inr ⟨g, cap, cur, hv, hg, by rw [hb.block g hlt]; exact hc, r⟩⟩
theorem row_of {w : World} {base l cap g : Nat} {L : List Int} (hl : L.length = l) (h : w.ownsRow base 5 1 (.slice (some ⟨g, 0, none⟩) l cap) l (L.map (Value.int .u8))) (hb : ∀ x ∈ L, 0 ≤ x ∧ x < 256) : Row w g 0 l cap L := by
  have hcap : l ≤ cap ∧ cap ≤ maxLen := by
    obtain ⟨_, ⟨hv, _⟩ | ⟨g', cap', cur, hv, _, _, hc, hm, _⟩⟩ := h
    · cases hv
    · cases hv; exact ⟨hc, hm⟩
  refine ⟨hl, hcap.1, hcap.2, fun t ht => ?_, fun t => ?_⟩
  · have hc := h.cellAt t (by omega)
    rw [Nat.zero_add, hc]
    simp [List.getElem?_eq_getElem (show t < L.length by omega)]
  · by_cases ht : t < L.length
    · have hmem : L.getD t 0 ∈ L := by
        rw [List.getD, List.getElem?_eq_getElem ht]
        exact List.getElem_mem _
      exact hb _ hmem
    · have e : L.getD t 0 = 0 := by simp [List.getD, List.getElem?_eq_none (show L.length ≤ t by omega)]
      rw [e]; decide
theorem Row.take {w : World} {g off len cap : Nat} {Z : List Int} (h : Row w g off len cap Z) (s : Nat) (hs : s ≤ len) : Row w g off s cap (Z.take s) := by
  have hl := h.hlen
  have hc := h.hcap
  refine ⟨by simp; omega, by omega, h.hmax, fun t ht => ?_, fun t => ?_⟩
  · have e : (Z.take s).getD t 0 = Z.getD t 0 := by simp [List.getD, ht]
    rw [e]; exact h.hcell t (by omega)
  · by_cases ht : t < s
    · have e : (Z.take s).getD t 0 = Z.getD t 0 := by simp [List.getD, ht]
      rw [e]; exact h.hbyte t
    · have e : (Z.take s).getD t 0 = 0 := by simp [List.getD, List.getElem?_take, ht]
      rw [e]; decide
end Go.Proofs.YtibjbdcmhjbndaaDoor
