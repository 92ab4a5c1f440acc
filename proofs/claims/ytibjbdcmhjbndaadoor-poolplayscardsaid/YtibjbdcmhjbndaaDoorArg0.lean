/-
  BYTES THAT ARE HANDED IN, and bytes that a callee made: what is known of them, later too; and as a text. No claim by itself.
-/
import Derived.Test.YtibjbdcmhjbndaaDoorRow
namespace Go.Proofs.YtibjbdcmhjbndaaDoor
open Go.RowKit
/-- Bytes that are handed in: none, or a row. -/
def Arg (w : World) (a : Option Addr) (len cap : Nat) (Z : List Int) : Prop :=
  (len = 0 ∧ Z = []) ∨ ∃ g off, a = some ⟨g, off, none⟩ ∧ Row w g off len cap Z
theorem Arg.below {w w' : World} {a : Option Addr} {len cap : Nat} {Z : List Int} (h : Arg w a len cap Z) (hb : Below w.heap.size w w') : Arg w' a len cap Z := by
  rcases h with h | ⟨g, off, ha, hr⟩
  · exact Or.inl h
  · exact Or.inr ⟨g, off, ha, hr.below hb⟩
theorem arg_of {w : World} {x : Addr} {len cap : Nat} {zs : List Int} (hz : zs.length = cap) (hl : len ≤ cap) (hm : cap ≤ maxLen)
    (hcell : ∀ i, i < zs.length → w.cell? (x.add i) = some (.int .u8 (zs.getD i 0))) (hwz : ∀ n ∈ zs, (Lit.int .u8 n).wf = true) : Arg w (some x) len cap (zs.take len) := by
  by_cases h0 : len = 0
  · subst h0; exact Or.inl ⟨rfl, by simp⟩
  · have hc := hcell 0 (by omega)
    obtain ⟨g, off, spot⟩ := x
    have hspot : spot = none := by simpa [Addr.add] using World.cell?_spot hc
    subst hspot
    refine Or.inr ⟨g, off, rfl, by simp; omega, hl, hm, fun t ht => ?_, fun t => ?_⟩
    · have h1 := hcell t (by omega)
      have e : (zs.take len).getD t 0 = zs.getD t 0 := by simp [List.getD, ht]
      have hplain : (⟨g, off, none⟩ : Addr).add t = ⟨g, off + t, none⟩ := by unfold Addr.add; split <;> simp_all
      rw [e, ← hplain]
      exact h1
    · by_cases ht : t < len
      · have e : (zs.take len).getD t 0 = zs.getD t 0 := by simp [List.getD, ht]
        have hmem : zs.getD t 0 ∈ zs := by
          rw [List.getD, List.getElem?_eq_getElem (show t < zs.length by omega)]
          exact List.getElem_mem _
        have hw := hwz _ hmem
        rw [e]
        generalize zs.getD t 0 = y at *
        simp [Lit.wf, IntKind.min, IntKind.max, IntKind.bits, IntKind.signed] at hw
        omega
      · have e : (zs.take len).getD t 0 = 0 := by simp [List.getD, List.getElem?_take, ht]
        rw [e]; decide
theorem row_lt {w : World} {base : Nat} {v : Value} {n : Nat} {xs : List Value} {g : Nat} {cap : Nat} (h : w.ownsRow base 5 1 v n xs) (hv : v = .slice (some ⟨g, 0, none⟩) n cap) : g < w.heap.size :=
  (h.lt g (by rw [hv]; rfl)).2
end Go.Proofs.YtibjbdcmhjbndaaDoor
