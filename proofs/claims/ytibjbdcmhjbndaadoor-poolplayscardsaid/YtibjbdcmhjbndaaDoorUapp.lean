/-
  BYTES AND TEXTS BEHIND BYTES: append, as one law each. No claim by itself.
-/
import Derived.Test.YtibjbdcmhjbndaaDoorUspec
import Derived.Lib.AppendStr
import Derived.Deep.DeepAppendWide
import Derived.Laws.AppendOwnNone
import Derived.Deep.AppendSrc
import Derived.Deep.MidRow
import Derived.Deep.Upon
namespace Go.Proofs.YtibjbdcmhjbndaaDoor
open Go.RowKit
set_option maxRecDepth 100000
theorem u_info5 : (Tryd.prog.info? 5).map (fun i => (i.zero, i.size, i.bytes)) = some (some (.int .u8 0), 1, 1) := by kernel_rfl
theorem u_news {w : World} {g off len cap : Nat} {Z : List Int} (h : Row w g off len cap Z) : ∀ j u, (Z.map (Value.int .u8))[j]? = some u → w.cell? ((⟨g, off, none⟩ : Addr).add j) = some u := by
  intro j u hj
  rw [List.getElem?_map] at hj
  have hl := h.hlen
  rcases Nat.lt_or_ge j Z.length with h1 | h1
  · rw [List.getElem?_eq_getElem h1] at hj
    have hc := h.hcell j (by omega)
    have hplain : (⟨g, off, none⟩ : Addr).add j = ⟨g, off + j, none⟩ := by unfold Addr.add; split <;> simp_all
    rw [hplain, hc, ← hj]
    simp [List.getD, List.getElem?_eq_getElem h1]
  · rw [List.getElem?_eq_none h1] at hj; simp at hj
theorem u_one (Z : List Int) : ∀ u ∈ Z.map (Value.int .u8), u.oneCell' = true := by
  intro u hu
  obtain ⟨z, _, rfl⟩ := List.mem_map.1 hu
  rfl
theorem UOwn.grown {w w' : World} {base : Nat} {v : Value} {L : List Int} (h : UOwn w base v L) {row : Option Nat} (hg : w.grownBy w' row) (hr : ∀ k, v.ownBlock = some k → row ≠ some k) : UOwn w' base v L :=
  h.block hg.size (fun k hk => hg.block k (h.base k hk).2 (fun e => hr k hk e.symm))
theorem u_below_grown {B : Nat} {a w w' : World} {row : Option Nat} (h : Below B a w) (g : w.grownBy w' row) (hB : B ≤ w.heap.size) (hr : ∀ k, row = some k → B ≤ k) : Below B a w' :=
  ⟨g.os.trans h.os, g.tape.trans h.tape, g.output.trans h.output, Nat.le_trans h.size g.size, fun i hi => (g.block i (Nat.lt_of_lt_of_le hi hB) (fun e => by have := hr i e.symm; omega)).trans (h.block i hi)⟩
def unums (s : ByteArray) : List Int := s.data.toList.map fun c => (c.toNat : Int)
theorem unums_len (s : ByteArray) : (unums s).length = s.size := by
  unfold unums
  rw [List.length_map, Array.length_toList]
  rfl
theorem u_cells (s : ByteArray) : Lib.strCells s = (unums s).map (Value.int .u8) := by
  unfold unums Lib.strCells
  rw [List.map_map]
  rfl
theorem setCells_size (w : World) (g o : Nat) (vs : List Value) : w.heap.size ≤ (w.setCells g o vs).heap.size := by
  induction vs generalizing w o with
  | nil => exact Nat.le_refl _
  | cons v r ih =>
    have h1 : Below g w (w.setCell ⟨g, o, none⟩ v) := (Below.refl g w).setCell (Nat.le_refl _) v
    exact Nat.le_trans h1.size (ih (w.setCell ⟨g, o, none⟩ v) (o + 1))
theorem setCells_grown (w : World) (g o : Nat) (vs : List Value) : w.grownBy (w.setCells g o vs) (some g) := by
  induction vs generalizing w o with
  | nil => exact ⟨rfl, rfl, rfl, Nat.le_refl _, fun _ _ _ => rfl⟩
  | cons v r ih =>
    have h1 : Below g w (w.setCell ⟨g, o, none⟩ v) := (Below.refl g w).setCell (Nat.le_refl _) v
    have h2 := ih (w.setCell ⟨g, o, none⟩ v) (o + 1)
    refine ⟨h2.os.trans h1.os, h2.tape.trans h1.tape, h2.output.trans h1.output, Nat.le_trans h1.size h2.size, fun i hi hne => ?_⟩
    show ((w.setCell ⟨g, o, none⟩ v).setCells g (o + 1) r).heap[i]? = _
    rw [h2.block i (Nat.lt_of_lt_of_le hi h1.size) hne]
    have hne' : g ≠ i := fun e => hne (by rw [e])
    unfold World.setCell
    rw [Array.getElem?_modify]
    simp [hne']
theorem u_getD {L Z : List Int} {t : Nat} : (L ++ Z).getD t 0 = if t < L.length then L.getD t 0 else Z.getD (t - L.length) 0 := by
  by_cases h : t < L.length
  · rw [if_pos h]; simp [List.getD, List.getElem?_append_left h]
  · rw [if_neg h]; simp [List.getD, List.getElem?_append_right (Nat.le_of_not_lt h)]
section
variable (w : World) {ops : Array Oper} {rest : List Oper} {o : Oper} {a : Act} {Q : Exit → Act → World → Prop}
end
end Go.Proofs.YtibjbdcmhjbndaaDoor
