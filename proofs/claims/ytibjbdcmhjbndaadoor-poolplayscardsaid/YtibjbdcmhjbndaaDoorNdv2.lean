/-
  MESSAGES AS LINES: the developers' forms: without, goesOn, ends, holds. No claim by itself.
-/
import Derived.Test.YtibjbdcmhjbndaaDoorNdv1
namespace Go.Proofs.YtibjbdcmhjbndaaDoor
open Go Go.RowKit Go.Shelf
set_option maxRecDepth 100000
attribute [local go_sem] run_store_func run_store_nilFunc
/-- Two boxes: a form, and what is left out of it. -/
theorem two_boxes (w : World) (x y z : Value) (tx ty : TypeId) : ((w.alloc (.cells #[x, y] tx)).alloc (.cells #[z] ty)).cell? ⟨w.heap.size, 0, none⟩ = some x ∧ ((w.alloc (.cells #[x, y] tx)).alloc (.cells #[z] ty)).cell? ⟨w.heap.size, 1, none⟩ = some y ∧ ((w.alloc (.cells #[x, y] tx)).alloc (.cells #[z] ty)).cell? ⟨w.heap.size + 1, 0, none⟩ = some z := by
  have h1 : ((w.alloc (.cells #[x, y] tx)).alloc (.cells #[z] ty)).heap[w.heap.size]? = some (.cells #[x, y] tx (0, 0)) := by
    rw [Below.heap_alloc _ _ _ (by simp)]
    exact heap_alloc_new w _
  have h2 : ((w.alloc (.cells #[x, y] tx)).alloc (.cells #[z] ty)).heap[w.heap.size + 1]? = some (.cells #[z] ty (0, 0)) := by
    have := heap_alloc_new (w.alloc (.cells #[x, y] tx)) (.cells #[z] ty (0, 0))
    simpa using this
  simp only [World.cell?, h1, h2]
  exact ⟨rfl, rfl, rfl⟩
theorem mayf_congr {w : World} {B : Nat} {F : Value} {p q : Int → Bool} (h : MayF w B F p) (e : ∀ c, p c = q c) : MayF w B F q := by
  have : p = q := funext e
  rw [← this]
  exact h
/- a form's two cells -/
theorem f2_cell {w : World} {B : Nat} {x y : Value} {T : TypeId} (h : w.heap[B]? = some (.cells #[x, y] T (0, 0))) : w.cell? ⟨B, 0, none⟩ = some x ∧ w.cell? ⟨B, 1, none⟩ = some y ∧ w.frozen? ⟨B, 0, none⟩ = false ∧ w.frozen? ⟨B, 1, none⟩ = false := by simp [World.cell?, World.frozen?, h]
theorem f2_set {w : World} {B : Nat} {x y : Value} {T : TypeId} (h : w.heap[B]? = some (.cells #[x, y] T (0, 0))) (u v : Value) : ((w.setCell ⟨B, 0, none⟩ u).setCell ⟨B, 1, none⟩ v).heap[B]? = some (.cells #[u, v] T (0, 0)) := by
  simp [World.setCell, Array.getElem?_modify, h]
end Go.Proofs.YtibjbdcmhjbndaaDoor
