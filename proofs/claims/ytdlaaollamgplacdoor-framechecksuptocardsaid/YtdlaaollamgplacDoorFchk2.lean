/-
  TWO PAIRS that are alike. No claim by itself.
-/
import Derived.Test.YtdlaaollamgplacDoorFchk1
import Derived.Laws.StructEq
import Derived.ChangeKeysEq
namespace Go.Proofs.YtdlaaollamgplacDoor
open Go Go.RowKit
set_option maxRecDepth 100000
theorem eqGuardA : Tryd.prog.eqGuardType Tryd.prog.depth 59 = false := by kernel_rfl
theorem run_neqA (x y : Int) (w : World) : (binOp .neq 59 (.agg #[.int .i64 x, .int .i64 y]) (.agg #[.int .i64 x, .int .i64 y])).run Tryd.prog w = .ok (.bool false) w := by
  have hu := Tryd.underlying59
  have h3 := Tryd.underlying3
  obtain ⟨i0, hi, _, _, _⟩ := info_parts (show (Tryd.prog.info? 3).map (fun i => (i.zero, i.size, i.bytes)) = some (some (.int .i64 0), 1, 8) by kernel_rfl)
  rw [run_neq_struct, run_equalIn_array w 9999 _ _ hu hi]
  have c3 : Tryd.prog.cellsOf 3 = 1 := by kernel_rfl
  rw [show List.range 2 = [0, 1] from rfl, c3]
  simp [go_sem, Op.eqItems, part, h3]
theorem news_two (w : World) (x0 x1 : Value) : ∀ j u, [x0, x1][j]? = some u → (w.alloc (.cells #[x0, x1] 59)).cell? ((⟨w.heap.size, 0, none⟩ : Addr).add j) = some u := by
  intro j u hj
  have hadd : (⟨w.heap.size, 0, none⟩ : Addr).add j = ⟨w.heap.size, j, none⟩ := by unfold Addr.add; split <;> simp_all
  rw [hadd, cell_of_row _ _ j _ _ _ (heap_alloc_new w _), ← hj]
  simp
theorem one_two (x y : Int) : ∀ u ∈ [Value.int .i64 x, .int .i64 y], u.oneCell' = true := by
  intro u hu
  simp at hu
  rcases hu with rfl | rfl <;> rfl
end Go.Proofs.YtdlaaollamgplacDoor
