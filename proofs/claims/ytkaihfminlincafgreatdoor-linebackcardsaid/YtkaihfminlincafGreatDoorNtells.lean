/-
  THE WALK of the Go function tolllaw2.LineTells, its callees by their contracts. No claim by itself.
-/
import Derived.Test.YtkaihfminlincafGreatDoorNlike
import Derived.Test.YtkaihfminlincafGreatDoorTold
import Derived.Deep.DeepCutAuto
import Derived.Deep.CutBlock
namespace Go.Proofs.YtkaihfminlincafGreatDoor
open Go.RowKit
set_option maxRecDepth 100000
/-- An error, held against its number. -/
theorem error_w (n : Int) (w : World) (hg : Laid w) : Calls Tryz.prog 6 #[errW n, .int .i64 n] w fun e w' => e = .returned (.bool true) ∧ Below w.heap.size w w' := by
  unfold errW
  by_cases h : n = 0
  · rw [if_pos h]
    refine (error_nil n w).mono ?_
    rintro e w' ⟨rfl, rfl⟩
    exact ⟨by rw [h]; rfl, Below.refl _ _⟩
  · rw [if_neg h]
    refine (error_hit n n w hg).mono ?_
    rintro e w' ⟨rfl, hb⟩
    exact ⟨by simp, hb⟩
end Go.Proofs.YtkaihfminlincafGreatDoor
