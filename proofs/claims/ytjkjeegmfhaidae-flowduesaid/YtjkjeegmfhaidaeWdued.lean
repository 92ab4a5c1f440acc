/-
  CONTRACT of the Go function flow.Due, as it may be written. No claim by itself.
-/
import Derived.Test.YtjkjeegmfhaidaeWdue
namespace Go.Proofs.Ytjkjeegmfhaidae
open Go.RowKit
set_option maxRecDepth 100000
theorem due_any : WDueSaid := by
  intro l f w h1 h2 h3
  unfold dueF
  have f0 : 0 ≤ f := by omega
  by_cases h : l < f / 2
  · rw [if_pos h]
    go_enter Try.func5, Try.ntmps5
    go_wp2
    go_ret
    exact ⟨rfl, Below.refl _ _⟩
  · rw [if_neg h]
    have h' : f / 2 ≤ l := by omega
    clear h
    go_enter Try.func5, Try.ntmps5
    go_wp2
    go_ret
    exact ⟨rfl, Below.refl _ _⟩
end Go.Proofs.Ytjkjeegmfhaidae
