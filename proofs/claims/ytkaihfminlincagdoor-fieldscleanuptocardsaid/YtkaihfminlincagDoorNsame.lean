/-
  MESSAGES AS LINES: tollsame.Fields, Request, Reply, at like ones. No claim by itself.
-/
import Derived.Test.YtkaihfminlincagDoorNopn
import Derived.Deep.QuietTactic
import Derived.BigQuiet
namespace Go.Proofs.YtkaihfminlincagDoor
open Go.RowKit
set_option maxRecDepth 100000
theorem fds_inj : ∀ {A B : List (ByteArray × ByteArray)}, fdsOf A = fdsOf B → A = B
  | [], [], _ => rfl
  | [], _ :: _, h => by simp [fdsOf] at h
  | _ :: _, [], h => by simp [fdsOf] at h
  | (a, b) :: A, (c, d) :: B, h => by
    simp only [fdsOf, List.map_cons, List.cons.injEq, Prod.mk.injEq] at h
    obtain ⟨⟨h1, h2⟩, h3⟩ := h
    rw [unums_inj h1, unums_inj h2, fds_inj (A := A) (B := B) h3]
end Go.Proofs.YtkaihfminlincagDoor
