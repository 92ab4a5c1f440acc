/-
  ROWS OF ROWS OF NUMBERS THAT ARE HANDED IN: what a call may know of them. No claim by itself.
-/
import Derived.Test.YtkjfhgoddhigmabDoorTspec2
import Derived.Test.YtkjfhgoddhigmabDoorFopen
import Derived.Deep.Matrix
namespace Go.Proofs.YtkjfhgoddhigmabDoor
open Go.RowKit
set_option maxRecDepth 100000
open Go.Deep
theorem rows_open {H : Type} {enc : TypeId × Value → H} {W : World} {ts : List TypeId} {ds : List (DataW H)} {j fuel : Nat} {d : DataW H} {p : List MemPlace} {a : Option Addr} {len cap : Nat}
    (hsz : (DataW.weightsEach Tryd.prog ts ds).all (· ≤ reachBytes) = true) (hj : ts[j]? = some 23) (hd : ds[j]? = some d)
    (hf : DataW.trod enc Tryd.prog W 0 (fun _ => true) true fuel 23 (Value.slice a len cap).cells.toList = some (d, p)) :
    ∃ A L C Z, IArg W a len cap A L C Z ∧ len ≤ 4611686018427387904 := by
  rcases open_int_rows Tryd.underlying23 Tryd.underlying34 Tryd.underlying3 (by kernel_rfl) (by kernel_rfl) hf with ⟨hcs, _⟩ | ⟨x, l, c, A, L, C, Z, hcs, _, hl, hm, hx, hel⟩
  · simp [Value.cells] at hcs
    obtain ⟨rfl, rfl, rfl⟩ := hcs
    exact ⟨fun _ => none, fun _ => 0, fun _ => 0, fun _ => [], Or.inl rfl, by decide⟩
  · simp [Value.cells] at hcs
    obtain ⟨rfl, rfl, rfl⟩ := hcs
    have hdd := congrArg Prod.fst hx
    simp only at hdd
    have hsl := sized_slice hsz hj (by rw [hd, hdd]) Tryd.underlying23
    have hby : Tryd.prog.bytesOf 34 = 24 := by kernel_rfl
    rw [hby] at hsl
    simp only [List.length_map, List.length_range, reachBytes] at hsl
    refine ⟨A, L, C, Z, ?_, by omega⟩
    by_cases h0 : len = 0
    · exact Or.inl h0
    · obtain ⟨hc, _⟩ := hel 0 (by omega)
      obtain ⟨g, off, spot⟩ := x
      have hspot : spot = none := by simpa [Addr.add] using World.cell?_spot hc
      subst hspot
      refine Or.inr ⟨g, off, rfl, hl, hm, fun r hr => ?_, fun r hr q hq => ?_⟩
      · obtain ⟨k1, k2, k3, _⟩ := hel r (by omega)
        rw [add_at] at k1
        exact ⟨k1, k2, k3⟩
      · obtain ⟨_, k2, k3, _, _, k6, k7⟩ := hel r (by omega)
        match hA : A r with
        | none => have := k6 hA; omega
        | some a' =>
          obtain ⟨_, k8⟩ := k7 a' hA
          have hc0 := k8 0 (by omega)
          obtain ⟨g', off', spot'⟩ := a'
          have hspot' : spot' = none := by simpa [Addr.add] using World.cell?_spot hc0
          subst hspot'
          have h1 := k8 q (by omega)
          rw [add_at] at h1
          exact ⟨g', off', rfl, h1⟩
end Go.Proofs.YtkjfhgoddhigmabDoor
