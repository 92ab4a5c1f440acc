/-
  ROWS OF ROWS OF NUMBERS THAT ARE HANDED IN, with what each number can be. No claim by itself.
-/
import Derived.Test.YtibjbdcmhjbndaaDoorNopen
namespace Go.Proofs.YtibjbdcmhjbndaaDoor
open Go.RowKit
open Go.Deep
set_option maxRecDepth 100000
/-- Rows of numbers. -/
structure JRows (w : World) (g off len cap : Nat) (A : Nat → Option Addr) (L C : Nat → Nat) (Z : Nat → List Int) : Prop where
  hcap : len ≤ cap
  hmax : cap ≤ maxLen
  hrow : ∀ r, r < len → w.cell? ⟨g, off + r, none⟩ = some (.slice (A r) (L r) (C r)) ∧ L r ≤ C r ∧ C r ≤ maxLen
  hcell : ∀ r, r < len → ∀ c, c < L r → ∃ g' off', A r = some ⟨g', off', none⟩ ∧ w.cell? ⟨g', off' + c, none⟩ = some (.int .i64 ((Z r).getD c 0)) ∧ (Lit.int .i64 ((Z r).getD c 0)).wf = true
def JArg (w : World) (a : Option Addr) (len cap : Nat) (A : Nat → Option Addr) (L C : Nat → Nat) (Z : Nat → List Int) : Prop :=
  len = 0 ∨ ∃ g off, a = some ⟨g, off, none⟩ ∧ JRows w g off len cap A L C Z
theorem JArg.below {w w' : World} {a : Option Addr} {len cap : Nat} {A : Nat → Option Addr} {L C : Nat → Nat} {Z : Nat → List Int} (h : JArg w a len cap A L C Z) (hb : Below w.heap.size w w') : JArg w' a len cap A L C Z := by
  rcases h with h | ⟨g, off, ha, h1, h2, h3, h4⟩
  · exact Or.inl h
  · refine Or.inr ⟨g, off, ha, h1, h2, fun r hr => ?_, fun r hr c hc => ?_⟩
    · have k := h3 r hr
      exact ⟨(hb.cell (p := ⟨g, off + r, none⟩) (lt_of_cell k.1)).trans k.1, k.2⟩
    · obtain ⟨g', off', e, k, k'⟩ := h4 r hr c hc
      exact ⟨g', off', e, (hb.cell (p := ⟨g', off' + c, none⟩) (lt_of_cell k)).trans k, k'⟩
theorem jrows_open {H : Type} {enc : TypeId × Value → H} {W : World} {ts : List TypeId} {ds : List (DataW H)} {j fuel : Nat} {d : DataW H} {p : List MemPlace} {a : Option Addr} {len cap : Nat}
    (hsz : (DataW.weightsEach Tryd.prog ts ds).all (· ≤ reachBytes) = true) (hj : ts[j]? = some 22) (hd : ds[j]? = some d)
    (hf : DataW.trod enc Tryd.prog W 0 (fun _ => true) true fuel 22 (Value.slice a len cap).cells.toList = some (d, p)) :
    ∃ A L C Z, JArg W a len cap A L C Z ∧ len ≤ 4611686018427387904 := by
  rcases open_int_rows Tryd.underlying22 Tryd.underlying35 Tryd.underlying3 (by kernel_rfl) (by kernel_rfl) hf with ⟨hcs, _⟩ | ⟨x, l, c, A, L, C, Z, hcs, _, hl, hm, hx, hel⟩
  · simp [Value.cells] at hcs
    obtain ⟨rfl, rfl, rfl⟩ := hcs
    exact ⟨fun _ => none, fun _ => 0, fun _ => 0, fun _ => [], Or.inl rfl, by decide⟩
  · simp [Value.cells] at hcs
    obtain ⟨rfl, rfl, rfl⟩ := hcs
    have hdd := congrArg Prod.fst hx
    simp only at hdd
    have hsl := sized_slice hsz hj (by rw [hd, hdd]) Tryd.underlying22
    have hby : Tryd.prog.bytesOf 35 = 24 := by kernel_rfl
    rw [hby] at hsl
    simp only [List.length_map, List.length_range, reachBytes] at hsl
    refine ⟨A, L, C, Z, ?_, by omega⟩
    by_cases h0 : len = 0
    · exact Or.inl h0
    · obtain ⟨hc, _⟩ := hel 0 (by omega)
      obtain ⟨g, off, spot⟩ := x
      have hspot : spot = none := by simpa [Addr.add] using World.cell?_spot hc
      subst hspot
      refine Or.inr ⟨g, off, rfl, hl, hm, fun r hr => ?_, fun r hr q hq => ?_⟩
      · obtain ⟨k1, k2, k3, _⟩ := hel r (by omega)
        rw [add_at] at k1
        exact ⟨k1, k2, k3⟩
      · obtain ⟨_, k2, k3, k4, k5, k6, k7⟩ := hel r (by omega)
        match hA : A r with
        | none => have := k6 hA; omega
        | some a' =>
          obtain ⟨_, k8⟩ := k7 a' hA
          have hc0 := k8 0 (by omega)
          obtain ⟨g', off', spot'⟩ := a'
          have hspot' : spot' = none := by simpa [Addr.add] using World.cell?_spot hc0
          subst hspot'
          have h1 := k8 q (by omega)
          rw [add_at] at h1
          refine ⟨g', off', rfl, h1, k5 _ ?_⟩
          rw [List.getD, List.getElem?_eq_getElem (show q < (Z r).length by omega)]
          exact List.getElem_mem _
end Go.Proofs.YtibjbdcmhjbndaaDoor
