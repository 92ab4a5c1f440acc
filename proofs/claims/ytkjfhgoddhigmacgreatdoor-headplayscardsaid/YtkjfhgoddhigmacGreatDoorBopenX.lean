/-
  ROWS OF BYTES THAT ARE HANDED IN: what a call may know of them. No claim by itself.
-/
import Derived.Test.YtkjfhgoddhigmacGreatDoorLopenX
import Derived.Test.YtkjfhgoddhigmacGreatDoorM07
namespace Go.Proofs.YtkjfhgoddhigmacGreatDoor
open Go.RowKit
open Go.Deep
set_option maxRecDepth 100000
/-- Rows of bytes. -/
structure BRows (w : World) (g off len cap : Nat) (A : Nat → Option Addr) (N C : Nat → Nat) (Z : Nat → List Int) : Prop where
  hcap : len ≤ cap
  hmax : cap ≤ maxLen
  hrow : ∀ r, r < len → w.cell? ⟨g, off + r, none⟩ = some (.slice (A r) (N r) (C r)) ∧ Arg w (A r) (N r) (C r) (Z r) ∧ N r ≤ 140737488351232 ∧ (Z r).length = N r
def BArg (w : World) (a : Option Addr) (len cap : Nat) (A : Nat → Option Addr) (N C : Nat → Nat) (Z : Nat → List Int) : Prop :=
  len = 0 ∨ ∃ g off, a = some ⟨g, off, none⟩ ∧ BRows w g off len cap A N C Z
theorem BArg.below {w w' : World} {a : Option Addr} {len cap : Nat} {A : Nat → Option Addr} {N C : Nat → Nat} {Z : Nat → List Int} (h : BArg w a len cap A N C Z) (hb : Below w.heap.size w w') : BArg w' a len cap A N C Z := by
  rcases h with h | ⟨g, off, ha, h1, h2, h3⟩
  · exact Or.inl h
  · refine Or.inr ⟨g, off, ha, h1, h2, fun r hr => ?_⟩
    obtain ⟨k1, k2, k3⟩ := h3 r hr
    exact ⟨(hb.cell (p := ⟨g, off + r, none⟩) (lt_of_cell k1)).trans k1, k2.below hb, k3⟩
theorem blocks_open {H : Type} {enc : TypeId × Value → H} {W : World} {ts : List TypeId} {ds : List (DataW H)} {j fuel : Nat} {d : DataW H} {p : List MemPlace} {a : Option Addr} {len cap : Nat}
    (hsz : (DataW.weightsEach Tryz.prog ts ds).all (· ≤ reachBytes) = true) (hj : ts[j]? = some 24) (hd : ds[j]? = some d)
    (hf : DataW.trod enc Tryz.prog W 0 (fun _ => true) true fuel 24 (Value.slice a len cap).cells.toList = some (d, p)) :
    ∃ A N C Z, BArg W a len cap A N C Z ∧ len ≤ 4611686018427387904 := by
  rcases open_slice1 Tryz.underlying24 (by kernel_rfl) hf with ⟨hcs, _⟩ | ⟨x, l, c, m, n, V, D, Pl, hcs, _, hl, hm, hmm, hx, hel⟩
  · simp [Value.cells] at hcs
    obtain ⟨rfl, rfl, rfl⟩ := hcs
    exact ⟨fun _ => none, fun _ => 0, fun _ => 0, fun _ => [], Or.inl rfl, by decide⟩
  · simp [Value.cells] at hcs
    obtain ⟨rfl, rfl, rfl⟩ := hcs
    simp only [if_true] at hmm
    subst hmm
    have hdd := congrArg Prod.fst hx
    simp only at hdd
    have hsl := sized_slice hsz hj (by rw [hd, hdd]) Tryz.underlying24
    have hby : Tryz.prog.bytesOf 35 = 24 := by kernel_rfl
    have hb5 : Tryz.prog.bytesOf 5 = 1 := by kernel_rfl
    rw [hby] at hsl
    simp only [List.length_map, List.length_range, reachBytes] at hsl
    have each : ∀ r, r < len → ∃ y : Option Addr × Nat × Nat × List Int, V r = .slice y.1 y.2.1 y.2.2.1 ∧ Arg W y.1 y.2.1 y.2.2.1 y.2.2.2 ∧ y.2.1 ≤ 140737488351232 ∧ y.2.2.2.length = y.2.1 := by
      intro r hr
      obtain ⟨_, ht⟩ := hel r (by omega)
      have hmem : D r ∈ (List.range len).map D := List.mem_map.2 ⟨r, List.mem_range.2 hr, rfl⟩
      have hw : (DataW.weightsEach Tryz.prog [35] [D r]).all (· ≤ reachBytes) = true := by
        refine List.all_eq_true.2 fun q hq => ?_
        have hq2 : q ∈ (D r).weights Tryz.prog 35 := by simpa [DataW.weightsEach] using hq
        refine List.all_eq_true.1 hsz _ (DataW.weights_mem_each hj hd _ ?_)
        rw [hdd]
        simp only [DataW.weights, Tryz.underlying24, List.mem_cons, List.mem_append]
        exact Or.inr (Or.inl (weightsAll_in hq2 hmem))
      rcases Go.ChangeShapes.open_ints Tryz.underlying35 Tryz.underlying5 (by kernel_rfl) ht with ⟨hcs, _⟩ | ⟨a', l', c', zs, hcs, _, hl', hm', hz', hx', hcell, hwz⟩
      · have hv : V r = .slice none 0 0 := by simpa using hcs
        exact ⟨(none, 0, 0, []), hv, Or.inl ⟨rfl, rfl⟩, Nat.zero_le _, rfl⟩
      · have hv : V r = .slice (some a') l' c' := by simpa using hcs
        have hDr := congrArg Prod.fst hx'
        simp only at hDr
        have hzl : zs.length = c' := by simpa using hz'
        have hs2 := sized_slice (ts := [35]) (ds := [D r]) (j := 0) hw rfl (by rw [hDr]; rfl) Tryz.underlying35
        rw [hb5] at hs2
        simp only [Go.ChangeShapes.lits, List.length_map, List.length_take, List.length_drop, reachBytes] at hs2
        exact ⟨(some a', l', c', zs.take l'), hv, arg_of hzl hl' hm' hcell hwz, by simp only; omega, by simp only [List.length_take]; omega⟩
    obtain ⟨y, hy⟩ := choose_lt each
    refine ⟨fun r => (y r).1, fun r => (y r).2.1, fun r => (y r).2.2.1, fun r => (y r).2.2.2, ?_, by omega⟩
    by_cases h0 : len = 0
    · exact Or.inl h0
    · obtain ⟨hc, _⟩ := hel 0 (by omega)
      obtain ⟨g, off, spot⟩ := x
      have hspot : spot = none := by simpa [Addr.add] using World.cell?_spot hc
      subst hspot
      refine Or.inr ⟨g, off, rfl, hl, hm, fun r hr => ?_⟩
      obtain ⟨h1, h2, h3, h4⟩ := hy r hr
      have hc := (hel r (by omega)).1
      rw [add_at, h1] at hc
      exact ⟨hc, h2, h3, h4⟩
end Go.Proofs.YtkjfhgoddhigmacGreatDoor
