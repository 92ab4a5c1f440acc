/-
  LISTS OF FIELDS AND ROWS OF NUMBERS THAT ARE HANDED IN: what a call may know of them. No claim by itself.
-/
import Derived.Test.YtkjfhgoddhigmacGreatDoorM02
import Derived.Test.YtkjfhgoddhigmacGreatDoorFopenX
import Derived.Deep.Matrix
import Derived.ChangeSlices
namespace Go.Proofs.YtkjfhgoddhigmacGreatDoor
open Go.RowKit
open Go.Deep
set_option maxRecDepth 100000
/-- Rows of fields. -/
structure LRows (w : World) (g off len cap : Nat) (A : Nat → Option Addr) (N C : Nat → Nat) (L : Nat → List (ByteArray × ByteArray)) : Prop where
  hcap : len ≤ cap
  hmax : cap ≤ maxLen
  hrow : ∀ r, r < len → w.cell? ⟨g, off + r, none⟩ = some (.slice (A r) (N r) (C r)) ∧ FArg w (A r) (N r) (C r) (L r) ∧ N r ≤ 4611686018427387904 ∧ ∀ t, ((L r).getD t fnone).1.size + ((L r).getD t fnone).2.size ≤ 281474976710656
def LArg (w : World) (a : Option Addr) (len cap : Nat) (A : Nat → Option Addr) (N C : Nat → Nat) (L : Nat → List (ByteArray × ByteArray)) : Prop :=
  len = 0 ∨ ∃ g off, a = some ⟨g, off, none⟩ ∧ LRows w g off len cap A N C L
theorem LArg.below {w w' : World} {a : Option Addr} {len cap : Nat} {A : Nat → Option Addr} {N C : Nat → Nat} {L : Nat → List (ByteArray × ByteArray)} (h : LArg w a len cap A N C L) (hb : Below w.heap.size w w') : LArg w' a len cap A N C L := by
  rcases h with h | ⟨g, off, ha, h1, h2, h3⟩
  · exact Or.inl h
  · refine Or.inr ⟨g, off, ha, h1, h2, fun r hr => ?_⟩
    obtain ⟨k1, k2, k3⟩ := h3 r hr
    exact ⟨(hb.cell (p := ⟨g, off + r, none⟩) (lt_of_cell k1)).trans k1, k2.below hb, k3⟩
/-- Numbers that are handed in. -/
def NArg (w : World) (a : Option Addr) (len cap : Nat) (Z : List Int) : Prop :=
  len = 0 ∨ ∃ g off, a = some ⟨g, off, none⟩ ∧ len ≤ cap ∧ cap ≤ maxLen ∧ ∀ t, t < len → w.cell? ⟨g, off + t, none⟩ = some (.int .i64 (Z.getD t 0))
theorem NArg.below {w w' : World} {a : Option Addr} {len cap : Nat} {Z : List Int} (h : NArg w a len cap Z) (hb : Below w.heap.size w w') : NArg w' a len cap Z := by
  rcases h with h | ⟨g, off, ha, h1, h2, h3⟩
  · exact Or.inl h
  · exact Or.inr ⟨g, off, ha, h1, h2, fun t ht => (hb.cell (p := ⟨g, off + t, none⟩) (lt_of_cell (h3 t ht))).trans (h3 t ht)⟩
theorem ints_open {H : Type} {enc : TypeId × Value → H} {W : World} {ts : List TypeId} {ds : List (DataW H)} {j fuel : Nat} {d : DataW H} {p : List MemPlace} {a : Option Addr} {len cap : Nat}
    (hsz : (DataW.weightsEach Tryz.prog ts ds).all (· ≤ reachBytes) = true) (hj : ts[j]? = some 23) (hd : ds[j]? = some d)
    (hf : DataW.trod enc Tryz.prog W 0 (fun _ => true) true fuel 23 (Value.slice a len cap).cells.toList = some (d, p)) :
    ∃ Z, NArg W a len cap Z ∧ len ≤ 4611686018427387904 := by
  rcases Go.ChangeShapes.open_ints Tryz.underlying23 Tryz.underlying3 (by kernel_rfl) hf with ⟨hcs, _⟩ | ⟨x, l, c, zs, hcs, _, hl, hm, hz, hx, hcell, _⟩
  · simp [Value.cells] at hcs
    obtain ⟨rfl, rfl, rfl⟩ := hcs
    exact ⟨[], Or.inl rfl, by decide⟩
  · simp [Value.cells] at hcs
    obtain ⟨rfl, rfl, rfl⟩ := hcs
    have hdd := congrArg Prod.fst hx
    simp only at hdd
    have hsl := sized_slice hsz hj (by rw [hd, hdd]) Tryz.underlying23
    have hby : Tryz.prog.bytesOf 3 = 8 := by kernel_rfl
    rw [hby] at hsl
    have hzl : zs.length = cap := by simpa using hz
    simp only [Go.ChangeShapes.lits, List.length_map, List.length_take, List.length_drop, reachBytes] at hsl
    refine ⟨zs, ?_, by omega⟩
    by_cases h0 : len = 0
    · exact Or.inl h0
    · have hc := hcell 0 (by omega)
      obtain ⟨g, off, spot⟩ := x
      have hspot : spot = none := by simpa [Addr.add] using World.cell?_spot hc
      subst hspot
      refine Or.inr ⟨g, off, rfl, hl, hm, fun t ht => ?_⟩
      have h1 := hcell t (by omega)
      rw [add_at] at h1
      exact h1
theorem lists_open {H : Type} {enc : TypeId × Value → H} {W : World} {ts : List TypeId} {ds : List (DataW H)} {j fuel : Nat} {d : DataW H} {p : List MemPlace} {a : Option Addr} {len cap : Nat}
    (hsz : (DataW.weightsEach Tryz.prog ts ds).all (· ≤ reachBytes) = true) (hj : ts[j]? = some 22) (hd : ds[j]? = some d)
    (hf : DataW.trod enc Tryz.prog W 0 (fun _ => true) true fuel 22 (Value.slice a len cap).cells.toList = some (d, p)) :
    ∃ A N C L, LArg W a len cap A N C L ∧ len ≤ 4611686018427387904 := by
  rcases open_slice1 Tryz.underlying22 (by kernel_rfl) hf with ⟨hcs, _⟩ | ⟨x, l, c, m, n, V, D, Pl, hcs, _, hl, hm, hmm, hx, hel⟩
  · simp [Value.cells] at hcs
    obtain ⟨rfl, rfl, rfl⟩ := hcs
    exact ⟨fun _ => none, fun _ => 0, fun _ => 0, fun _ => [], Or.inl rfl, by decide⟩
  · simp [Value.cells] at hcs
    obtain ⟨rfl, rfl, rfl⟩ := hcs
    simp only [if_true] at hmm
    subst hmm
    have hdd := congrArg Prod.fst hx
    simp only at hdd
    have hsl := sized_slice hsz hj (by rw [hd, hdd]) Tryz.underlying22
    have hby : Tryz.prog.bytesOf 38 = 24 := by kernel_rfl
    rw [hby] at hsl
    simp only [List.length_map, List.length_range, reachBytes] at hsl
    have each : ∀ r, r < len → ∃ y : Option Addr × Nat × Nat × List (ByteArray × ByteArray), V r = .slice y.1 y.2.1 y.2.2.1 ∧ FArg W y.1 y.2.1 y.2.2.1 y.2.2.2 ∧ y.2.1 ≤ 4611686018427387904 ∧ ∀ t, (y.2.2.2.getD t fnone).1.size + (y.2.2.2.getD t fnone).2.size ≤ 281474976710656 := by
      intro r hr
      obtain ⟨_, ht⟩ := hel r (by omega)
      have hmem : D r ∈ (List.range len).map D := List.mem_map.2 ⟨r, List.mem_range.2 hr, rfl⟩
      have hw : (DataW.weightsEach Tryz.prog [38] [D r]).all (· ≤ reachBytes) = true := by
        refine List.all_eq_true.2 fun q hq => ?_
        have hq2 : q ∈ (D r).weights Tryz.prog 38 := by simpa [DataW.weightsEach] using hq
        refine List.all_eq_true.1 hsz _ (DataW.weights_mem_each hj hd _ ?_)
        rw [hdd]
        simp only [DataW.weights, Tryz.underlying22, List.mem_cons, List.mem_append]
        exact Or.inr (Or.inl (weightsAll_in hq2 hmem))
      have hv : ∃ a' l' c', V r = .slice a' l' c' := by
        rcases open_slice Tryz.underlying38 ht with ⟨h, _⟩ | ⟨a', l', c', _, _, _, _, h, _⟩
        · exact ⟨_, _, _, by simpa using h⟩
        · exact ⟨_, _, _, by simpa using h⟩
      obtain ⟨a', l', c', hv⟩ := hv
      rw [hv] at ht
      obtain ⟨L, h1, h2, h3⟩ := fields_open2 (ts := [38]) (ds := [D r]) (j := 0) hw rfl rfl ht
      exact ⟨(a', l', c', L), hv, h1, h2, h3⟩
    obtain ⟨y, hy⟩ := choose_lt each
    refine ⟨fun r => (y r).1, fun r => (y r).2.1, fun r => (y r).2.2.1, fun r => (y r).2.2.2, ?_, by omega⟩
    by_cases h0 : len = 0
    · exact Or.inl h0
    · obtain ⟨hc, _⟩ := hel 0 (by omega)
      obtain ⟨g, off, spot⟩ := x
      have hspot : spot = none := by simpa [Addr.add] using World.cell?_spot hc
      subst hspot
      refine Or.inr ⟨g, off, rfl, hl, hm, fun r hr => ?_⟩
      obtain ⟨h1, h2, h3, h4⟩ := hy r hr
      have hc := (hel r (by omega)).1
      rw [add_at, h1] at hc
      exact ⟨hc, h2, h3, h4⟩
end Go.Proofs.YtkjfhgoddhigmacGreatDoor
