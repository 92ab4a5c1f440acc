/-
  ROWS OF NUMBERS, OF BOOLS, AND ROWS OF ROWS THAT ARE HANDED IN: what a call may know of them. No claim by itself.
-/
import Derived.Deep.Matrix
import Derived.Deep.Grids
import Derived.ChangeSlices
import Derived.ProofKit
import Derived.OpenShut
import Derived.SizedLaws
import Derived.Test.YtibipnipeaeonaaGreatDoorVl
namespace Go.Proofs.YtibipnipeaeonaaGreatDoor
open Go.RowKit
open Go.Deep
set_option maxRecDepth 100000
theorem add_at (g off q : Nat) : (⟨g, off, none⟩ : Addr).add q = ⟨g, off + q, none⟩ := by unfold Addr.add; split <;> simp_all
/-- Rows of numbers. -/
structure IRows (w : World) (g off len cap : Nat) (A : Nat → Option Addr) (L C : Nat → Nat) (Z : Nat → List Int) : Prop where
  hcap : len ≤ cap
  hmax : cap ≤ maxLen
  hrow : ∀ r, r < len → w.cell? ⟨g, off + r, none⟩ = some (.slice (A r) (L r) (C r)) ∧ L r ≤ C r ∧ C r ≤ maxLen
  hcell : ∀ r, r < len → ∀ c, c < L r → ∃ g' off', A r = some ⟨g', off', none⟩ ∧ w.cell? ⟨g', off' + c, none⟩ = some (.int .i64 ((Z r).getD c 0))
def IArg (w : World) (a : Option Addr) (len cap : Nat) (A : Nat → Option Addr) (L C : Nat → Nat) (Z : Nat → List Int) : Prop :=
  len = 0 ∨ ∃ g off, a = some ⟨g, off, none⟩ ∧ IRows w g off len cap A L C Z
theorem lt_of_cell {w : World} {g o : Nat} {v : Value} (h : w.cell? ⟨g, o, none⟩ = some v) : g < w.heap.size := by
  rcases Nat.lt_or_ge g w.heap.size with h1 | h1
  · exact h1
  · simp [World.cell?, Array.getElem?_eq_none h1] at h
theorem IArg.below {w w' : World} {a : Option Addr} {len cap : Nat} {A : Nat → Option Addr} {L C : Nat → Nat} {Z : Nat → List Int} (h : IArg w a len cap A L C Z) (hb : Below w.heap.size w w') : IArg w' a len cap A L C Z := by
  rcases h with h | ⟨g, off, ha, h1, h2, h3, h4⟩
  · exact Or.inl h
  · refine Or.inr ⟨g, off, ha, h1, h2, fun r hr => ?_, fun r hr c hc => ?_⟩
    · have k := h3 r hr
      exact ⟨(hb.cell (p := ⟨g, off + r, none⟩) (lt_of_cell k.1)).trans k.1, k.2⟩
    · obtain ⟨g', off', e, k⟩ := h4 r hr c hc
      exact ⟨g', off', e, (hb.cell (p := ⟨g', off' + c, none⟩) (lt_of_cell k)).trans k⟩
/-- Numbers that are handed in. -/
def NArg (w : World) (a : Option Addr) (len cap : Nat) (Z : List Int) : Prop :=
  len = 0 ∨ ∃ g off, a = some ⟨g, off, none⟩ ∧ len ≤ cap ∧ cap ≤ maxLen ∧ ∀ t, t < len → w.cell? ⟨g, off + t, none⟩ = some (.int .i64 (Z.getD t 0))
theorem NArg.below {w w' : World} {a : Option Addr} {len cap : Nat} {Z : List Int} (h : NArg w a len cap Z) (hb : Below w.heap.size w w') : NArg w' a len cap Z := by
  rcases h with h | ⟨g, off, ha, h1, h2, h3⟩
  · exact Or.inl h
  · exact Or.inr ⟨g, off, ha, h1, h2, fun t ht => (hb.cell (p := ⟨g, off + t, none⟩) (lt_of_cell (h3 t ht))).trans (h3 t ht)⟩
theorem ints_open {H : Type} {enc : TypeId × Value → H} {W : World} {ts : List TypeId} {ds : List (DataW H)} {j fuel : Nat} {d : DataW H} {p : List MemPlace} {a : Option Addr} {len cap : Nat}
    (hsz : (DataW.weightsEach Tryz.prog ts ds).all (· ≤ reachBytes) = true) (hj : ts[j]? = some 32) (hd : ds[j]? = some d)
    (hf : DataW.trod enc Tryz.prog W 0 (fun _ => true) true fuel 32 (Value.slice a len cap).cells.toList = some (d, p)) :
    ∃ Z, NArg W a len cap Z ∧ len ≤ 4611686018427387904 := by
  rcases Go.ChangeShapes.open_ints Tryz.underlying32 Tryz.underlying3 (by kernel_rfl) hf with ⟨hcs, _⟩ | ⟨x, l, c, zs, hcs, _, hl, hm, hz, hx, hcell, _⟩
  · simp [Value.cells] at hcs
    obtain ⟨rfl, rfl, rfl⟩ := hcs
    exact ⟨[], Or.inl rfl, by decide⟩
  · simp [Value.cells] at hcs
    obtain ⟨rfl, rfl, rfl⟩ := hcs
    have hdd := congrArg Prod.fst hx
    simp only at hdd
    have hsl := sized_slice hsz hj (by rw [hd, hdd]) Tryz.underlying32
    have hby : Tryz.prog.bytesOf 3 = 8 := by kernel_rfl
    rw [hby] at hsl
    have hzl : zs.length = cap := by simpa using hz
    simp only [Go.ChangeShapes.lits, List.length_map, List.length_take, List.length_drop, reachBytes] at hsl
    refine ⟨zs, ?_, by omega⟩
    by_cases h0 : len = 0
    · exact Or.inl h0
    · have hc := hcell 0 (by omega)
      obtain ⟨g, off, spot⟩ := x
      have hspot : spot = none := by simpa [Addr.add] using World.cell?_spot hc
      subst hspot
      refine Or.inr ⟨g, off, rfl, hl, hm, fun t ht => ?_⟩
      have h1 := hcell t (by omega)
      rw [add_at] at h1
      exact h1
theorem rows_open {H : Type} {enc : TypeId × Value → H} {W : World} {ts : List TypeId} {ds : List (DataW H)} {j fuel : Nat} {d : DataW H} {p : List MemPlace} {a : Option Addr} {len cap : Nat}
    (hsz : (DataW.weightsEach Tryz.prog ts ds).all (· ≤ reachBytes) = true) (hj : ts[j]? = some 24) (hd : ds[j]? = some d)
    (hf : DataW.trod enc Tryz.prog W 0 (fun _ => true) true fuel 24 (Value.slice a len cap).cells.toList = some (d, p)) :
    ∃ A L C Z, IArg W a len cap A L C Z ∧ len ≤ 4611686018427387904 := by
  rcases open_int_rows Tryz.underlying24 Tryz.underlying32 Tryz.underlying3 (by kernel_rfl) (by kernel_rfl) hf with ⟨hcs, _⟩ | ⟨x, l, c, A, L, C, Z, hcs, _, hl, hm, hx, hel⟩
  · simp [Value.cells] at hcs
    obtain ⟨rfl, rfl, rfl⟩ := hcs
    exact ⟨fun _ => none, fun _ => 0, fun _ => 0, fun _ => [], Or.inl rfl, by decide⟩
  · simp [Value.cells] at hcs
    obtain ⟨rfl, rfl, rfl⟩ := hcs
    have hdd := congrArg Prod.fst hx
    simp only at hdd
    have hsl := sized_slice hsz hj (by rw [hd, hdd]) Tryz.underlying24
    have hby : Tryz.prog.bytesOf 32 = 24 := by kernel_rfl
    rw [hby] at hsl
    simp only [List.length_map, List.length_range, reachBytes] at hsl
    refine ⟨A, L, C, Z, ?_, by omega⟩
    by_cases h0 : len = 0
    · exact Or.inl h0
    · obtain ⟨hc, _⟩ := hel 0 (by omega)
      obtain ⟨g, off, spot⟩ := x
      have hspot : spot = none := by simpa [Addr.add] using World.cell?_spot hc
      subst hspot
      refine Or.inr ⟨g, off, rfl, hl, hm, fun r hr => ?_, fun r hr q hq => ?_⟩
      · obtain ⟨k1, k2, k3, _⟩ := hel r (by omega)
        rw [add_at] at k1
        exact ⟨k1, k2, k3⟩
      · obtain ⟨_, k2, k3, _, _, k6, k7⟩ := hel r (by omega)
        match hA : A r with
        | none => have := k6 hA; omega
        | some a' =>
          obtain ⟨_, k8⟩ := k7 a' hA
          have hc0 := k8 0 (by omega)
          obtain ⟨g', off', spot'⟩ := a'
          have hspot' : spot' = none := by simpa [Addr.add] using World.cell?_spot hc0
          subst hspot'
          have h1 := k8 q (by omega)
          rw [add_at] at h1
          exact ⟨g', off', rfl, h1⟩
/-- Bools that are handed in. -/
def TArg (w : World) (a : Option Addr) (len cap : Nat) (B : Nat → Bool) : Prop :=
  len = 0 ∨ ∃ g off, a = some ⟨g, off, none⟩ ∧ len ≤ cap ∧ cap ≤ maxLen ∧ ∀ t, t < len → w.cell? ⟨g, off + t, none⟩ = some (.bool (B t))
end Go.Proofs.YtibipnipeaeonaaGreatDoor
/-
  ROWS OF ROWS OF NUMBERS THAT ARE HANDED IN, with what each number can be. No claim by itself.
-/
namespace Go.Proofs.YtibipnipeaeonaaGreatDoor
open Go.RowKit
open Go.Deep
set_option maxRecDepth 100000
/-- Rows of numbers. -/
structure JRows (w : World) (g off len cap : Nat) (A : Nat → Option Addr) (L C : Nat → Nat) (Z : Nat → List Int) : Prop where
  hcap : len ≤ cap
  hmax : cap ≤ maxLen
  hrow : ∀ r, r < len → w.cell? ⟨g, off + r, none⟩ = some (.slice (A r) (L r) (C r)) ∧ L r ≤ C r ∧ C r ≤ maxLen
  hcell : ∀ r, r < len → ∀ c, c < L r → ∃ g' off', A r = some ⟨g', off', none⟩ ∧ w.cell? ⟨g', off' + c, none⟩ = some (.int .i64 ((Z r).getD c 0)) ∧ (Lit.int .i64 ((Z r).getD c 0)).wf = true
def JArg (w : World) (a : Option Addr) (len cap : Nat) (A : Nat → Option Addr) (L C : Nat → Nat) (Z : Nat → List Int) : Prop :=
  len = 0 ∨ ∃ g off, a = some ⟨g, off, none⟩ ∧ JRows w g off len cap A L C Z
theorem JArg.below {w w' : World} {a : Option Addr} {len cap : Nat} {A : Nat → Option Addr} {L C : Nat → Nat} {Z : Nat → List Int} (h : JArg w a len cap A L C Z) (hb : Below w.heap.size w w') : JArg w' a len cap A L C Z := by
  rcases h with h | ⟨g, off, ha, h1, h2, h3, h4⟩
  · exact Or.inl h
  · refine Or.inr ⟨g, off, ha, h1, h2, fun r hr => ?_, fun r hr c hc => ?_⟩
    · have k := h3 r hr
      exact ⟨(hb.cell (p := ⟨g, off + r, none⟩) (lt_of_cell k.1)).trans k.1, k.2⟩
    · obtain ⟨g', off', e, k, k'⟩ := h4 r hr c hc
      exact ⟨g', off', e, (hb.cell (p := ⟨g', off' + c, none⟩) (lt_of_cell k)).trans k, k'⟩
theorem jrows_open {H : Type} {enc : TypeId × Value → H} {W : World} {ts : List TypeId} {ds : List (DataW H)} {j fuel : Nat} {d : DataW H} {p : List MemPlace} {a : Option Addr} {len cap : Nat}
    (hsz : (DataW.weightsEach Tryz.prog ts ds).all (· ≤ reachBytes) = true) (hj : ts[j]? = some 24) (hd : ds[j]? = some d)
    (hf : DataW.trod enc Tryz.prog W 0 (fun _ => true) true fuel 24 (Value.slice a len cap).cells.toList = some (d, p)) :
    ∃ A L C Z, JArg W a len cap A L C Z ∧ len ≤ 4611686018427387904 := by
  rcases open_int_rows Tryz.underlying24 Tryz.underlying32 Tryz.underlying3 (by kernel_rfl) (by kernel_rfl) hf with ⟨hcs, _⟩ | ⟨x, l, c, A, L, C, Z, hcs, _, hl, hm, hx, hel⟩
  · simp [Value.cells] at hcs
    obtain ⟨rfl, rfl, rfl⟩ := hcs
    exact ⟨fun _ => none, fun _ => 0, fun _ => 0, fun _ => [], Or.inl rfl, by decide⟩
  · simp [Value.cells] at hcs
    obtain ⟨rfl, rfl, rfl⟩ := hcs
    have hdd := congrArg Prod.fst hx
    simp only at hdd
    have hsl := sized_slice hsz hj (by rw [hd, hdd]) Tryz.underlying24
    have hby : Tryz.prog.bytesOf 32 = 24 := by kernel_rfl
    rw [hby] at hsl
    simp only [List.length_map, List.length_range, reachBytes] at hsl
    refine ⟨A, L, C, Z, ?_, by omega⟩
    by_cases h0 : len = 0
    · exact Or.inl h0
    · obtain ⟨hc, _⟩ := hel 0 (by omega)
      obtain ⟨g, off, spot⟩ := x
      have hspot : spot = none := by simpa [Addr.add] using World.cell?_spot hc
      subst hspot
      refine Or.inr ⟨g, off, rfl, hl, hm, fun r hr => ?_, fun r hr q hq => ?_⟩
      · obtain ⟨k1, k2, k3, _⟩ := hel r (by omega)
        rw [add_at] at k1
        exact ⟨k1, k2, k3⟩
      · obtain ⟨_, k2, k3, k4, k5, k6, k7⟩ := hel r (by omega)
        match hA : A r with
        | none => have := k6 hA; omega
        | some a' =>
          obtain ⟨_, k8⟩ := k7 a' hA
          have hc0 := k8 0 (by omega)
          obtain ⟨g', off', spot'⟩ := a'
          have hspot' : spot' = none := by simpa [Addr.add] using World.cell?_spot hc0
          subst hspot'
          have h1 := k8 q (by omega)
          rw [add_at] at h1
          refine ⟨g', off', rfl, h1, k5 _ ?_⟩
          rw [List.getD, List.getElem?_eq_getElem (show q < (Z r).length by omega)]
          exact List.getElem_mem _
end Go.Proofs.YtibipnipeaeonaaGreatDoor
