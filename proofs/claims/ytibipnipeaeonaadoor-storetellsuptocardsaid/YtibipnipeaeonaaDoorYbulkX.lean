/-
  FROM THE ONE TO THE OTHER: a row of fields that is handed in, where all is small. No claim by itself.
-/
import Derived.Test.YtibipnipeaeonaaDoorRows
import Derived.Test.YtibipnipeaeonaaDoorNopnX
namespace Go.Proofs.YtibipnipeaeonaaDoor
open Go.RowKit Go.Deep Go Go.Lib Go.ChangeShapes
set_option maxRecDepth 100000
theorem ybulk_one {H : Type} (d : DataW H) : 1 ≤ Rows.uptoBulk d := by
  cases d with
  | lit l => cases l <;> simp [Rows.uptoBulk]
  | nil => simp [Rows.uptoBulk]
  | ptr d => simp [Rows.uptoBulk]
  | slice elems spare => simp [Rows.uptoBulk]
  | agg parts => simp [Rows.uptoBulk]
  | iface t d => simp [Rows.uptoBulk]
  | map entries => simp [Rows.uptoBulk]
  | held h => simp [Rows.uptoBulk]
theorem ybulk_length {H : Type} (l : List (DataW H)) : l.length ≤ Rows.uptoBulkAll l := by
  induction l with
  | nil => simp [Rows.uptoBulkAll]
  | cons x r ih => have := ybulk_one x; simp only [Rows.uptoBulkAll, List.length_cons]; omega
theorem ybulk_mem {H : Type} {l : List (DataW H)} {d : DataW H} (h : d ∈ l) : Rows.uptoBulk d ≤ Rows.uptoBulkAll l := by
  induction l with
  | nil => cases h
  | cons x r ih =>
    simp only [Rows.uptoBulkAll]
    rcases List.mem_cons.1 h with rfl | h
    · omega
    · have := ih h
      omega
theorem fields_bulk {H : Type} {enc : TypeId × Value → H} {W : World} {fuel : Nat} {v : Value} {y : DataW H × List MemPlace}
    (hf : DataW.trod enc Tryd.prog W 0 (fun _ => true) true fuel 22 [v] = some y) (hb : Rows.uptoBulk y.1 ≤ 1048576) :
    ∃ a len cap L, v = .slice a len cap ∧ FArg W a len cap L ∧ (a = none → cap = 0) ∧ len ≤ 1048576 ∧ ∀ t, (L.getD t fnone).1.size ≤ 1048576 ∧ (L.getD t fnone).2.size ≤ 1048576 := by
  rcases open_slice_pairs Tryd.underlying22 Tryd.underlying31 (by kernel_rfl) rfl rfl (by kernel_rfl) (by kernel_rfl) hf with ⟨hcs, _⟩ | ⟨x, len, cap, m, n, V0, V1, D0, D1, P0, P1, hcs, _, hl, hm, hmm, hx, hel⟩
  · simp at hcs
    exact ⟨none, 0, 0, [], hcs, Or.inl ⟨rfl, rfl⟩, fun _ => rfl, by decide, fun t => by simp [fnone]⟩
  · simp at hcs
    simp only [if_true] at hmm
    subst hmm
    have hdd : y.1 = .slice ((List.range len).map fun i => .agg [D0 i, D1 i]) ((List.range (m - len)).map fun j => .agg [D0 (len + j), D1 (len + j)]) := congrArg Prod.fst hx
    rw [hdd] at hb
    have hbl := ybulk_length ((List.range len).map fun i => DataW.agg [D0 i, D1 i])
    rw [List.length_map, List.length_range] at hbl
    have hstr : ∀ i, i < len → V0 i = .string (strOf (V0 i)) ∧ V1 i = .string (strOf (V1 i)) ∧ (strOf (V0 i)).size ≤ 1048576 ∧ (strOf (V1 i)).size ≤ 1048576 := by
      intro i hi
      obtain ⟨_, _, t0, t1⟩ := hel i (by omega)
      obtain ⟨s0, e0, x0, _⟩ := DataW.trod_string Tryd.underlying9 t0
      obtain ⟨s1, e1, x1, _⟩ := DataW.trod_string Tryd.underlying9 t1
      have v0 : V0 i = .string s0 := by simpa using e0
      have v1 : V1 i = .string s1 := by simpa using e1
      have d0 : D0 i = .lit (.string s0.data.toList) := congrArg Prod.fst x0
      have d1 : D1 i = .lit (.string s1.data.toList) := congrArg Prod.fst x1
      have hmem : DataW.agg [D0 i, D1 i] ∈ (List.range len).map fun i => DataW.agg [D0 i, D1 i] := List.mem_map.2 ⟨i, List.mem_range.2 hi, rfl⟩
      have h2 := ybulk_mem hmem
      rw [d0, d1] at h2
      have l0 : s0.data.toList.length = s0.size := by rw [Array.length_toList]; rfl
      have l1 : s1.data.toList.length = s1.size := by rw [Array.length_toList]; rfl
      simp only [Rows.uptoBulk, Rows.uptoBulkAll] at h2 hb
      refine ⟨by rw [v0]; rfl, by rw [v1]; rfl, ?_, ?_⟩
      · rw [v0]
        show s0.size ≤ _
        omega
      · rw [v1]
        show s1.size ≤ _
        omega
    have hget : ∀ t, t < len → ((List.range len).map fun i => (strOf (V0 i), strOf (V1 i))).getD t fnone = (strOf (V0 t), strOf (V1 t)) := by
      intro t ht
      simp [List.getD, ht]
    simp only [Rows.uptoBulk] at hb
    refine ⟨some x, len, m, (List.range len).map fun i => (strOf (V0 i), strOf (V1 i)), hcs, ?_, (fun h => by cases h), by omega, fun t => ?_⟩
    · by_cases h0 : len = 0
      · subst h0; exact Or.inl ⟨rfl, rfl⟩
      · obtain ⟨hc, _⟩ := hel 0 (by omega)
        obtain ⟨g, off, spot⟩ := x
        have hspot : spot = none := by simpa [Addr.add] using World.cell?_spot hc
        subst hspot
        have hplain := n_add g off
        refine Or.inr ⟨g, off, rfl, by simp, hl, hm, fun t ht => ?_, fun t ht => ?_⟩
        · have h1 := (hel t (by omega)).1
          rw [hplain] at h1
          rw [h1, hget t ht]
          exact congrArg some (hstr t ht).1
        · have h1 := (hel t (by omega)).2.1
          rw [hplain] at h1
          rw [show off + t * 2 + 1 = off + (t * 2 + 1) from by omega, h1, hget t ht]
          exact congrArg some (hstr t ht).2.1
    · by_cases ht : t < len
      · rw [hget t ht]
        exact (hstr t ht).2.2
      · have : ((List.range len).map fun i => (strOf (V0 i), strOf (V1 i))).getD t fnone = fnone := by
          rw [List.getD, List.getElem?_eq_none (by simp; omega)]; rfl
        rw [this]
        simp [fnone]
end Go.Proofs.YtibipnipeaeonaaDoor
