/-
  FIELDS THAT ARE HANDED IN: what a call may know of them. No claim by itself.
-/
import Derived.Test.YtkjfhgoddhigmacDoorM02
import Derived.Deep.SlicePairs
import Derived.SizedLaws
import Derived.ChangeArms
namespace Go.Proofs.YtkjfhgoddhigmacDoor
open Go.RowKit
open Go.Deep
def strOf : Value → ByteArray
  | .string s => s
  | _ => .empty
theorem weightsAll_in {H : Type} {P : Program} {e : TypeId} {d : DataW H} {n : Nat} (hn : n ∈ d.weights P e) : ∀ {l : List (DataW H)}, d ∈ l → n ∈ DataW.weightsAll P e l
  | [], h => by cases h
  | x :: r, h => by
    simp only [DataW.weightsAll, List.mem_append]
    rcases List.mem_cons.1 h with rfl | h
    · exact Or.inl hn
    · exact Or.inr (weightsAll_in hn h)
theorem add_at (g off q : Nat) : (⟨g, off, none⟩ : Addr).add q = ⟨g, off + q, none⟩ := by unfold Addr.add; split <;> simp_all
theorem fields_open2 {H : Type} {enc : TypeId × Value → H} {W : World} {ts : List TypeId} {ds : List (DataW H)} {j fuel : Nat} {d : DataW H} {p : List MemPlace} {a : Option Addr} {len cap : Nat}
    (hsz : (DataW.weightsEach Tryd.prog ts ds).all (· ≤ reachBytes) = true) (hj : ts[j]? = some 34) (hd : ds[j]? = some d)
    (hf : DataW.trod enc Tryd.prog W 0 (fun _ => true) true fuel 34 (Value.slice a len cap).cells.toList = some (d, p)) :
    ∃ L, FArg W a len cap L ∧ len ≤ 4611686018427387904 ∧ ∀ t, (L.getD t fnone).1.size + (L.getD t fnone).2.size ≤ 281474976710656 := by
  rcases open_slice_pairs Tryd.underlying34 Tryd.underlying33 (by kernel_rfl) rfl rfl (by kernel_rfl) (by kernel_rfl) hf with ⟨hcs, _⟩ | ⟨x, l, c, m, n, V0, V1, D0, D1, P0, P1, hcs, _, hl, hm, hmm, hx, hel⟩
  · simp [Value.cells] at hcs
    obtain ⟨rfl, rfl, rfl⟩ := hcs
    exact ⟨[], Or.inl ⟨rfl, rfl⟩, by decide, fun t => by simp [fnone]⟩
  · simp [Value.cells] at hcs
    obtain ⟨rfl, rfl, rfl⟩ := hcs
    simp only [if_true] at hmm
    subst hmm
    have hdd : d = .slice ((List.range len).map fun i => .agg [D0 i, D1 i]) ((List.range (m - len)).map fun j => .agg [D0 (len + j), D1 (len + j)]) := congrArg Prod.fst hx
    have hstr : ∀ i, i < len → V0 i = .string (strOf (V0 i)) ∧ V1 i = .string (strOf (V1 i)) ∧ (strOf (V0 i)).size ≤ reachBytes ∧ (strOf (V1 i)).size ≤ reachBytes := by
      intro i hi
      obtain ⟨_, _, t0, t1⟩ := hel i (by omega)
      obtain ⟨s0, e0, x0, _⟩ := DataW.trod_string Tryd.underlying9 t0
      obtain ⟨s1, e1, x1, _⟩ := DataW.trod_string Tryd.underlying9 t1
      have v0 : V0 i = .string s0 := by simpa using e0
      have v1 : V1 i = .string s1 := by simpa using e1
      have d0 : D0 i = .lit (.string s0.data.toList) := congrArg Prod.fst x0
      have d1 : D1 i = .lit (.string s1.data.toList) := congrArg Prod.fst x1
      have hmem : DataW.agg [D0 i, D1 i] ∈ (List.range len).map fun i => DataW.agg [D0 i, D1 i] := List.mem_map.2 ⟨i, List.mem_range.2 hi, rfl⟩
      have hw : ∀ q, q ∈ (DataW.agg [D0 i, D1 i]).weights Tryd.prog 33 → q ≤ reachBytes := by
        intro q hq
        refine of_decide_eq_true (List.all_eq_true.1 hsz _ (DataW.weights_mem_each hj hd _ ?_))
        rw [hdd]
        simp only [DataW.weights, Tryd.underlying34, List.mem_cons, List.mem_append]
        exact Or.inr (Or.inl (weightsAll_in hq hmem))
      have l0 : s0.data.toList.length = s0.size := by rw [Array.length_toList]; rfl
      have l1 : s1.data.toList.length = s1.size := by rw [Array.length_toList]; rfl
      refine ⟨by rw [v0]; rfl, by rw [v1]; rfl, ?_, ?_⟩
      · rw [v0]
        show s0.size ≤ reachBytes
        rw [← l0]
        exact hw _ (by rw [d0, d1]; simp [DataW.weights, Tryd.underlying33, DataW.weightsEach])
      · rw [v1]
        show s1.size ≤ reachBytes
        rw [← l1]
        exact hw _ (by rw [d0, d1]; simp [DataW.weights, Tryd.underlying33, DataW.weightsEach])
    have hget : ∀ t, t < len → ((List.range len).map fun i => (strOf (V0 i), strOf (V1 i))).getD t fnone = (strOf (V0 t), strOf (V1 t)) := by
      intro t ht
      simp [List.getD, ht]
    have hsl := sized_slice hsz hj (by rw [hd, hdd]) Tryd.underlying34
    have hby : Tryd.prog.bytesOf 33 = 32 := by kernel_rfl
    rw [hby] at hsl
    simp only [List.length_map, List.length_range, reachBytes] at hsl
    refine ⟨(List.range len).map fun i => (strOf (V0 i), strOf (V1 i)), ?_, by omega, fun t => ?_⟩
    · by_cases h0 : len = 0
      · subst h0; exact Or.inl ⟨rfl, rfl⟩
      · obtain ⟨hc, _⟩ := hel 0 (by omega)
        obtain ⟨g, off, spot⟩ := x
        have hspot : spot = none := by simpa [Addr.add] using World.cell?_spot hc
        subst hspot
        have hplain := add_at g off
        refine Or.inr ⟨g, off, rfl, by simp, hl, hm, fun t ht => ?_, fun t ht => ?_⟩
        · have h1 := (hel t (by omega)).1
          rw [hplain] at h1
          rw [h1, hget t ht]
          exact congrArg some (hstr t ht).1
        · have h1 := (hel t (by omega)).2.1
          rw [hplain] at h1
          rw [show off + t * 2 + 1 = off + (t * 2 + 1) from by omega, h1, hget t ht]
          exact congrArg some (hstr t ht).2.1
    · by_cases ht : t < len
      · rw [hget t ht]
        have h2 := (hstr t ht).2.2
        simp only [reachBytes] at h2
        show (strOf (V0 t)).size + (strOf (V1 t)).size ≤ _
        omega
      · have e : ((List.range len).map fun i => (strOf (V0 i), strOf (V1 i))).getD t fnone = fnone := by rw [List.getD, List.getElem?_eq_none (by simp; omega)]; rfl
        rw [e]; simp [fnone]
theorem fields_open {H : Type} {enc : TypeId × Value → H} {W : World} {ts : List TypeId} {ds : List (DataW H)} {j fuel : Nat} {d : DataW H} {p : List MemPlace} {a : Option Addr} {len cap : Nat}
    (hsz : (DataW.weightsEach Tryd.prog ts ds).all (· ≤ reachBytes) = true) (hj : ts[j]? = some 34) (hd : ds[j]? = some d)
    (hf : DataW.trod enc Tryd.prog W 0 (fun _ => true) true fuel 34 (Value.slice a len cap).cells.toList = some (d, p)) :
    ∃ L, FArg W a len cap L ∧ len ≤ 4611686018427387904 ∧ ∀ t, (L.getD t fnone).1.size + (L.getD t fnone).2.size ≤ 1152921504606846976 := by
  obtain ⟨L, h1, h2, h3⟩ := fields_open2 hsz hj hd hf
  exact ⟨L, h1, h2, fun t => by have := h3 t; omega⟩
end Go.Proofs.YtkjfhgoddhigmacDoor
