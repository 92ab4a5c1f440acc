/-
  WHERETO: routes that are handed in: what a call may know of them. No claim by itself.
-/
import Derived.Test.YtmjdfbbhlbecdaaDoorWh2
import Derived.Lib.SmallJoins
import Derived.SizedLaws
import Derived.ChangeArms
import Derived.ChangeSlices
import Derived.Deep.Slices
import Derived.Deep.Matrix
namespace Go.Proofs.YtmjdfbbhlbecdaaDoor
open Go.RowKit
open Go.Deep
open Go Go.Lib Go.ChangeShapes
set_option maxRecDepth 100000
theorem w_weightsAll {H : Type} {P : Program} {e : TypeId} {d : DataW H} {n : Nat} (hn : n ∈ d.weights P e) : ∀ {l : List (DataW H)}, d ∈ l → n ∈ DataW.weightsAll P e l
  | [], h => by cases h
  | x :: r, h => by
    simp only [DataW.weightsAll, List.mem_append]
    rcases List.mem_cons.1 h with rfl | h
    · exact Or.inl hn
    · exact Or.inr (w_weightsAll hn h)
theorem w_add (g off q : Nat) : (⟨g, off, none⟩ : Addr).add q = ⟨g, off + q, none⟩ := by unfold Addr.add; split <;> simp_all
theorem w_text {H : Type} {enc : TypeId × Value → H} {W : World} {fuel : Nat} {v : Value} {y : DataW H × List MemPlace}
    (hf : DataW.trod enc Tryd.prog W 0 (fun _ => true) true fuel 9 [v] = some y) (hw : ∀ q, q ∈ y.1.weights Tryd.prog 9 → q ≤ reachBytes) : ∃ s : ByteArray, v = .string s ∧ s.size ≤ 140737488351232 := by
  obtain ⟨s, e, x, _⟩ := DataW.trod_string Tryd.underlying9 hf
  have d : y.1 = .lit (.string s.data.toList) := congrArg Prod.fst x
  have l : s.data.toList.length = s.size := by rw [Array.length_toList]; rfl
  refine ⟨s, by simpa using e, ?_⟩
  have := hw s.data.toList.length (by rw [d]; simp [DataW.weights])
  rw [l] at this
  simpa [reachBytes] using this
theorem routes_open {H : Type} {enc : TypeId × Value → H} {W : World} {ts : List TypeId} {ds : List (DataW H)} {j fuel : Nat} {d : DataW H} {p : List MemPlace} {a : Option Addr} {len cap : Nat}
    (hsz : (DataW.weightsEach Tryd.prog ts ds).all (· ≤ reachBytes) = true) (hj : ts[j]? = some 22) (hd : ds[j]? = some d)
    (hf : DataW.trod enc Tryd.prog W 0 (fun _ => true) true fuel 22 (Value.slice a len cap).cells.toList = some (d, p)) :
    ∃ L, RtArg W a len cap L ∧ SzL L := by
  rcases Go.Deep.open_slice Tryd.underlying22 hf with ⟨hcs, _⟩ | ⟨x, l, c, m, n, D, Pl, hcs, _, hl, hm, hmm, hx, hel⟩
  · simp [Value.cells] at hcs
    obtain ⟨rfl, rfl, rfl⟩ := hcs
    exact ⟨[], Or.inl ⟨rfl, rfl⟩, szl_nil⟩
  · simp [Value.cells] at hcs
    obtain ⟨rfl, rfl, rfl⟩ := hcs
    simp only [if_true] at hmm
    subst hmm
    have ce : Tryd.prog.cellsOf 33 = 3 := by kernel_rfl
    have hdd := congrArg Prod.fst hx
    simp only at hdd
    by_cases h0 : len = 0
    · exact ⟨[], Or.inl ⟨h0, rfl⟩, szl_nil⟩
    · obtain ⟨g, off, spot⟩ := x
      have hspot : spot = none := by
        obtain ⟨cs', h1, _⟩ := hel 0 (by omega)
        rw [ce] at h1
        obtain ⟨_, hlen, hcell⟩ := World.cells?_some h1
        have h2 := hcell 0 (by omega)
        have h3 : ∃ u, W.cell? ((Addr.add ⟨g, off, spot⟩ (0 * 3)).add 0) = some u := by
          match cs', hlen, h2 with
          | [v0, v1, v2], _, h2 => exact ⟨_, h2⟩
        obtain ⟨u, h3⟩ := h3
        simpa [Addr.add] using World.cell?_spot h3
      subst hspot
      have each : ∀ r, r < len → ∃ y : Rb, (W.cell? ⟨g, off + r * 3, none⟩ = some (.string y.1) ∧ W.cell? ⟨g, off + r * 3 + 1, none⟩ = some (.string y.2.1) ∧ W.cell? ⟨g, off + r * 3 + 2, none⟩ = some (.string y.2.2)) ∧ Sz3 y := by
        intro r hr
        obtain ⟨cs', h1, ht⟩ := hel r (by omega)
        rw [ce] at h1
        obtain ⟨_, hlen, hcell⟩ := World.cells?_some h1
        obtain ⟨xs, n', _, hx', hl', hlen', hff⟩ := DataW.trod_struct Tryd.underlying33 ht
        match cs', hlen, xs, hlen' with
        | [v0, v1, v2], _, [y0, y1, y2], _ =>
          have q0 := hcell 0 (by omega)
          have q1 := hcell 1 (by omega)
          have q2 := hcell 2 (by omega)
          simp only [w_add, Nat.add_zero, List.getElem?_cons_zero, List.getElem?_cons_succ] at q0 q1 q2
          have t0 := hff 0 _ rfl
          have t1 := hff 1 _ rfl
          have t2 := hff 2 _ rfl
          have c3 : Tryd.prog.cellsOf 9 = 1 := by kernel_rfl
          simp [c3] at t0 t1 t2
          have hmem : D r ∈ (List.range len).map D := List.mem_map.2 ⟨r, List.mem_range.2 hr, rfl⟩
          have hD : D r = .agg [y0.1, y1.1, y2.1] := by
            have := congrArg Prod.fst hx'
            simpa using this
          have hw : ∀ q, q ∈ (DataW.agg [y0.1, y1.1, y2.1]).weights Tryd.prog 33 → q ≤ reachBytes := fun q hq => by
            refine of_decide_eq_true (List.all_eq_true.1 hsz _ (DataW.weights_mem_each hj hd _ ?_))
            rw [hdd]
            simp only [DataW.weights, Tryd.underlying22, List.mem_cons, List.mem_append]
            refine Or.inr (Or.inl (w_weightsAll ?_ hmem))
            rw [hD]
            exact hq
          simp only [DataW.weights, Tryd.underlying33] at hw
          obtain ⟨s0, rfl, l0⟩ := w_text t0 (fun q hq => hw q (by simp [DataW.weightsEach, hq]))
          obtain ⟨s1, rfl, l1⟩ := w_text t1 (fun q hq => hw q (by simp [DataW.weightsEach, hq]))
          obtain ⟨s2, rfl, l2⟩ := w_text t2 (fun q hq => hw q (by simp [DataW.weightsEach, hq]))
          exact ⟨(s0, s1, s2), ⟨q0, q1, q2⟩, l0, l1, l2⟩
      obtain ⟨y, hy⟩ : ∃ y : Nat → Rb, ∀ r, r < len → (W.cell? ⟨g, off + r * 3, none⟩ = some (.string (y r).1) ∧ W.cell? ⟨g, off + r * 3 + 1, none⟩ = some (.string (y r).2.1) ∧ W.cell? ⟨g, off + r * 3 + 2, none⟩ = some (.string (y r).2.2)) ∧ Sz3 (y r) := by
        refine ⟨fun r => if h : r < len then Classical.choose (each r h) else rbn, fun r hr => ?_⟩
        simp only [dif_pos hr]
        exact Classical.choose_spec (each r hr)
      have hget : ∀ t, t < len → ((List.range len).map y).getD t rbn = y t := fun t ht => by simp [List.getD, ht]
      refine ⟨(List.range len).map y, Or.inr ⟨g, off, rfl, by simp, hl, hm, fun t ht => ?_, fun t ht => ?_, fun t ht => ?_⟩, fun t => ?_⟩
      · rw [hget t ht]; exact (hy t ht).1.1
      · rw [hget t ht]; exact (hy t ht).1.2.1
      · rw [hget t ht]; exact (hy t ht).1.2.2
      · by_cases ht : t < len
        · rw [hget t ht]; exact (hy t ht).2
        · have e : ((List.range len).map y).getD t rbn = rbn := by rw [List.getD, List.getElem?_eq_none (by simp; omega)]; rfl
          rw [e]; exact ⟨by decide, by decide, by decide⟩
end Go.Proofs.YtmjdfbbhlbecdaaDoor
