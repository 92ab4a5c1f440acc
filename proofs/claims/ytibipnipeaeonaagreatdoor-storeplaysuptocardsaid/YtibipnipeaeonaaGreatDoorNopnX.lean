/-
  REQUESTS AND REPLIES THAT ARE HANDED IN: what a call may know of them. No claim by itself.
-/
import Derived.Lib.SmallJoins
import Derived.Deep.SlicePairs
import Derived.SizedLaws
import Derived.ChangeArms
import Derived.ChangeSlices
import Derived.Deep.Slices
import Derived.Deep.Matrix
import Derived.Test.YtibipnipeaeonaaGreatDoorMC
namespace Go.Proofs.YtibipnipeaeonaaGreatDoor
open Go.RowKit
open Go.Deep
open Go Go.Lib Go.ChangeShapes
set_option maxRecDepth 100000
theorem n_weightsAll {H : Type} {P : Program} {e : TypeId} {d : DataW H} {n : Nat} (hn : n ∈ d.weights P e) : ∀ {l : List (DataW H)}, d ∈ l → n ∈ DataW.weightsAll P e l
  | [], h => by cases h
  | x :: r, h => by
    simp only [DataW.weightsAll, List.mem_append]
    rcases List.mem_cons.1 h with rfl | h
    · exact Or.inl hn
    · exact Or.inr (n_weightsAll hn h)
theorem n_add (g off q : Nat) : (⟨g, off, none⟩ : Addr).add q = ⟨g, off + q, none⟩ := by unfold Addr.add; split <;> simp_all
def strOf : Value → ByteArray
  | .string s => s
  | _ => .empty
theorem n_body {H : Type} {enc : TypeId × Value → H} {W : World} {fuel : Nat} {v : Value} {y : DataW H × List MemPlace}
    (hf : DataW.trod enc Tryz.prog W 0 (fun _ => true) true fuel 34 [v] = some y) (hw : ∀ q, q ∈ y.1.weights Tryz.prog 34 → q ≤ reachBytes) :
    ∃ a len cap Z, v = .slice a len cap ∧ Arg W a len cap Z ∧ len ≤ 140737488351232 ∧ (a = none → len = 0 ∧ cap = 0) := by
  rcases Go.ChangeShapes.open_ints Tryz.underlying34 Tryz.underlying5 (by kernel_rfl) hf with ⟨hcs, _⟩ | ⟨x, l, c, zs, hcs, _, hl, hm, hz, hx, hcell, hwz⟩
  · simp at hcs
    exact ⟨none, 0, 0, [], hcs, Or.inl ⟨rfl, rfl⟩, by decide, fun _ => ⟨rfl, rfl⟩⟩
  · simp at hcs
    have hd : y.1 = .slice (Go.ChangeShapes.lits .u8 (zs.take l)) (Go.ChangeShapes.lits .u8 (zs.drop l)) := congrArg Prod.fst hx
    have hzl : zs.length = c := by simpa using hz
    have hb : (Tryz.prog.bytesOf 5) = 1 := by kernel_rfl
    have hs := hw ((zs.take l).length + (zs.drop l).length) (by rw [hd]; simp [DataW.weights, Tryz.underlying34, hb, Go.ChangeShapes.lits])
    simp only [List.length_take, List.length_drop, reachBytes] at hs
    exact ⟨some x, l, c, zs.take l, hcs, arg_of hzl hl hm hcell hwz, by omega, fun h => by cases h⟩
theorem n_text {H : Type} {enc : TypeId × Value → H} {W : World} {fuel : Nat} {v : Value} {y : DataW H × List MemPlace}
    (hf : DataW.trod enc Tryz.prog W 0 (fun _ => true) true fuel 9 [v] = some y) (hw : ∀ q, q ∈ y.1.weights Tryz.prog 9 → q ≤ reachBytes) : ∃ s : ByteArray, v = .string s ∧ s.size ≤ 140737488351232 := by
  obtain ⟨s, e, x, _⟩ := DataW.trod_string Tryz.underlying9 hf
  have d : y.1 = .lit (.string s.data.toList) := congrArg Prod.fst x
  have l : s.data.toList.length = s.size := by rw [Array.length_toList]; rfl
  refine ⟨s, by simpa using e, ?_⟩
  have := hw s.data.toList.length (by rw [d]; simp [DataW.weights])
  rw [l] at this
  simpa [reachBytes] using this
theorem n_fields {H : Type} {enc : TypeId × Value → H} {W : World} {fuel : Nat} {v : Value} {y : DataW H × List MemPlace}
    (hf : DataW.trod enc Tryz.prog W 0 (fun _ => true) true fuel 33 [v] = some y) (hw : ∀ q, q ∈ y.1.weights Tryz.prog 33 → q ≤ reachBytes) :
    ∃ a len cap L, v = .slice a len cap ∧ FArg W a len cap L ∧ len ≤ 4611686018427387904 ∧ ∀ t, (L.getD t fnone).1.size ≤ 140737488351232 ∧ (L.getD t fnone).2.size ≤ 140737488351232 := by
  rcases open_slice_pairs Tryz.underlying33 Tryz.underlying84 (by kernel_rfl) rfl rfl (by kernel_rfl) (by kernel_rfl) hf with ⟨hcs, _⟩ | ⟨x, len, cap, m, n, V0, V1, D0, D1, P0, P1, hcs, _, hl, hm, hmm, hx, hel⟩
  · simp at hcs
    exact ⟨none, 0, 0, [], hcs, Or.inl ⟨rfl, rfl⟩, by decide, fun t => by simp [fnone]⟩
  · simp at hcs
    simp only [if_true] at hmm
    subst hmm
    have hdd : y.1 = .slice ((List.range len).map fun i => .agg [D0 i, D1 i]) ((List.range (m - len)).map fun j => .agg [D0 (len + j), D1 (len + j)]) := congrArg Prod.fst hx
    have hstr : ∀ i, i < len → V0 i = .string (strOf (V0 i)) ∧ V1 i = .string (strOf (V1 i)) ∧ (strOf (V0 i)).size ≤ reachBytes ∧ (strOf (V1 i)).size ≤ reachBytes := by
      intro i hi
      obtain ⟨_, _, t0, t1⟩ := hel i (by omega)
      obtain ⟨s0, e0, x0, _⟩ := DataW.trod_string Tryz.underlying9 t0
      obtain ⟨s1, e1, x1, _⟩ := DataW.trod_string Tryz.underlying9 t1
      have v0 : V0 i = .string s0 := by simpa using e0
      have v1 : V1 i = .string s1 := by simpa using e1
      have d0 : D0 i = .lit (.string s0.data.toList) := congrArg Prod.fst x0
      have d1 : D1 i = .lit (.string s1.data.toList) := congrArg Prod.fst x1
      have hmem : DataW.agg [D0 i, D1 i] ∈ (List.range len).map fun i => DataW.agg [D0 i, D1 i] := List.mem_map.2 ⟨i, List.mem_range.2 hi, rfl⟩
      have hw' : ∀ q, q ∈ (DataW.agg [D0 i, D1 i]).weights Tryz.prog 84 → q ≤ reachBytes := by
        intro q hq
        refine hw q ?_
        rw [hdd]
        simp only [DataW.weights, Tryz.underlying33, List.mem_cons, List.mem_append]
        exact Or.inr (Or.inl (n_weightsAll hq hmem))
      have l0 : s0.data.toList.length = s0.size := by rw [Array.length_toList]; rfl
      have l1 : s1.data.toList.length = s1.size := by rw [Array.length_toList]; rfl
      refine ⟨by rw [v0]; rfl, by rw [v1]; rfl, ?_, ?_⟩
      · rw [v0]
        show s0.size ≤ reachBytes
        rw [← l0]
        exact hw' _ (by rw [d0, d1]; simp [DataW.weights, Tryz.underlying84, DataW.weightsEach])
      · rw [v1]
        show s1.size ≤ reachBytes
        rw [← l1]
        exact hw' _ (by rw [d0, d1]; simp [DataW.weights, Tryz.underlying84, DataW.weightsEach])
    have hget : ∀ t, t < len → ((List.range len).map fun i => (strOf (V0 i), strOf (V1 i))).getD t fnone = (strOf (V0 t), strOf (V1 t)) := by
      intro t ht
      simp [List.getD, ht]
    have hby : Tryz.prog.bytesOf 84 = 32 := by kernel_rfl
    have hsl := hw ((len + (m - len)) * 32) (by rw [hdd]; simp [DataW.weights, Tryz.underlying33, hby])
    simp only [reachBytes] at hsl
    refine ⟨some x, len, m, (List.range len).map fun i => (strOf (V0 i), strOf (V1 i)), hcs, ?_, by omega, fun t => ?_⟩
    · by_cases h0 : len = 0
      · subst h0; exact Or.inl ⟨rfl, rfl⟩
      · obtain ⟨hc, _⟩ := hel 0 (by omega)
        obtain ⟨g, off, spot⟩ := x
        have hspot : spot = none := by simpa [Addr.add] using World.cell?_spot hc
        subst hspot
        have hplain := n_add g off
        refine Or.inr ⟨g, off, rfl, by simp, hl, hm, fun t ht => ?_, fun t ht => ?_⟩
        · have h1 := (hel t (by omega)).1
          rw [hplain] at h1
          rw [h1, hget t ht]
          exact congrArg some (hstr t ht).1
        · have h1 := (hel t (by omega)).2.1
          rw [hplain] at h1
          rw [show off + t * 2 + 1 = off + (t * 2 + 1) from by omega, h1, hget t ht]
          exact congrArg some (hstr t ht).2.1
    · by_cases ht : t < len
      · rw [hget t ht]
        have h2 := (hstr t ht).2.2
        simpa [reachBytes] using h2
      · have : ((List.range len).map fun i => (strOf (V0 i), strOf (V1 i))).getD t fnone = fnone := by
          rw [List.getD, List.getElem?_eq_none (by simp; omega)]; rfl
        rw [this]
        simp [fnone]
theorem array5 {α : Type} {cs : Array α} (h : cs.size = 5) : ∃ c0 c1 c2 c3 c4, cs = #[c0, c1, c2, c3, c4] := by
  obtain ⟨l⟩ := cs
  match l, h with
  | [c0, c1, c2, c3, c4], _ => exact ⟨c0, c1, c2, c3, c4, rfl⟩
theorem open_agg5 {H : Type} {enc : TypeId × Value → H} {P : Program} {w : World} {base : Nat} {spare : Nat → Bool} {held : Bool} {r : Reach} {b0 : Nat} {t : TypeId} {f0 f1 f2 f3 f4 : Field} {v : Value} {d : DataW H} {p : List MemPlace} (hs : P.underlying t = some (.struct #[f0, f1, f2, f3, f4])) (hone : oneCellFields P #[f0, f1, f2, f3, f4] = true) (hC : P.cellsOf t = 5)
    (hv : Value.okWide P w r b0 t v) (h : DataW.Trod enc P w base spare held t v d p) :
    ∃ (v0 v1 v2 v3 v4 : Value) (y0 y1 y2 y3 y4 : DataW H × List MemPlace) (n : Nat), v = .agg #[v0, v1, v2, v3, v4] ∧ d = .agg [y0.1, y1.1, y2.1, y3.1, y4.1] ∧
      DataW.trod enc P w base spare held n f0.type [v0] = some y0 ∧ DataW.trod enc P w base spare held n f1.type [v1] = some y1 ∧ DataW.trod enc P w base spare held n f2.type [v2] = some y2 ∧ DataW.trod enc P w base spare held n f3.type [v3] = some y3 ∧ DataW.trod enc P w base spare held n f4.type [v4] = some y4 := by
  obtain ⟨cs, rfl, hsz⟩ := Go.WideShapes.okWide_struct hs hv
  obtain ⟨c0, c1, c2, c3, c4, rfl⟩ := array5 (hsz.trans hC)
  obtain ⟨fuel, hf⟩ := h
  obtain ⟨xs, n, _, hx, hl, hlen, hff⟩ := DataW.trod_struct hs hf
  match xs, hlen with
  | [y0, y1, y2, y3, y4], _ =>
    obtain ⟨o0, k0⟩ := hone_of hone 0 f0 rfl
    obtain ⟨o1, k1⟩ := hone_of hone 1 f1 rfl
    obtain ⟨o2, k2⟩ := hone_of hone 2 f2 rfl
    obtain ⟨o3, k3⟩ := hone_of hone 3 f3 rfl
    obtain ⟨o4, k4⟩ := hone_of hone 4 f4 rfl
    have g0 := hff 0 f0 rfl
    have g1 := hff 1 f1 rfl
    have g2 := hff 2 f2 rfl
    have g3 := hff 3 f3 rfl
    have g4 := hff 4 f4 rfl
    refine ⟨c0, c1, c2, c3, c4, y0, y1, y2, y3, y4, n, rfl, ?_, ?_, ?_, ?_, ?_, ?_⟩
    · have := congrArg Prod.fst hx
      simpa using this
    · simpa [Value.cells, o0, k0] using g0
    · simpa [Value.cells, o1, k1] using g1
    · simpa [Value.cells, o2, k2] using g2
    · simpa [Value.cells, o3, k3] using g3
    · simpa [Value.cells, o4, k4] using g4
theorem request_open {H : Type} {enc : TypeId × Value → H} {W : World} {ts : List TypeId} {ds : List (DataW H)} {j base : Nat} {v : Value} {d : DataW H} {p : List MemPlace}
    (hsz : (DataW.weightsEach Tryz.prog ts ds).all (· ≤ reachBytes) = true) (hj : ts[j]? = some 36) (hd : ds[j]? = some d) (hv : Value.okWide Tryz.prog W .any base 36 v)
    (h : DataW.Trod enc Tryz.prog W 0 (fun _ => true) true 36 v d p) : ∃ q : RqM, v = q.val ∧ RqIn W q := by
  obtain ⟨v0, v1, v2, v3, v4, y0, y1, y2, y3, y4, n, rfl, hdd, h0, h1, h2, h3, h4⟩ := open_agg5 Tryz.underlying36 (by kernel_rfl) (by kernel_rfl) hv h
  have hw : ∀ q, q ∈ (DataW.agg [y0.1, y1.1, y2.1, y3.1, y4.1]).weights Tryz.prog 36 → q ≤ reachBytes := fun q hq => of_decide_eq_true (List.all_eq_true.1 hsz _ (DataW.weights_mem_each hj hd _ (by rw [hdd]; exact hq)))
  simp only [DataW.weights, Tryz.underlying36] at hw
  obtain ⟨s0, rfl, l0⟩ := n_text h0 (fun q hq => hw q (by simp [DataW.weightsEach, hq]))
  obtain ⟨s1, rfl, l1⟩ := n_text h1 (fun q hq => hw q (by simp [DataW.weightsEach, hq]))
  obtain ⟨s2, rfl, l2⟩ := n_text h2 (fun q hq => hw q (by simp [DataW.weightsEach, hq]))
  obtain ⟨fa, fn, fc, L, rfl, f1, f2, f3⟩ := n_fields h3 (fun q hq => hw q (by simp [DataW.weightsEach, hq]))
  obtain ⟨ba, bn, bc, Z, rfl, b1, b2, b3⟩ := n_body h4 (fun q hq => hw q (by simp [DataW.weightsEach, hq]))
  exact ⟨⟨s0, s1, s2, fa, fn, fc, ba, bn, bc, L, Z⟩, rfl, f1, b1, b3, ⟨f2, b2⟩, ⟨l0, l1, l2⟩, f3⟩
theorem reply_open {H : Type} {enc : TypeId × Value → H} {W : World} {ts : List TypeId} {ds : List (DataW H)} {j base : Nat} {v : Value} {d : DataW H} {p : List MemPlace}
    (hsz : (DataW.weightsEach Tryz.prog ts ds).all (· ≤ reachBytes) = true) (hj : ts[j]? = some 38) (hd : ds[j]? = some d) (hv : Value.okWide Tryz.prog W .any base 38 v)
    (h : DataW.Trod enc Tryz.prog W 0 (fun _ => true) true 38 v d p) : ∃ q : RpM, v = q.val ∧ RpIn W q := by
  obtain ⟨v0, v1, v2, y0, y1, y2, n, rfl, hdd, _, h0, h1, h2⟩ := Go.Joins.open_agg3 Tryz.underlying38 (by kernel_rfl) (by kernel_rfl) hv h
  have hw : ∀ q, q ∈ (DataW.agg [y0.1, y1.1, y2.1]).weights Tryz.prog 38 → q ≤ reachBytes := fun q hq => of_decide_eq_true (List.all_eq_true.1 hsz _ (DataW.weights_mem_each hj hd _ (by rw [hdd]; exact hq)))
  simp only [DataW.weights, Tryz.underlying38] at hw
  obtain ⟨k, e0, x0, w0⟩ := DataW.trod_int Tryz.underlying3 h0
  simp only [List.cons.injEq, and_true] at e0
  subst e0
  obtain ⟨fa, fn, fc, L, rfl, f1, f2, f3⟩ := n_fields h1 (fun q hq => hw q (by simp [DataW.weightsEach, hq]))
  obtain ⟨ba, bn, bc, Z, rfl, b1, b2, b3⟩ := n_body h2 (fun q hq => hw q (by simp [DataW.weightsEach, hq]))
  exact ⟨⟨k, fa, fn, fc, ba, bn, bc, L, Z⟩, rfl, i64_wf w0, f1, b1, b3, ⟨f2, b2⟩, f3⟩
end Go.Proofs.YtibipnipeaeonaaGreatDoor
