/-
  WHAT WAS DONE: entries that are handed in: what a call may know of them. No claim by itself.
-/
import Derived.Test.YteohgkgahkkjlaaGreatDoorG4
import Derived.Lib.SmallJoins
import Derived.SizedLaws
import Derived.ChangeArms
import Derived.ChangeSlices
import Derived.Deep.Slices
import Derived.Deep.Matrix
namespace Go.Proofs.YteohgkgahkkjlaaGreatDoor
open Go.RowKit
open Go.Deep
open Go Go.Lib Go.ChangeShapes
set_option maxRecDepth 100000
theorem h_text {H : Type} {enc : TypeId × Value → H} {W : World} {fuel : Nat} {v : Value} {y : DataW H × List MemPlace}
    (hf : DataW.trod enc Tryz.prog W 0 (fun _ => true) true fuel 9 [v] = some y) (hw : ∀ q, q ∈ y.1.weights Tryz.prog 9 → q ≤ reachBytes) : ∃ s : ByteArray, v = .string s ∧ s.size ≤ 140737488351232 := by
  obtain ⟨s, e, x, _⟩ := DataW.trod_string Tryz.underlying9 hf
  have d : y.1 = .lit (.string s.data.toList) := congrArg Prod.fst x
  have l : s.data.toList.length = s.size := by rw [Array.length_toList]; rfl
  refine ⟨s, by simpa using e, ?_⟩
  have := hw s.data.toList.length (by rw [d]; simp [DataW.weights])
  rw [l] at this
  simpa [reachBytes] using this
theorem array6 {α : Type} {cs : Array α} (h : cs.size = 6) : ∃ c0 c1 c2 c3 c4 c5, cs = #[c0, c1, c2, c3, c4, c5] := by
  obtain ⟨l⟩ := cs
  match l, h with
  | [c0, c1, c2, c3, c4, c5], _ => exact ⟨c0, c1, c2, c3, c4, c5, rfl⟩
theorem open_agg6 {H : Type} {enc : TypeId × Value → H} {P : Program} {w : World} {base : Nat} {spare : Nat → Bool} {held : Bool} {r : Reach} {b0 : Nat} {t : TypeId} {f0 f1 f2 f3 f4 f5 : Field} {v : Value} {d : DataW H} {p : List MemPlace} (hs : P.underlying t = some (.struct #[f0, f1, f2, f3, f4, f5])) (hone : oneCellFields P #[f0, f1, f2, f3, f4, f5] = true) (hC : P.cellsOf t = 6)
    (hv : Value.okWide P w r b0 t v) (h : DataW.Trod enc P w base spare held t v d p) :
    ∃ (v0 v1 v2 v3 v4 v5 : Value) (y0 y1 y2 y3 y4 y5 : DataW H × List MemPlace) (n : Nat), v = .agg #[v0, v1, v2, v3, v4, v5] ∧ d = .agg [y0.1, y1.1, y2.1, y3.1, y4.1, y5.1] ∧
      DataW.trod enc P w base spare held n f0.type [v0] = some y0 ∧ DataW.trod enc P w base spare held n f1.type [v1] = some y1 ∧ DataW.trod enc P w base spare held n f2.type [v2] = some y2 ∧ DataW.trod enc P w base spare held n f3.type [v3] = some y3 ∧ DataW.trod enc P w base spare held n f4.type [v4] = some y4 ∧ DataW.trod enc P w base spare held n f5.type [v5] = some y5 := by
  obtain ⟨cs, rfl, hsz⟩ := Go.WideShapes.okWide_struct hs hv
  obtain ⟨c0, c1, c2, c3, c4, c5, rfl⟩ := array6 (hsz.trans hC)
  obtain ⟨fuel, hf⟩ := h
  obtain ⟨xs, n, _, hx, hl, hlen, hff⟩ := DataW.trod_struct hs hf
  match xs, hlen with
  | [y0, y1, y2, y3, y4, y5], _ =>
    obtain ⟨o0, k0⟩ := hone_of hone 0 f0 rfl
    obtain ⟨o1, k1⟩ := hone_of hone 1 f1 rfl
    obtain ⟨o2, k2⟩ := hone_of hone 2 f2 rfl
    obtain ⟨o3, k3⟩ := hone_of hone 3 f3 rfl
    obtain ⟨o4, k4⟩ := hone_of hone 4 f4 rfl
    obtain ⟨o5, k5⟩ := hone_of hone 5 f5 rfl
    have g0 := hff 0 f0 rfl
    have g1 := hff 1 f1 rfl
    have g2 := hff 2 f2 rfl
    have g3 := hff 3 f3 rfl
    have g4 := hff 4 f4 rfl
    have g5 := hff 5 f5 rfl
    refine ⟨c0, c1, c2, c3, c4, c5, y0, y1, y2, y3, y4, y5, n, rfl, ?_, ?_, ?_, ?_, ?_, ?_, ?_⟩
    · have := congrArg Prod.fst hx
      simpa using this
    · simpa [Value.cells, o0, k0] using g0
    · simpa [Value.cells, o1, k1] using g1
    · simpa [Value.cells, o2, k2] using g2
    · simpa [Value.cells, o3, k3] using g3
    · simpa [Value.cells, o4, k4] using g4
    · simpa [Value.cells, o5, k5] using g5
theorem entry_open {H : Type} {enc : TypeId × Value → H} {W : World} {ts : List TypeId} {ds : List (DataW H)} {j base : Nat} {v : Value} {d : DataW H} {p : List MemPlace}
    (hsz : (DataW.weightsEach Tryz.prog ts ds).all (· ≤ reachBytes) = true) (hj : ts[j]? = some 23) (hd : ds[j]? = some d) (hv : Value.okWide Tryz.prog W .any base 23 v)
    (h : DataW.Trod enc Tryz.prog W 0 (fun _ => true) true 23 v d p) : ∃ (t c b k : Int) (m q : ByteArray), v = entV t c b k m q ∧ m.size ≤ 140737488351232 ∧ q.size ≤ 140737488351232 := by
  obtain ⟨v0, v1, v2, v3, v4, v5, y0, y1, y2, y3, y4, y5, n, rfl, hdd, h0, h1, h2, h3, h4, h5⟩ := open_agg6 Tryz.underlying23 (by kernel_rfl) (by kernel_rfl) hv h
  have hw : ∀ q, q ∈ (DataW.agg [y0.1, y1.1, y2.1, y3.1, y4.1, y5.1]).weights Tryz.prog 23 → q ≤ reachBytes := fun q hq => of_decide_eq_true (List.all_eq_true.1 hsz _ (DataW.weights_mem_each hj hd _ (by rw [hdd]; exact hq)))
  simp only [DataW.weights, Tryz.underlying23] at hw
  obtain ⟨k0, e0, x0, w0⟩ := DataW.trod_int Tryz.underlying3 h0
  obtain ⟨k1, e1, x1, w1⟩ := DataW.trod_int Tryz.underlying3 h1
  obtain ⟨k2, e2, x2, w2⟩ := DataW.trod_int Tryz.underlying3 h2
  obtain ⟨k3, e3, x3, w3⟩ := DataW.trod_int Tryz.underlying3 h3
  simp only [List.cons.injEq, and_true] at e0 e1 e2 e3
  subst e0 e1 e2 e3
  obtain ⟨s0, rfl, l0⟩ := h_text h4 (fun q hq => hw q (by simp [DataW.weightsEach, hq]))
  obtain ⟨s1, rfl, l1⟩ := h_text h5 (fun q hq => hw q (by simp [DataW.weightsEach, hq]))
  exact ⟨k0, k1, k2, k3, s0, s1, rfl, l0, l1⟩
end Go.Proofs.YteohgkgahkkjlaaGreatDoor
