/-
  FRAMES THAT ARE HANDED IN: what a call may know of them. No claim by itself.
-/
import Derived.Test.YtdlaaollamgplagGreatDoorArg0
import Derived.Lib.SmallJoins
import Derived.SizedLaws
import Derived.ChangeArms
import Derived.ChangeSlices
import Derived.Deep.Slices
import Derived.Deep.Matrix
namespace Go.Proofs.YtdlaaollamgplagGreatDoor
open Go.RowKit
open Go.Deep
open Go Go.Lib Go.ChangeShapes
set_option maxRecDepth 100000
theorem weightsAll_in {H : Type} {P : Program} {e : TypeId} {d : DataW H} {n : Nat} (hn : n ∈ d.weights P e) : ∀ {l : List (DataW H)}, d ∈ l → n ∈ DataW.weightsAll P e l
  | [], h => by cases h
  | x :: r, h => by
    simp only [DataW.weightsAll, List.mem_append]
    rcases List.mem_cons.1 h with rfl | h
    · exact Or.inl hn
    · exact Or.inr (weightsAll_in hn h)
theorem add_at (g off q : Nat) : (⟨g, off, none⟩ : Addr).add q = ⟨g, off + q, none⟩ := by unfold Addr.add; split <;> simp_all
/-- A body that is handed in. -/
theorem body_open {H : Type} {enc : TypeId × Value → H} {W : World} {fuel : Nat} {v : Value} {y : DataW H × List MemPlace}
    (hf : DataW.trod enc Tryz.prog W 0 (fun _ => true) true fuel 23 [v] = some y) (hw : ∀ q, q ∈ y.1.weights Tryz.prog 23 → q ≤ reachBytes) :
    ∃ a len cap Z, v = .slice a len cap ∧ Arg W a len cap Z ∧ len ≤ 140737488351232 ∧ Z.length = len ∧ (∀ c ∈ Z, 0 ≤ c ∧ c < 256) := by
  rcases Go.ChangeShapes.open_ints Tryz.underlying23 Tryz.underlying5 (by kernel_rfl) hf with ⟨hcs, _⟩ | ⟨x, l, c, zs, hcs, _, hl, hm, hz, hx, hcell, hwz⟩
  · simp at hcs
    exact ⟨none, 0, 0, [], hcs, Or.inl ⟨rfl, rfl⟩, by decide, rfl, fun c hc => by cases hc⟩
  · simp at hcs
    have hd : y.1 = .slice (Go.ChangeShapes.lits .u8 (zs.take l)) (Go.ChangeShapes.lits .u8 (zs.drop l)) := congrArg Prod.fst hx
    have hzl : zs.length = c := by simpa using hz
    have hb : (Tryz.prog.bytesOf 5) = 1 := by kernel_rfl
    have hs := hw ((zs.take l).length + (zs.drop l).length) (by rw [hd]; simp [DataW.weights, Tryz.underlying23, hb, Go.ChangeShapes.lits])
    simp only [List.length_take, List.length_drop, reachBytes] at hs
    refine ⟨some x, l, c, zs.take l, hcs, arg_of hzl hl hm hcell hwz, by omega, by rw [List.length_take]; omega, fun q hq => ?_⟩
    have hw := hwz q (List.take_subset _ _ hq)
    simp [Lit.wf, IntKind.min, IntKind.max, IntKind.bits, IntKind.signed] at hw
    omega
theorem frame_open {H : Type} {enc : TypeId × Value → H} {W : World} {ts : List TypeId} {ds : List (DataW H)} {j base : Nat} {v : Value} {d : DataW H} {p : List MemPlace}
    (hsz : (DataW.weightsEach Tryz.prog ts ds).all (· ≤ reachBytes) = true) (hj : ts[j]? = some 60) (hd : ds[j]? = some d) (hv : Value.okWide Tryz.prog W .any base 60 v)
    (h : DataW.Trod enc Tryz.prog W 0 (fun _ => true) true 60 v d p) :
    ∃ (k fl st : Int) (a : Option Addr) (len cap : Nat) (Z : List Int), v = .agg #[.int .i64 k, .int .i64 fl, .int .i64 st, .slice a len cap] ∧ Arg W a len cap Z ∧ len ≤ 140737488351232 ∧ Z.length = len ∧ (∀ c ∈ Z, 0 ≤ c ∧ c < 256) := by
  obtain ⟨v0, v1, v2, v3, y0, y1, y2, y3, n, rfl, hdd, _, h0, h1, h2, h3⟩ := Go.Joins.open_agg4 Tryz.underlying60 (by kernel_rfl) (by kernel_rfl) hv h
  obtain ⟨k, e0, x0, _⟩ := DataW.trod_int Tryz.underlying3 h0
  obtain ⟨fl, e1, x1, _⟩ := DataW.trod_int Tryz.underlying3 h1
  obtain ⟨st, e2, x2, _⟩ := DataW.trod_int Tryz.underlying3 h2
  simp only [List.cons.injEq, and_true] at e0 e1 e2
  subst e0; subst e1; subst e2
  obtain ⟨a, len, cap, Z, rfl, hA, hl, hZ, hb⟩ := body_open h3 (fun q hq => by
    refine of_decide_eq_true (List.all_eq_true.1 hsz _ (DataW.weights_mem_each hj hd _ ?_))
    rw [hdd]
    simp only [DataW.weights, Tryz.underlying60]
    simp [DataW.weightsEach, hq])
  exact ⟨k, fl, st, a, len, cap, Z, rfl, hA, hl, hZ, hb⟩
end Go.Proofs.YtdlaaollamgplagGreatDoor
