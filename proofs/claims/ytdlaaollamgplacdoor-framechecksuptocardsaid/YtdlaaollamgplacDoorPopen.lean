/-
  FRAMES AND ROWS OF PAIRS THAT ARE HANDED IN, with how much of the arguments' bulk they are. No claim by itself.
-/
import Derived.Test.YtdlaaollamgplacDoorFropen
import Derived.Test.YtdlaaollamgplacDoorDsets2
namespace Go.Proofs.YtdlaaollamgplacDoor
open Go.RowKit
open Go.Deep
open Go Go.Lib Go.ChangeShapes
set_option maxRecDepth 100000
theorem body_open2 {H : Type} {enc : TypeId × Value → H} {W : World} {fuel : Nat} {v : Value} {y : DataW H × List MemPlace}
    (hf : DataW.trod enc Tryd.prog W 0 (fun _ => true) true fuel 29 [v] = some y) :
    ∃ a len cap, v = .slice a len cap ∧ (len = 0 ∨ ∃ elems spare, y.1 = .slice elems spare ∧ elems.length = len) := by
  rcases Go.ChangeShapes.open_ints Tryd.underlying29 Tryd.underlying5 (by kernel_rfl) hf with ⟨hcs, _⟩ | ⟨x, l, c, zs, hcs, _, hl, hm, hz, hx, hcell, hwz⟩
  · simp at hcs
    exact ⟨none, 0, 0, hcs, Or.inl rfl⟩
  · simp at hcs
    have hd : y.1 = .slice (Go.ChangeShapes.lits .u8 (zs.take l)) (Go.ChangeShapes.lits .u8 (zs.drop l)) := congrArg Prod.fst hx
    have hzl : zs.length = c := by simpa using hz
    exact ⟨some x, l, c, hcs, Or.inr ⟨_, _, hd, by simp [Go.ChangeShapes.lits]; omega⟩⟩
theorem frame_bulk {H : Type} {enc : TypeId × Value → H} {W : World} {base : Nat} {k fl st : Int} {a : Option Addr} {len cap : Nat} {d : DataW H} {p : List MemPlace}
    (hv : Value.okWide Tryd.prog W .any base 43 (.agg #[.int .i64 k, .int .i64 fl, .int .i64 st, .slice a len cap]))
    (h : DataW.Trod enc Tryd.prog W 0 (fun _ => true) true 43 (.agg #[.int .i64 k, .int .i64 fl, .int .i64 st, .slice a len cap]) d p) :
    len = 0 ∨ ∃ x0 x1 x2 elems spare, d = .agg [x0, x1, x2, .slice elems spare] ∧ elems.length = len := by
  obtain ⟨v0, v1, v2, v3, y0, y1, y2, y3, n, he, hdd, _, h0, h1, h2, h3⟩ := Go.Joins.open_agg4 Tryd.underlying43 (by kernel_rfl) (by kernel_rfl) hv h
  simp only [Value.agg.injEq, Array.mk.injEq, List.cons.injEq, and_true] at he
  obtain ⟨_, _, _, he⟩ := he
  obtain ⟨a', len', cap', hv3, hb⟩ := body_open2 h3
  rw [hv3] at he
  cases he
  rcases hb with hb | ⟨elems, spare, h4, h5⟩
  · exact Or.inl hb
  · exact Or.inr ⟨_, _, _, elems, spare, by rw [hdd, h4], h5⟩
theorem pairs_open {H : Type} {enc : TypeId × Value → H} {W : World} {fuel : Nat} {d : DataW H} {p : List MemPlace} {a : Option Addr} {len cap : Nat}
    (hf : DataW.trod enc Tryd.prog W 0 (fun _ => true) true fuel 54 (Value.slice a len cap).cells.toList = some (d, p)) :
    ∃ P, PArg W a len cap P ∧ (len = 0 ∨ ∃ elems spare, d = .slice elems spare ∧ elems.length = len) := by
  rcases Go.Deep.open_slice Tryd.underlying54 hf with ⟨hcs, _⟩ | ⟨x, l, c, m, n, D, Pl, hcs, _, hl, hm, hmm, hx, hel⟩
  · simp [Value.cells] at hcs
    obtain ⟨rfl, rfl, rfl⟩ := hcs
    exact ⟨fun _ => (0, 0), Or.inl rfl, Or.inl rfl⟩
  · simp [Value.cells] at hcs
    obtain ⟨rfl, rfl, rfl⟩ := hcs
    simp only [if_true] at hmm
    subst hmm
    have ce : Tryd.prog.cellsOf 59 = 2 := by kernel_rfl
    have hdd := congrArg Prod.fst hx
    simp only at hdd
    by_cases h0 : len = 0
    · exact ⟨fun _ => (0, 0), Or.inl h0, Or.inl h0⟩
    · obtain ⟨g, off, spot⟩ := x
      have hspot : spot = none := by
        obtain ⟨cs', h1, _⟩ := hel 0 (by omega)
        rw [ce] at h1
        obtain ⟨_, hlen, hcell⟩ := World.cells?_some h1
        have h2 := hcell 0 (by omega)
        have h3 : ∃ u, W.cell? ((Addr.add ⟨g, off, spot⟩ (0 * 2)).add 0) = some u := by
          match cs', hlen, h2 with
          | [v0, v1], _, h2 => exact ⟨_, h2⟩
        obtain ⟨u, h3⟩ := h3
        simpa [Addr.add] using World.cell?_spot h3
      subst hspot
      have each : ∀ r, r < len → ∃ y : Int × Int, W.cell? ⟨g, off + r * 2, none⟩ = some (.int .i64 y.1) ∧ W.cell? ⟨g, off + r * 2 + 1, none⟩ = some (.int .i64 y.2) := by
        intro r hr
        obtain ⟨cs', h1, ht⟩ := hel r (by omega)
        rw [ce] at h1
        obtain ⟨_, hlen, hcell⟩ := World.cells?_some h1
        obtain ⟨xs, m', _, _, _, hn', hel'⟩ := DataW.trod_array Tryd.underlying59 ht
        have c3 : Tryd.prog.cellsOf 3 = 1 := by kernel_rfl
        match cs', hlen, xs, hn' with
        | [v0, v1], _, [y0, y1], _ =>
          have t0 := hel' 0 (by decide)
          have t1 := hel' 1 (by decide)
          simp [c3] at t0 t1
          have q0 := hcell 0 (by omega)
          have q1 := hcell 1 (by omega)
          simp only [add_at, Nat.add_zero, List.getElem?_cons_zero, List.getElem?_cons_succ] at q0 q1
          obtain ⟨k0, e0, _, _⟩ := DataW.trod_int Tryd.underlying3 t0
          obtain ⟨k1, e1, _, _⟩ := DataW.trod_int Tryd.underlying3 t1
          simp only [List.cons.injEq, and_true] at e0 e1
          subst e0; subst e1
          exact ⟨(k0, k1), q0, q1⟩
      refine ⟨fun r => if h : r < len then (each r h).choose else (0, 0), Or.inr ⟨g, off, rfl, hl, hm, fun t ht => ?_⟩, Or.inr ⟨_, _, hdd, by simp⟩⟩
      simp only [dif_pos ht]
      exact (each t ht).choose_spec
end Go.Proofs.YtdlaaollamgplacDoor
