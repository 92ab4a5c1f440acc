/-
  MESSAGES AS LINES: a row of requests that is handed in. No claim by itself.
-/
import Derived.Test.YtgjolljhjagngafDoorNopn
namespace Go.Proofs.YtgjolljhjagngafDoor
open Go.RowKit
set_option maxRecDepth 100000
/-- Requests in a row of memory. -/
structure RqRow (w : World) (g off len cap : Nat) (F : Nat → RqM) : Prop where
  hcap : len ≤ cap
  hmax : cap ≤ maxLen
  hel : ∀ t, t < len → ((w.cell? ⟨g, off + t * 5, none⟩ = some (.string (F t).m) ∧ w.cell? ⟨g, off + t * 5 + 1, none⟩ = some (.string (F t).p)) ∧ (w.cell? ⟨g, off + t * 5 + 2, none⟩ = some (.string (F t).h) ∧ w.cell? ⟨g, off + t * 5 + 3, none⟩ = some (.slice (F t).fa (F t).fn (F t).fc) ∧ w.cell? ⟨g, off + t * 5 + 4, none⟩ = some (.slice (F t).ba (F t).bn (F t).bc))) ∧ RqIn w (F t)
theorem rq_lt {w : World} {g o : Nat} {v : Value} (h : w.cell? ⟨g, o, none⟩ = some v) : g < w.heap.size := by
  rcases Nat.lt_or_ge g w.heap.size with h1 | h1
  · exact h1
  · simp [World.cell?, Array.getElem?_eq_none h1] at h
theorem RqRow.below {w w' : World} {g off len cap : Nat} {F : Nat → RqM} (h : RqRow w g off len cap F) (hb : Below w.heap.size w w') : RqRow w' g off len cap F := by
  refine ⟨h.hcap, h.hmax, fun t ht => ?_⟩
  obtain ⟨⟨⟨h1, h2⟩, h3, h4, h5⟩, h6⟩ := h.hel t ht
  have hg := rq_lt h1
  exact ⟨⟨⟨(hb.cell (p := ⟨g, off + t * 5, none⟩) hg).trans h1, (hb.cell (p := ⟨g, off + t * 5 + 1, none⟩) hg).trans h2⟩, (hb.cell (p := ⟨g, off + t * 5 + 2, none⟩) hg).trans h3, (hb.cell (p := ⟨g, off + t * 5 + 3, none⟩) hg).trans h4, (hb.cell (p := ⟨g, off + t * 5 + 4, none⟩) hg).trans h5⟩, h6.below hb⟩
def RqArg (w : World) (a : Option Addr) (len cap : Nat) (F : Nat → RqM) : Prop := len = 0 ∨ ∃ g off, a = some ⟨g, off, none⟩ ∧ RqRow w g off len cap F
def rqNone : RqM := ⟨⟨#[]⟩, ⟨#[]⟩, ⟨#[]⟩, none, 0, 0, none, 0, 0, [], []⟩
instance : Inhabited RqM := ⟨rqNone⟩
theorem requests_open {H : Type} {enc : TypeId × Value → H} {W : World} {ts : List TypeId} {ds : List (DataW H)} {j fuel : Nat} {d : DataW H} {p : List MemPlace} {a : Option Addr} {len cap : Nat}
    (hsz : (DataW.weightsEach Tryd.prog ts ds).all (· ≤ reachBytes) = true) (hj : ts[j]? = some 56) (hd : ds[j]? = some d)
    (hf : DataW.trod enc Tryd.prog W 0 (fun _ => true) true fuel 56 (Value.slice a len cap).cells.toList = some (d, p)) :
    ∃ F, RqArg W a len cap F := by
  rcases Go.Deep.open_slice Tryd.underlying56 hf with ⟨hcs, _⟩ | ⟨x, l, c, m, n, D, Pl, hcs, _, hl, hm, hmm, hx, hel⟩
  · simp [Value.cells] at hcs
    obtain ⟨rfl, rfl, rfl⟩ := hcs
    exact ⟨fun _ => rqNone, Or.inl rfl⟩
  · simp [Value.cells] at hcs
    obtain ⟨rfl, rfl, rfl⟩ := hcs
    simp only [if_true] at hmm
    subst hmm
    have ce : Tryd.prog.cellsOf 34 = 5 := by kernel_rfl
    have hdd := congrArg Prod.fst hx
    simp only at hdd
    by_cases h0 : len = 0
    · exact ⟨fun _ => rqNone, Or.inl h0⟩
    · obtain ⟨g, off, spot⟩ := x
      have hspot : spot = none := by
        obtain ⟨cs', h1, _⟩ := hel 0 (by omega)
        rw [ce] at h1
        obtain ⟨_, hlen, hcell⟩ := World.cells?_some h1
        have h2 := hcell 0 (by omega)
        have h3 : ∃ u, W.cell? ((Addr.add ⟨g, off, spot⟩ (0 * 5)).add 0) = some u := by
          match cs', hlen, h2 with
          | [v0, v1, v2, v3, v4], _, h2 => exact ⟨_, h2⟩
        obtain ⟨u, h3⟩ := h3
        simpa [Addr.add] using World.cell?_spot h3
      subst hspot
      have each : ∀ r, r < len → ∃ y : RqM, ((W.cell? ⟨g, off + r * 5, none⟩ = some (.string y.m) ∧ W.cell? ⟨g, off + r * 5 + 1, none⟩ = some (.string y.p)) ∧ (W.cell? ⟨g, off + r * 5 + 2, none⟩ = some (.string y.h) ∧ W.cell? ⟨g, off + r * 5 + 3, none⟩ = some (.slice y.fa y.fn y.fc) ∧ W.cell? ⟨g, off + r * 5 + 4, none⟩ = some (.slice y.ba y.bn y.bc))) ∧ RqIn W y := by
        intro r hr
        obtain ⟨cs', h1, ht⟩ := hel r (by omega)
        rw [ce] at h1
        obtain ⟨_, hlen, hcell⟩ := World.cells?_some h1
        obtain ⟨xs, n', _, hx', hl', hlen', hff⟩ := DataW.trod_struct Tryd.underlying34 ht
        match cs', hlen, xs, hlen' with
        | [v0, v1, v2, v3, v4], _, [y0, y1, y2, y3, y4], _ =>
          have q0 := hcell 0 (by omega)
          have q1 := hcell 1 (by omega)
          have q2 := hcell 2 (by omega)
          have q3 := hcell 3 (by omega)
          have q4 := hcell 4 (by omega)
          simp only [n_add, Nat.add_zero, List.getElem?_cons_zero, List.getElem?_cons_succ] at q0 q1 q2 q3 q4
          have t0 := hff 0 _ rfl
          have t1 := hff 1 _ rfl
          have t2 := hff 2 _ rfl
          have t3 := hff 3 _ rfl
          have t4 := hff 4 _ rfl
          have c3 : Tryd.prog.cellsOf 9 = 1 := by kernel_rfl
          have cf : Tryd.prog.cellsOf 32 = 1 := by kernel_rfl
          have cs : Tryd.prog.cellsOf 22 = 1 := by kernel_rfl
          simp [c3, cf, cs] at t0 t1 t2 t3 t4
          have hmem : D r ∈ (List.range len).map D := List.mem_map.2 ⟨r, List.mem_range.2 hr, rfl⟩
          have hD : D r = .agg [y0.1, y1.1, y2.1, y3.1, y4.1] := by
            have := congrArg Prod.fst hx'
            simpa using this
          have hw : ∀ q, q ∈ (DataW.agg [y0.1, y1.1, y2.1, y3.1, y4.1]).weights Tryd.prog 34 → q ≤ reachBytes := fun q hq => by
            refine of_decide_eq_true (List.all_eq_true.1 hsz _ (DataW.weights_mem_each hj hd _ ?_))
            rw [hdd]
            simp only [DataW.weights, Tryd.underlying56, List.mem_cons, List.mem_append]
            refine Or.inr (Or.inl (n_weightsAll ?_ hmem))
            rw [hD]
            exact hq
          simp only [DataW.weights, Tryd.underlying34] at hw
          obtain ⟨s0, rfl, l0⟩ := n_text t0 (fun q hq => hw q (by simp [DataW.weightsEach, hq]))
          obtain ⟨s1, rfl, l1⟩ := n_text t1 (fun q hq => hw q (by simp [DataW.weightsEach, hq]))
          obtain ⟨s2, rfl, l2⟩ := n_text t2 (fun q hq => hw q (by simp [DataW.weightsEach, hq]))
          obtain ⟨fa, fn, fc, L, rfl, f1, f2, f3⟩ := n_fields t3 (fun q hq => hw q (by simp [DataW.weightsEach, hq]))
          obtain ⟨ba, bn, bc, Z, rfl, b1, b2, b3⟩ := n_body t4 (fun q hq => hw q (by simp [DataW.weightsEach, hq]))
          exact ⟨⟨s0, s1, s2, fa, fn, fc, ba, bn, bc, L, Z⟩, ⟨⟨q0, q1⟩, q2, q3, q4⟩, f1, b1, b3, ⟨f2, b2⟩, ⟨l0, l1, l2⟩, f3⟩
      obtain ⟨y, hy⟩ := Go.Deep.choose_lt each
      exact ⟨y, Or.inr ⟨g, off, rfl, hl, hm, fun t ht => hy t ht⟩⟩
end Go.Proofs.YtgjolljhjagngafDoor
