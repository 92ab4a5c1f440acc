/-
  WHAT WAS DONE: entries in a row; what is wrong with some. No claim by itself.
-/
import Derived.Test.YteohgkgahkkjlaaDoorHopn
import Derived.Test.YteohgkgahkkjlaaDoorG6
namespace Go.Proofs.YteohgkgahkkjlaaDoor
open Go.RowKit
open Go.Deep
open Go Go.Lib Go.ChangeShapes
set_option maxRecDepth 100000
/-- An entry. -/
structure Et where
  t : Int
  c : Int
  b : Int
  k : Int
  m : ByteArray
  p : ByteArray
def etn : Et := ⟨0, 0, 0, 0, .empty, .empty⟩
def Sz2 (x : Et) : Prop := x.m.size ≤ 140737488351232 ∧ x.p.size ≤ 140737488351232
def SzE (L : List Et) : Prop := ∀ t, Sz2 (L.getD t etn)
theorem sze_nil : SzE [] := fun t => by
  have e : ([] : List Et).getD t etn = etn := by simp [List.getD]
  rw [e]; exact ⟨by decide, by decide⟩
/-- A row of entries. -/
structure EtRow (w : World) (g off len cap : Nat) (L : List Et) : Prop where
  hlen : L.length = len
  hcap : len ≤ cap
  hmax : cap ≤ maxLen
  h0 : ∀ t, t < len → w.cell? ⟨g, off + t * 6, none⟩ = some (.int .i64 (L.getD t etn).t)
  h1 : ∀ t, t < len → w.cell? ⟨g, off + t * 6 + 1, none⟩ = some (.int .i64 (L.getD t etn).c)
  h2 : ∀ t, t < len → w.cell? ⟨g, off + t * 6 + 2, none⟩ = some (.int .i64 (L.getD t etn).b)
  h3 : ∀ t, t < len → w.cell? ⟨g, off + t * 6 + 3, none⟩ = some (.int .i64 (L.getD t etn).k)
  h4 : ∀ t, t < len → w.cell? ⟨g, off + t * 6 + 4, none⟩ = some (.string (L.getD t etn).m)
  h5 : ∀ t, t < len → w.cell? ⟨g, off + t * 6 + 5, none⟩ = some (.string (L.getD t etn).p)
theorem eblk_of_cell {w : World} {g a : Nat} {v : Value} (hc : w.cell? ⟨g, a, none⟩ = some v) : g < w.heap.size := by
  rcases Nat.lt_or_ge g w.heap.size with h | h
  · exact h
  · simp [World.cell?, Array.getElem?_eq_none h] at hc
theorem EtRow.below {w w' : World} {g off len cap : Nat} {L : List Et} (h : EtRow w g off len cap L) (hb : Below w.heap.size w w') : EtRow w' g off len cap L := by
  have hlt : ∀ a v, w.cell? ⟨g, a, none⟩ = some v → g < w.heap.size := fun a v hc => eblk_of_cell hc
  exact ⟨h.hlen, h.hcap, h.hmax, fun t ht => (hb.cell (p := ⟨g, off + t * 6, none⟩) (hlt _ _ (h.h0 t ht))).trans (h.h0 t ht), fun t ht => (hb.cell (p := ⟨g, off + t * 6 + 1, none⟩) (hlt _ _ (h.h1 t ht))).trans (h.h1 t ht), fun t ht => (hb.cell (p := ⟨g, off + t * 6 + 2, none⟩) (hlt _ _ (h.h2 t ht))).trans (h.h2 t ht), fun t ht => (hb.cell (p := ⟨g, off + t * 6 + 3, none⟩) (hlt _ _ (h.h3 t ht))).trans (h.h3 t ht), fun t ht => (hb.cell (p := ⟨g, off + t * 6 + 4, none⟩) (hlt _ _ (h.h4 t ht))).trans (h.h4 t ht), fun t ht => (hb.cell (p := ⟨g, off + t * 6 + 5, none⟩) (hlt _ _ (h.h5 t ht))).trans (h.h5 t ht)⟩
def EtArg (w : World) (a : Option Addr) (len cap : Nat) (L : List Et) : Prop :=
  (len = 0 ∧ L = []) ∨ ∃ g off, a = some ⟨g, off, none⟩ ∧ EtRow w g off len cap L
theorem EtArg.below {w w' : World} {a : Option Addr} {len cap : Nat} {L : List Et} (h : EtArg w a len cap L) (hb : Below w.heap.size w w') : EtArg w' a len cap L := by
  rcases h with h | ⟨g, off, rfl, h⟩
  · exact Or.inl h
  · exact Or.inr ⟨g, off, rfl, h.below hb⟩
theorem EtArg.len {w : World} {a : Option Addr} {len cap : Nat} {L : List Et} (h : EtArg w a len cap L) : L.length = len := by
  rcases h with ⟨rfl, rfl⟩ | ⟨g, off, rfl, h⟩
  · rfl
  · exact h.hlen
theorem e_weightsAll {H : Type} {P : Program} {e : TypeId} {d : DataW H} {n : Nat} (hn : n ∈ d.weights P e) : ∀ {l : List (DataW H)}, d ∈ l → n ∈ DataW.weightsAll P e l
  | [], h => by cases h
  | x :: r, h => by
    simp only [DataW.weightsAll, List.mem_append]
    rcases List.mem_cons.1 h with rfl | h
    · exact Or.inl hn
    · exact Or.inr (e_weightsAll hn h)
theorem e_add (g off q : Nat) : (⟨g, off, none⟩ : Addr).add q = ⟨g, off + q, none⟩ := by unfold Addr.add; split <;> simp_all
theorem entries_open {H : Type} {enc : TypeId × Value → H} {W : World} {ts : List TypeId} {ds : List (DataW H)} {j fuel : Nat} {d : DataW H} {p : List MemPlace} {a : Option Addr} {len cap : Nat}
    (hsz : (DataW.weightsEach Tryd.prog ts ds).all (· ≤ reachBytes) = true) (hj : ts[j]? = some 24) (hd : ds[j]? = some d)
    (hf : DataW.trod enc Tryd.prog W 0 (fun _ => true) true fuel 24 (Value.slice a len cap).cells.toList = some (d, p)) :
    ∃ L, EtArg W a len cap L ∧ SzE L := by
  rcases Go.Deep.open_slice Tryd.underlying24 hf with ⟨hcs, _⟩ | ⟨x, l, c, m, n, D, Pl, hcs, _, hl, hm, hmm, hx, hel⟩
  · simp [Value.cells] at hcs
    obtain ⟨rfl, rfl, rfl⟩ := hcs
    exact ⟨[], Or.inl ⟨rfl, rfl⟩, sze_nil⟩
  · simp [Value.cells] at hcs
    obtain ⟨rfl, rfl, rfl⟩ := hcs
    simp only [if_true] at hmm
    subst hmm
    have ce : Tryd.prog.cellsOf 23 = 6 := by kernel_rfl
    have hdd := congrArg Prod.fst hx
    simp only at hdd
    by_cases h0 : len = 0
    · exact ⟨[], Or.inl ⟨h0, rfl⟩, sze_nil⟩
    · obtain ⟨g, off, spot⟩ := x
      have hspot : spot = none := by
        obtain ⟨cs', h1, _⟩ := hel 0 (by omega)
        rw [ce] at h1
        obtain ⟨_, hlen, hcell⟩ := World.cells?_some h1
        have h2 := hcell 0 (by omega)
        have h3 : ∃ u, W.cell? ((Addr.add ⟨g, off, spot⟩ (0 * 6)).add 0) = some u := by
          match cs', hlen, h2 with
          | [v0, v1, v2, v3, v4, v5], _, h2 => exact ⟨_, h2⟩
        obtain ⟨u, h3⟩ := h3
        simpa [Addr.add] using World.cell?_spot h3
      subst hspot
      have each : ∀ r, r < len → ∃ y : Et, (W.cell? ⟨g, off + r * 6, none⟩ = some (.int .i64 y.t) ∧ W.cell? ⟨g, off + r * 6 + 1, none⟩ = some (.int .i64 y.c) ∧ W.cell? ⟨g, off + r * 6 + 2, none⟩ = some (.int .i64 y.b) ∧ W.cell? ⟨g, off + r * 6 + 3, none⟩ = some (.int .i64 y.k) ∧ W.cell? ⟨g, off + r * 6 + 4, none⟩ = some (.string y.m) ∧ W.cell? ⟨g, off + r * 6 + 5, none⟩ = some (.string y.p)) ∧ Sz2 y := by
        intro r hr
        obtain ⟨cs', h1, ht⟩ := hel r (by omega)
        rw [ce] at h1
        obtain ⟨_, hlen, hcell⟩ := World.cells?_some h1
        obtain ⟨xs, n', _, hx', hl', hlen', hff⟩ := DataW.trod_struct Tryd.underlying23 ht
        match cs', hlen, xs, hlen' with
        | [v0, v1, v2, v3, v4, v5], _, [y0, y1, y2, y3, y4, y5], _ =>
          have q0 := hcell 0 (by omega)
          have q1 := hcell 1 (by omega)
          have q2 := hcell 2 (by omega)
          have q3 := hcell 3 (by omega)
          have q4 := hcell 4 (by omega)
          have q5 := hcell 5 (by omega)
          simp only [e_add, Nat.add_zero, List.getElem?_cons_zero, List.getElem?_cons_succ] at q0 q1 q2 q3 q4 q5
          have t0 := hff 0 _ rfl
          have t1 := hff 1 _ rfl
          have t2 := hff 2 _ rfl
          have t3 := hff 3 _ rfl
          have t4 := hff 4 _ rfl
          have t5 := hff 5 _ rfl
          have c3 : Tryd.prog.cellsOf 9 = 1 := by kernel_rfl
          have c1 : Tryd.prog.cellsOf 3 = 1 := by kernel_rfl
          simp [c3, c1] at t0 t1 t2 t3 t4 t5
          have hmem : D r ∈ (List.range len).map D := List.mem_map.2 ⟨r, List.mem_range.2 hr, rfl⟩
          have hD : D r = .agg [y0.1, y1.1, y2.1, y3.1, y4.1, y5.1] := by
            have := congrArg Prod.fst hx'
            simpa using this
          have hw : ∀ q, q ∈ (DataW.agg [y0.1, y1.1, y2.1, y3.1, y4.1, y5.1]).weights Tryd.prog 23 → q ≤ reachBytes := fun q hq => by
            refine of_decide_eq_true (List.all_eq_true.1 hsz _ (DataW.weights_mem_each hj hd _ ?_))
            rw [hdd]
            simp only [DataW.weights, Tryd.underlying24, List.mem_cons, List.mem_append]
            refine Or.inr (Or.inl (e_weightsAll ?_ hmem))
            rw [hD]
            exact hq
          simp only [DataW.weights, Tryd.underlying23] at hw
          obtain ⟨k0, e0, _, _⟩ := DataW.trod_int Tryd.underlying3 t0
          obtain ⟨k1, e1, _, _⟩ := DataW.trod_int Tryd.underlying3 t1
          obtain ⟨k2, e2, _, _⟩ := DataW.trod_int Tryd.underlying3 t2
          obtain ⟨k3, e3, _, _⟩ := DataW.trod_int Tryd.underlying3 t3
          simp only [List.cons.injEq, and_true] at e0 e1 e2 e3
          subst e0 e1 e2 e3
          obtain ⟨s0, rfl, l0⟩ := h_text t4 (fun q hq => hw q (by simp [DataW.weightsEach, hq]))
          obtain ⟨s1, rfl, l1⟩ := h_text t5 (fun q hq => hw q (by simp [DataW.weightsEach, hq]))
          exact ⟨⟨k0, k1, k2, k3, s0, s1⟩, ⟨q0, q1, q2, q3, q4, q5⟩, l0, l1⟩
      obtain ⟨y, hy⟩ : ∃ y : Nat → Et, ∀ r, r < len → (W.cell? ⟨g, off + r * 6, none⟩ = some (.int .i64 (y r).t) ∧ W.cell? ⟨g, off + r * 6 + 1, none⟩ = some (.int .i64 (y r).c) ∧ W.cell? ⟨g, off + r * 6 + 2, none⟩ = some (.int .i64 (y r).b) ∧ W.cell? ⟨g, off + r * 6 + 3, none⟩ = some (.int .i64 (y r).k) ∧ W.cell? ⟨g, off + r * 6 + 4, none⟩ = some (.string (y r).m) ∧ W.cell? ⟨g, off + r * 6 + 5, none⟩ = some (.string (y r).p)) ∧ Sz2 (y r) := by
        refine ⟨fun r => if h : r < len then Classical.choose (each r h) else etn, fun r hr => ?_⟩
        simp only [dif_pos hr]
        exact Classical.choose_spec (each r hr)
      have hget : ∀ t, t < len → ((List.range len).map y).getD t etn = y t := fun t ht => by simp [List.getD, ht]
      refine ⟨(List.range len).map y, Or.inr ⟨g, off, rfl, by simp, hl, hm, fun t ht => ?_, fun t ht => ?_, fun t ht => ?_, fun t ht => ?_, fun t ht => ?_, fun t ht => ?_⟩, fun t => ?_⟩
      · rw [hget t ht]; exact (hy t ht).1.1
      · rw [hget t ht]; exact (hy t ht).1.2.1
      · rw [hget t ht]; exact (hy t ht).1.2.2.1
      · rw [hget t ht]; exact (hy t ht).1.2.2.2.1
      · rw [hget t ht]; exact (hy t ht).1.2.2.2.2.1
      · rw [hget t ht]; exact (hy t ht).1.2.2.2.2.2
      · by_cases ht : t < len
        · rw [hget t ht]; exact (hy t ht).2
        · have e : ((List.range len).map y).getD t etn = etn := by rw [List.getD, List.getElem?_eq_none (by simp; omega)]; rfl
          rw [e]; exact ⟨by decide, by decide⟩
/-- What is wrong with an entry of a row. -/
def chkT (x : Et) : Int := chkE x.t x.c x.b x.k (unums x.m) (unums x.p)
/-- What is wrong with the first one that has a fault. -/
def chkA : List Et → Int
  | [] => 0
  | x :: r => if chkT x = 0 then chkA r else chkT x
def chkL (L : List Et) : Int := if 1000 < L.length then 4 else chkA L
theorem chkA_at : ∀ (L : List Et) (k : Nat), k < L.length → (∀ t, t < k → chkT (L.getD t etn) = 0) → chkT (L.getD k etn) ≠ 0 → chkA L = chkT (L.getD k etn)
  | [], k, h, _, _ => by simp at h
  | x :: r, 0, _, _, hk => by
    have hx : chkT x ≠ 0 := hk
    show (if chkT x = 0 then chkA r else chkT x) = chkT x
    rw [if_neg hx]
  | x :: r, k + 1, h, h1, hk => by
    have hx : chkT x = 0 := h1 0 (by omega)
    show (if chkT x = 0 then chkA r else chkT x) = chkT (r.getD k etn)
    rw [if_pos hx]
    exact chkA_at r k (by simpa using h) (fun t ht => h1 (t + 1) (by omega)) hk
theorem chkA_no : ∀ (L : List Et), (∀ t, t < L.length → chkT (L.getD t etn) = 0) → chkA L = 0
  | [], _ => rfl
  | x :: r, h => by
    have hx : chkT x = 0 := h 0 (by simp)
    show (if chkT x = 0 then chkA r else chkT x) = 0
    rw [if_pos hx]
    exact chkA_no r (fun t ht => h (t + 1) (by simpa using ht))
theorem chkA_all : ∀ (L : List Et), chkA L = 0 → ∀ t, t < L.length → chkT (L.getD t etn) = 0
  | [], _, t, ht => by simp at ht
  | x :: r, h, t, ht => by
    have h' : (if chkT x = 0 then chkA r else chkT x) = 0 := h
    by_cases hx : chkT x = 0
    · rw [if_pos hx] at h'
      match t with
      | 0 => exact hx
      | t + 1 => exact chkA_all r h' t (by simpa using ht)
    · rw [if_neg hx] at h'
      exact absurd h' hx
end Go.Proofs.YteohgkgahkkjlaaDoor
