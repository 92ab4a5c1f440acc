/-
  WHAT WAS DONE: entries in a row; what is wrong with some. No claim by itself.
-/
import Derived.Test.YteohgkgahkkjlaaGreatDoorHopn
import Derived.Test.YteohgkgahkkjlaaGreatDoorG6
namespace Go.Proofs.YteohgkgahkkjlaaGreatDoor
open Go.RowKit
open Go.Deep
open Go Go.Lib Go.ChangeShapes
set_option maxRecDepth 100000
/-- An entry. -/
structure Et where
  t : Int
  c : Int
  b : Int
  k : Int
  m : ByteArray
  p : ByteArray
def etn : Et := ⟨0, 0, 0, 0, .empty, .empty⟩
def Sz2 (x : Et) : Prop := x.m.size ≤ 140737488351232 ∧ x.p.size ≤ 140737488351232
def SzE (L : List Et) : Prop := ∀ t, Sz2 (L.getD t etn)
theorem sze_nil : SzE [] := fun t => by
  have e : ([] : List Et).getD t etn = etn := by simp [List.getD]
  rw [e]; exact ⟨by decide, by decide⟩
/-- A row of entries. -/
structure EtRow (w : World) (g off len cap : Nat) (L : List Et) : Prop where
  hlen : L.length = len
  hcap : len ≤ cap
  hmax : cap ≤ maxLen
  h0 : ∀ t, t < len → w.cell? ⟨g, off + t * 6, none⟩ = some (.int .i64 (L.getD t etn).t)
  h1 : ∀ t, t < len → w.cell? ⟨g, off + t * 6 + 1, none⟩ = some (.int .i64 (L.getD t etn).c)
  h2 : ∀ t, t < len → w.cell? ⟨g, off + t * 6 + 2, none⟩ = some (.int .i64 (L.getD t etn).b)
  h3 : ∀ t, t < len → w.cell? ⟨g, off + t * 6 + 3, none⟩ = some (.int .i64 (L.getD t etn).k)
  h4 : ∀ t, t < len → w.cell? ⟨g, off + t * 6 + 4, none⟩ = some (.string (L.getD t etn).m)
  h5 : ∀ t, t < len → w.cell? ⟨g, off + t * 6 + 5, none⟩ = some (.string (L.getD t etn).p)
theorem eblk_of_cell {w : World} {g a : Nat} {v : Value} (hc : w.cell? ⟨g, a, none⟩ = some v) : g < w.heap.size := by
  rcases Nat.lt_or_ge g w.heap.size with h | h
  · exact h
  · simp [World.cell?, Array.getElem?_eq_none h] at hc
theorem EtRow.below {w w' : World} {g off len cap : Nat} {L : List Et} (h : EtRow w g off len cap L) (hb : Below w.heap.size w w') : EtRow w' g off len cap L := by
  have hlt : ∀ a v, w.cell? ⟨g, a, none⟩ = some v → g < w.heap.size := fun a v hc => eblk_of_cell hc
  exact ⟨h.hlen, h.hcap, h.hmax, fun t ht => (hb.cell (p := ⟨g, off + t * 6, none⟩) (hlt _ _ (h.h0 t ht))).trans (h.h0 t ht), fun t ht => (hb.cell (p := ⟨g, off + t * 6 + 1, none⟩) (hlt _ _ (h.h1 t ht))).trans (h.h1 t ht), fun t ht => (hb.cell (p := ⟨g, off + t * 6 + 2, none⟩) (hlt _ _ (h.h2 t ht))).trans (h.h2 t ht), fun t ht => (hb.cell (p := ⟨g, off + t * 6 + 3, none⟩) (hlt _ _ (h.h3 t ht))).trans (h.h3 t ht), fun t ht => (hb.cell (p := ⟨g, off + t * 6 + 4, none⟩) (hlt _ _ (h.h4 t ht))).trans (h.h4 t ht), fun t ht => (hb.cell (p := ⟨g, off + t * 6 + 5, none⟩) (hlt _ _ (h.h5 t ht))).trans (h.h5 t ht)⟩
def EtArg (w : World) (a : Option Addr) (len cap : Nat) (L : List Et) : Prop :=
  (len = 0 ∧ L = []) ∨ ∃ g off, a = some ⟨g, off, none⟩ ∧ EtRow w g off len cap L
theorem EtArg.below {w w' : World} {a : Option Addr} {len cap : Nat} {L : List Et} (h : EtArg w a len cap L) (hb : Below w.heap.size w w') : EtArg w' a len cap L := by
  rcases h with h | ⟨g, off, rfl, h⟩
  · exact Or.inl h
  · exact Or.inr ⟨g, off, rfl, h.below hb⟩
theorem EtArg.len {w : World} {a : Option Addr} {len cap : Nat} {L : List Et} (h : EtArg w a len cap L) : L.length = len := by
  rcases h with ⟨rfl, rfl⟩ | ⟨g, off, rfl, h⟩
  · rfl
  · exact h.hlen
theorem e_weightsAll {H : Type} {P : Program} {e : TypeId} {d : DataW H} {n : Nat} (hn : n ∈ d.weights P e) : ∀ {l : List (DataW H)}, d ∈ l → n ∈ DataW.weightsAll P e l
  | [], h => by cases h
  | x :: r, h => by
    simp only [DataW.weightsAll, List.mem_append]
    rcases List.mem_cons.1 h with rfl | h
    · exact Or.inl hn
    · exact Or.inr (e_weightsAll hn h)
theorem e_add (g off q : Nat) : (⟨g, off, none⟩ : Addr).add q = ⟨g, off + q, none⟩ := by unfold Addr.add; split <;> simp_all
theorem entries_open {H : Type} {enc : TypeId × Value → H} {W : World} {ts : List TypeId} {ds : List (DataW H)} {j fuel : Nat} {d : DataW H} {p : List MemPlace} {a : Option Addr} {len cap : Nat}
    (hsz : (DataW.weightsEach Tryz.prog ts ds).all (· ≤ reachBytes) = true) (hj : ts[j]? = some 36) (hd : ds[j]? = some d)
    (hf : DataW.trod enc Tryz.prog W 0 (fun _ => true) true fuel 36 (Value.slice a len cap).cells.toList = some (d, p)) :
    ∃ L, EtArg W a len cap L ∧ SzE L := by
  rcases Go.Deep.open_slice Tryz.underlying36 hf with ⟨hcs, _⟩ | ⟨x, l, c, m, n, D, Pl, hcs, _, hl, hm, hmm, hx, hel⟩
  · simp [Value.cells] at hcs
    obtain ⟨rfl, rfl, rfl⟩ := hcs
    exact ⟨[], Or.inl ⟨rfl, rfl⟩, sze_nil⟩
  · simp [Value.cells] at hcs
    obtain ⟨rfl, rfl, rfl⟩ := hcs
    simp only [if_true] at hmm
    subst hmm
    have ce : Tryz.prog.cellsOf 23 = 6 := by kernel_rfl
    have hdd := congrArg Prod.fst hx
    simp only at hdd
    by_cases h0 : len = 0
    · exact ⟨[], Or.inl ⟨h0, rfl⟩, sze_nil⟩
    · obtain ⟨g, off, spot⟩ := x
      have hspot : spot = none := by
        obtain ⟨cs', h1, _⟩ := hel 0 (by omega)
        rw [ce] at h1
        obtain ⟨_, hlen, hcell⟩ := World.cells?_some h1
        have h2 := hcell 0 (by omega)
        have h3 : ∃ u, W.cell? ((Addr.add ⟨g, off, spot⟩ (0 * 6)).add 0) = some u := by
          match cs', hlen, h2 with
          | [v0, v1, v2, v3, v4, v5], _, h2 => exact ⟨_, h2⟩
        obtain ⟨u, h3⟩ := h3
        simpa [Addr.add] using World.cell?_spot h3
      subst hspot
      have each : ∀ r, r < len → ∃ y : Et, (W.cell? ⟨g, off + r * 6, none⟩ = some (.int .i64 y.t) ∧ W.cell? ⟨g, off + r * 6 + 1, none⟩ = some (.int .i64 y.c) ∧ W.cell? ⟨g, off + r * 6 + 2, none⟩ = some (.int .i64 y.b) ∧ W.cell? ⟨g, off + r * 6 + 3, none⟩ = some (.int .i64 y.k) ∧ W.cell? ⟨g, off + r * 6 + 4, none⟩ = some (.string y.m) ∧ W.cell? ⟨g, off + r * 6 + 5, none⟩ = some (.string y.p)) ∧ Sz2 y := by
        intro r hr
        obtain ⟨cs', h1, ht⟩ := hel r (by omega)
        rw [ce] at h1
        obtain ⟨_, hlen, hcell⟩ := World.cells?_some h1
        obtain ⟨xs, n', _, hx', hl', hlen', hff⟩ := DataW.trod_struct Tryz.underlying23 ht
        match cs', hlen, xs, hlen' with
        | [v0, v1, v2, v3, v4, v5], _, [y0, y1, y2, y3, y4, y5], _ =>
          have q0 := hcell 0 (by omega)
          have q1 := hcell 1 (by omega)
          have q2 := hcell 2 (by omega)
          have q3 := hcell 3 (by omega)
          have q4 := hcell 4 (by omega)
          have q5 := hcell 5 (by omega)
          simp only [e_add, Nat.add_zero, List.getElem?_cons_zero, List.getElem?_cons_succ] at q0 q1 q2 q3 q4 q5
          have t0 := hff 0 _ rfl
          have t1 := hff 1 _ rfl
          have t2 := hff 2 _ rfl
          have t3 := hff 3 _ rfl
          have t4 := hff 4 _ rfl
          have t5 := hff 5 _ rfl
          have c3 : Tryz.prog.cellsOf 9 = 1 := by kernel_rfl
          have c1 : Tryz.prog.cellsOf 3 = 1 := by kernel_rfl
          simp [c3, c1] at t0 t1 t2 t3 t4 t5
          have hmem : D r ∈ (List.range len).map D := List.mem_map.2 ⟨r, List.mem_range.2 hr, rfl⟩
          have hD : D r = .agg [y0.1, y1.1, y2.1, y3.1, y4.1, y5.1] := by
            have := congrArg Prod.fst hx'
            simpa using this
          have hw : ∀ q, q ∈ (DataW.agg [y0.1, y1.1, y2.1, y3.1, y4.1, y5.1]).weights Tryz.prog 23 → q ≤ reachBytes := fun q hq => by
            refine of_decide_eq_true (List.all_eq_true.1 hsz _ (DataW.weights_mem_each hj hd _ ?_))
            rw [hdd]
            simp only [DataW.weights, Tryz.underlying36, List.mem_cons, List.mem_append]
            refine Or.inr (Or.inl (e_weightsAll ?_ hmem))
            rw [hD]
            exact hq
          simp only [DataW.weights, Tryz.underlying23] at hw
          obtain ⟨k0, e0, _, _⟩ := DataW.trod_int Tryz.underlying3 t0
          obtain ⟨k1, e1, _, _⟩ := DataW.trod_int Tryz.underlying3 t1
          obtain ⟨k2, e2, _, _⟩ := DataW.trod_int Tryz.underlying3 t2
          obtain ⟨k3, e3, _, _⟩ := DataW.trod_int Tryz.underlying3 t3
          simp only [List.cons.injEq, and_true] at e0 e1 e2 e3
          subst e0 e1 e2 e3
          obtain ⟨s0, rfl, l0⟩ := h_text t4 (fun q hq => hw q (by simp [DataW.weightsEach, hq]))
          obtain ⟨s1, rfl, l1⟩ := h_text t5 (fun q hq => hw q (by simp [DataW.weightsEach, hq]))
          exact ⟨⟨k0, k1, k2, k3, s0, s1⟩, ⟨q0, q1, q2, q3, q4, q5⟩, l0, l1⟩
      obtain ⟨y, hy⟩ : ∃ y : Nat → Et, ∀ r, r < len → (W.cell? ⟨g, off + r * 6, none⟩ = some (.int .i64 (y r).t) ∧ W.cell? ⟨g, off + r * 6 + 1, none⟩ = some (.int .i64 (y r).c) ∧ W.cell? ⟨g, off + r * 6 + 2, none⟩ = some (.int .i64 (y r).b) ∧ W.cell? ⟨g, off + r * 6 + 3, none⟩ = some (.int .i64 (y r).k) ∧ W.cell? ⟨g, off + r * 6 + 4, none⟩ = some (.string (y r).m) ∧ W.cell? ⟨g, off + r * 6 + 5, none⟩ = some (.string (y r).p)) ∧ Sz2 (y r) := by
        refine ⟨fun r => if h : r < len then Classical.choose (each r h) else etn, fun r hr => ?_⟩
        simp only [dif_pos hr]
        exact Classical.choose_spec (each r hr)
      have hget : ∀ t, t < len → ((List.range len).map y).getD t etn = y t := fun t ht => by simp [List.getD, ht]
      refine ⟨(List.range len).map y, Or.inr ⟨g, off, rfl, by simp, hl, hm, fun t ht => ?_, fun t ht => ?_, fun t ht => ?_, fun t ht => ?_, fun t ht => ?_, fun t ht => ?_⟩, fun t => ?_⟩
      · rw [hget t ht]; exact (hy t ht).1.1
      · rw [hget t ht]; exact (hy t ht).1.2.1
      · rw [hget t ht]; exact (hy t ht).1.2.2.1
      · rw [hget t ht]; exact (hy t ht).1.2.2.2.1
      · rw [hget t ht]; exact (hy t ht).1.2.2.2.2.1
      · rw [hget t ht]; exact (hy t ht).1.2.2.2.2.2
      · by_cases ht : t < len
        · rw [hget t ht]; exact (hy t ht).2
        · have e : ((List.range len).map y).getD t etn = etn := by rw [List.getD, List.getElem?_eq_none (by simp; omega)]; rfl
          rw [e]; exact ⟨by decide, by decide⟩
/-- What is wrong with an entry of a row. -/
def chkT (x : Et) : Int := chkE x.t x.c x.b x.k (unums x.m) (unums x.p)
/-- What is wrong with the first one that has a fault. -/
def chkA : List Et → Int
  | [] => 0
  | x :: r => if chkT x = 0 then chkA r else chkT x
def chkL (L : List Et) : Int := if 1000 < L.length then 4 else chkA L
theorem chkA_at : ∀ (L : List Et) (k : Nat), k < L.length → (∀ t, t < k → chkT (L.getD t etn) = 0) → chkT (L.getD k etn) ≠ 0 → chkA L = chkT (L.getD k etn)
  | [], k, h, _, _ => by simp at h
  | x :: r, 0, _, _, hk => by
    have hx : chkT x ≠ 0 := hk
    show (if chkT x = 0 then chkA r else chkT x) = chkT x
    rw [if_neg hx]
  | x :: r, k + 1, h, h1, hk => by
    have hx : chkT x = 0 := h1 0 (by omega)
    show (if chkT x = 0 then chkA r else chkT x) = chkT (r.getD k etn)
    rw [if_pos hx]
    exact chkA_at r k (by simpa using h) (fun t ht => h1 (t + 1) (by omega)) hk
theorem chkA_no : ∀ (L : List Et), (∀ t, t < L.length → chkT (L.getD t etn) = 0) → chkA L = 0
  | [], _ => rfl
  | x :: r, h => by
    have hx : chkT x = 0 := h 0 (by simp)
    show (if chkT x = 0 then chkA r else chkT x) = 0
    rw [if_pos hx]
    exact chkA_no r (fun t ht => h (t + 1) (by simpa using ht))
theorem chkA_all : ∀ (L : List Et), chkA L = 0 → ∀ t, t < L.length → chkT (L.getD t etn) = 0
  | [], _, t, ht => by simp at ht
  | x :: r, h, t, ht => by
    have h' : (if chkT x = 0 then chkA r else chkT x) = 0 := h
    by_cases hx : chkT x = 0
    · rw [if_pos hx] at h'
      match t with
      | 0 => exact hx
      | t + 1 => exact chkA_all r h' t (by simpa using ht)
    · rw [if_neg hx] at h'
      exact absurd h' hx
end Go.Proofs.YteohgkgahkkjlaaGreatDoor
/-
  WHAT WAS DONE: checkAll, walked. No claim by itself.
-/
namespace Go.Proofs.YteohgkgahkkjlaaGreatDoor
open Go Go.RowKit
set_option maxRecDepth 100000
theorem gerr_zero : errW 0 = .nilIface := if_pos rfl
set_option maxHeartbeats 4000000 in
theorem gchka_row (g off len cap : Nat) (L : List Et) (w : World) (hr : EtRow w g off len cap L) (hs : SzE L) :
    Calls Tryz.prog 27 #[.slice (some ⟨g, off, none⟩) len cap] w fun e w' => e = .returned (errW (chkL L)) ∧ Below w.heap.size w w' := by
  have HR := vl hr
  have HS := vl hs
  have HL := vl hr.hlen
  have hcap := hr.hcap
  have hmax := hr.hmax
  unfold maxLen at hmax
  clear hr hs
  by_cases hbig : 1000 < len
  · have hbig' : (1000 : Int) < (len : Int) := by omega
    have HQ : Vl (Ending.returned (Value.iface 52 (.int .i64 4)) = .returned (errW (chkL L))) := vl (by unfold chkL; rw [if_pos (by rw [HL.out]; exact hbig), gerr_pos (by decide)])
    go_enter Tryz.func27, Tryz.ntmps27
    go_wp2_with fail
    go_ret
    exact ⟨HQ.out, Below.refl _ _⟩
  · have hbig' : ¬ ((1000 : Int) < (len : Int)) := by omega
    have HC : Vl (chkL L = chkA L) := vl (by unfold chkL; rw [if_neg (by rw [HL.out]; exact hbig)])
    rw [HC.out]
    clear HC
    go_enter Tryz.func27, Tryz.ntmps27
    go_wp2_with fail
    go_loopw [12] (fun i wr => ∃ k : Nat, i = .int .i64 k ∧ k ≤ len ∧ Vl (∀ t, t < k → chkT (L.getD t etn) = 0) ∧ Vl (Below w.heap.size w wr)) (fun i _ => len - (intOf i).toNat)
    case atStart => exact ⟨0, rfl, by omega, vl (fun t ht => by omega), vl (Below.refl _ _)⟩
    case round =>
      obtain ⟨k, rfl, hk, HK, HB⟩ := hrel
      by_cases hlt : k < len
      · have hlt' : (k : Int) < (len : Int) := by omega
        have hr2 := HR.out.below HB.out
        have c0 := hr2.h0 k hlt
        have c1 := hr2.h1 k hlt
        have c2 := hr2.h2 k hlt
        have c3 := hr2.h3 k hlt
        have c4 := hr2.h4 k hlt
        have c5 := hr2.h5 k hlt
        have hz := HS.out k
        have HAT := vl (chkA_at L k (by rw [HL.out]; exact hlt) HK.out)
        have HK2 : Vl (chkT (L.getD k etn) = 0 → ∀ t, t < k + 1 → chkT (L.getD t etn) = 0) := vl (fun h t ht => by
          by_cases e : t = k
          · rw [e]; exact h
          · exact HK.out t (by omega))
        clear hr2
        generalize L.getD k etn = f at *
        obtain ⟨t, c, b, q, m, p⟩ := f
        simp only at c0 c1 c2 c3 c4 c5
        have HZ3 : Vl (EnB (wr.alloc (.cells #[.int .i64 0, .int .i64 0, .int .i64 0, .int .i64 0, .string ⟨#[]⟩, .string ⟨#[]⟩] 23)) wr.heap.size 0 0 0 0 ⟨#[]⟩ ⟨#[]⟩) := vl (heap_alloc_new wr _)
        go_wp2_with (refine wpList_enstore _ rfl _ _ rfl wr.heap.size _ _ _ _ t c b q _ _ m p rfl rfl HZ3.out ?_)
        intro w3 hR3 hg3
        have HB3 : Vl (Below w.heap.size w w3) := vl (gbelow_grown (HB.out.alloc HB.out.size _) hg3 (Nat.le_trans HB.out.size (by simp)) (fun k hk => by cases hk; exact HB.out.size))
        obtain ⟨d0, d1, d2, d3, d4, d5⟩ := hR3.cells
        have HCK := vl (gchk_any t c b q m p w3 hz.1 hz.2)
        unfold entV at HCK
        clear hR3 hg3 HZ3 c0 c1 c2 c3 c4 c5 hz
        go_wp2_with fail
        refine HCK.out.mono ?_
        rintro _ w4 ⟨rfl, hb4⟩
        have HB4 := vl (HB3.out.trans (hb4.mono HB3.out.size))
        clear hb4 d0 d1 d2 d3 d4 d5 HCK HB3
        by_cases h0 : chkE t c b q (unums m) (unums p) = 0
        · have HK3 := vl (HK2.out h0)
          rw [h0, gerr_zero]
          go_wp2_with fail
          go_roundw
          case rel => exact ⟨k + 1, by go_num, by omega, HK3, HB4⟩
          case measure => simp [intOf]; omega
        · have HQ := vl (HAT.out h0)
          have hq : chkA L = chkE t c b q (unums m) (unums p) := HQ.out
          have HFIN : Vl (Ending.returned (Value.iface 52 (.int .i64 (chkE t c b q (unums m) (unums p)))) = .returned (errW (chkA L))) := vl (by rw [hq, gerr_pos h0])
          rw [gerr_pos h0]
          clear HAT HK2 HQ hq h0
          generalize chkE t c b q (unums m) (unums p) = E at *
          go_wp2_with fail
          go_ret
          exact ⟨HFIN.out, HB4.out⟩
      · have hlt' : ¬ (k : Int) < (len : Int) := by omega
        have HQ := vl (chkA_no L (fun t ht => HK.out t (by rw [HL.out] at ht; omega)))
        have HFIN : Vl (Ending.returned Value.nilIface = .returned (errW (chkA L))) := vl (by rw [HQ.out, gerr_zero])
        clear HQ
        go_wp2_with fail
        go_ret
        exact ⟨HFIN.out, HB.out⟩
theorem gchka_any (a : Option Addr) (len cap : Nat) (L : List Et) (w : World) (hA : EtArg w a len cap L) (hs : SzE L) :
    Calls Tryz.prog 27 #[.slice a len cap] w fun e w' => e = .returned (errW (chkL L)) ∧ Below w.heap.size w w' := by
  rcases hA with ⟨rfl, rfl⟩ | ⟨g, off, rfl, hr⟩
  · have e : chkL [] = 0 := rfl
    rw [e, gerr_zero]
    go_enter Tryz.func27, Tryz.ntmps27
    go_wp2_with fail
    refine wp_loop_rounds 1 ?_
    rw [rounds_succ]
    go_wp2_with fail
    go_ret
    exact ⟨rfl, Below.refl _ _⟩
  · exact gchka_row g off len cap L w hr hs
end Go.Proofs.YteohgkgahkkjlaaGreatDoor
/-
  WHAT WAS DONE: sums of entries, and their closure. No claim by itself.
-/
namespace Go.Proofs.YteohgkgahkkjlaaGreatDoor
open Go Go.RowKit
set_option maxRecDepth 100000
def sumF (f : Et → Int) : List Et → Int
  | [] => 0
  | x :: r => f x + sumF f r
theorem sumF_app (f : Et → Int) : ∀ (L : List Et) (x : Et), sumF f (L ++ [x]) = sumF f L + f x
  | [], x => by simp [sumF]
  | y :: r, x => by
    show f y + sumF f (r ++ [x]) = f y + sumF f r + f x
    rw [sumF_app f r x]
    omega
theorem etake_more {L : List Et} {k : Nat} (h : k < L.length) : L.take (k + 1) = L.take k ++ [L.getD k etn] := by
  rw [List.take_add_one, List.getD, List.getElem?_eq_getElem h]
  rfl
theorem sumF_more (f : Et → Int) {L : List Et} {k : Nat} (h : k < L.length) : sumF f (L.take (k + 1)) = sumF f (L.take k) + f (L.getD k etn) := by rw [etake_more h, sumF_app]
theorem sumF_add {f g h : Et → Int} (e : ∀ x, f x + g x = h x) : ∀ L, sumF f L + sumF g L = sumF h L
  | [] => by simp [sumF]
  | x :: r => by
    have h1 := e x
    have h2 := sumF_add e r
    show f x + sumF f r + (g x + sumF g r) = h x + sumF h r
    omega
def inS (a b : Int) (x : Et) : Bool := decide (a ≤ x.t) && decide (x.t < b)
def fN (a b : Int) (x : Et) : Int := if inS a b x = true then 1 else 0
def fB (a b : Int) (x : Et) : Int := if inS a b x = true then x.b else 0
def fX (a b : Int) (x : Et) : Int := if inS a b x = true then (if 500 ≤ x.c then 1 else 0) else 0
theorem ins_add {a b c : Int} (h1 : a ≤ b) (h2 : b ≤ c) (x : Et) : (inS a b x = true ∧ inS b c x = false ∧ inS a c x = true) ∨ (inS a b x = false ∧ inS b c x = true ∧ inS a c x = true) ∨ (inS a b x = false ∧ inS b c x = false ∧ inS a c x = false) := by
  unfold inS
  simp only [Bool.and_eq_true, Bool.and_eq_false_iff, decide_eq_true_eq, decide_eq_false_iff_not]
  omega
theorem fN_add {a b c : Int} (h1 : a ≤ b) (h2 : b ≤ c) (x : Et) : fN a b x + fN b c x = fN a c x := by
  unfold fN
  rcases ins_add h1 h2 x with ⟨e1, e2, e3⟩ | ⟨e1, e2, e3⟩ | ⟨e1, e2, e3⟩ <;> rw [e1, e2, e3] <;> simp
theorem fB_add {a b c : Int} (h1 : a ≤ b) (h2 : b ≤ c) (x : Et) : fB a b x + fB b c x = fB a c x := by
  unfold fB
  rcases ins_add h1 h2 x with ⟨e1, e2, e3⟩ | ⟨e1, e2, e3⟩ | ⟨e1, e2, e3⟩ <;> rw [e1, e2, e3] <;> simp
theorem fX_add {a b c : Int} (h1 : a ≤ b) (h2 : b ≤ c) (x : Et) : fX a b x + fX b c x = fX a c x := by
  unfold fX
  rcases ins_add h1 h2 x with ⟨e1, e2, e3⟩ | ⟨e1, e2, e3⟩ | ⟨e1, e2, e3⟩ <;> rw [e1, e2, e3] <;> simp
/-- What Sum answers. -/
def SumP (L : List Et) (a b : Int) (e : Ending) : Prop :=
  (chkL L = 0 ∧ e = .returned (.tuple #[.int .i64 (sumF (fN a b) L), .int .i64 (sumF (fB a b) L), .int .i64 (sumF (fX a b) L), .nilIface]))
  ∨ (chkL L ≠ 0 ∧ e = .returned (.tuple #[.int .i64 0, .int .i64 0, .int .i64 0, errW (chkL L)]))
theorem chkL_ok {L : List Et} (h : chkL L = 0) : L.length ≤ 1000 ∧ ∀ t, t < L.length → chkT (L.getD t etn) = 0 := by
  unfold chkL at h
  by_cases hl : 1000 < L.length
  · rw [if_pos hl] at h
    omega
  · rw [if_neg hl] at h
    exact ⟨by omega, chkA_all L h⟩
theorem gsum1_any (t c b k : Int) (m p : ByteArray) (x y : Int) (gx gy : Nat) (w : World) (hx : w.cell? ⟨gx, 0, none⟩ = some (.int .i64 x)) (hy : w.cell? ⟨gy, 0, none⟩ = some (.int .i64 y)) :
    Calls Tryz.prog 28 #[entV t c b k m p, .pointer (some ⟨gx, 0, none⟩), .pointer (some ⟨gy, 0, none⟩)] w fun e w' => e = .returned (.bool (decide (x ≤ t) && decide (t < y))) ∧ Below w.heap.size w w' := by
  unfold entV
  obtain ⟨W1, hW1⟩ : ∃ W1, W1 = w.alloc (.cells #[.int .i64 t, .int .i64 c, .int .i64 b, .int .i64 k, .string m, .string p] 23) := ⟨_, rfl⟩
  have HB1 : Vl (Below w.heap.size w W1) := by rw [hW1]; exact (Below.refl _ w).alloc (Nat.le_refl _) _
  have HX1 : Vl (EnB W1 w.heap.size t c b k m p) := by rw [hW1]; exact heap_alloc_new w _
  obtain ⟨d0, _, _, _, _, _⟩ := HX1.out.cells
  have hx1 : W1.cell? ⟨gx, 0, none⟩ = some (.int .i64 x) := (HB1.out.cell (p := ⟨gx, 0, none⟩) (eblk_of_cell hx)).trans hx
  have hy1 : W1.cell? ⟨gy, 0, none⟩ = some (.int .i64 y) := (HB1.out.cell (p := ⟨gy, 0, none⟩) (eblk_of_cell hy)).trans hy
  clear hx hy
  by_cases h1 : x ≤ t
  · by_cases h2 : t < y
    · rw [decide_eq_true h1, decide_eq_true h2]
      go_enter Tryz.func28, Tryz.ntmps28
      go_upto_region 1 with fail
      rw [← hW1]
      clear hW1
      go_wp2_with fail
      go_ret
      exact ⟨rfl, HB1.out⟩
    · rw [decide_eq_true h1, decide_eq_false h2]
      go_enter Tryz.func28, Tryz.ntmps28
      go_upto_region 1 with fail
      rw [← hW1]
      clear hW1
      go_wp2_with fail
      go_ret
      exact ⟨rfl, HB1.out⟩
  · rw [decide_eq_false h1]
    go_enter Tryz.func28, Tryz.ntmps28
    go_upto_region 1 with fail
    rw [← hW1]
    clear hW1
    go_wp2_with fail
    go_ret
    exact ⟨rfl, HB1.out⟩
end Go.Proofs.YteohgkgahkkjlaaGreatDoor
/-
  WHAT WAS DONE: Sum, walked. No claim by itself.
-/
namespace Go.Proofs.YteohgkgahkkjlaaGreatDoor
open Go Go.RowKit
set_option maxRecDepth 100000
/-- How far it has summed. -/
def SmI (L : List Et) (a b : Int) (k : Nat) (N B X : Int) : Prop := N = sumF (fN a b) (L.take k) ∧ B = sumF (fB a b) (L.take k) ∧ X = sumF (fX a b) (L.take k)
theorem smi_zero (L : List Et) (a b : Int) : SmI L a b 0 0 0 0 := ⟨rfl, rfl, rfl⟩
theorem smi_out {L : List Et} {a b : Int} {k : Nat} {N B X : Int} (h : SmI L a b k N B X) (hk : k < L.length) (hi : inS a b (L.getD k etn) = false) : SmI L a b (k + 1) N B X := by
  obtain ⟨h1, h2, h3⟩ := h
  refine ⟨?_, ?_, ?_⟩ <;> rw [sumF_more _ hk]
  · unfold fN; rw [hi]; simp; exact h1
  · unfold fB; rw [hi]; simp; exact h2
  · unfold fX; rw [hi]; simp; exact h3
theorem smi_in {L : List Et} {a b : Int} {k : Nat} {N B X : Int} (h : SmI L a b k N B X) (hk : k < L.length) (hi : inS a b (L.getD k etn) = true) : SmI L a b (k + 1) (N + 1) (B + (L.getD k etn).b) (X + if 500 ≤ (L.getD k etn).c then 1 else 0) := by
  obtain ⟨h1, h2, h3⟩ := h
  refine ⟨?_, ?_, ?_⟩ <;> rw [sumF_more _ hk]
  · rw [← h1]; unfold fN; rw [hi]; simp
  · rw [← h2]; unfold fB; rw [hi]; simp
  · rw [← h3]; unfold fX; rw [hi]; simp
set_option maxHeartbeats 8000000 in
theorem gsum_row (g off len cap : Nat) (L : List Et) (a b : Int) (w : World) (hr : EtRow w g off len cap L) (hs : SzE L) :
    Calls Tryz.prog 12 #[.slice (some ⟨g, off, none⟩) len cap, .int .i64 a, .int .i64 b] w fun e w' => SumP L a b e ∧ Below w.heap.size w w' := by
  obtain ⟨W1, hW1⟩ : ∃ W1, W1 = (w.alloc (.cells #[.int .i64 a] 3)).alloc (.cells #[.int .i64 b] 3) := ⟨_, rfl⟩
  have HB1 : Vl (Below w.heap.size w W1) := by rw [hW1]; exact ((Below.refl _ w).alloc (Nat.le_refl _) _).alloc (by simp) _
  have ca : W1.cell? ⟨w.heap.size, 0, none⟩ = some (.int .i64 a) := by
    rw [hW1]
    simp only [World.cell?]
    rw [heap_alloc_old _ _ (by simp), heap_alloc_new]
    rfl
  have cb : W1.cell? ⟨w.heap.size + 1, 0, none⟩ = some (.int .i64 b) := by
    have h := heap_alloc_new (w.alloc (.cells #[.int .i64 a] 3)) (.cells #[.int .i64 b] 3)
    rw [World.size_alloc] at h
    rw [hW1]
    simp only [World.cell?, h]
    rfl
  have HR := vl hr
  have HS := vl hs
  have HL := vl hr.hlen
  have hcap := hr.hcap
  have hmax := hr.hmax
  unfold maxLen at hmax
  have HCA := vl ca
  have HCB := vl cb
  have HC := vl (gchka_any (some ⟨g, off, none⟩) len cap L W1 (Or.inr ⟨g, off, rfl, hr.below HB1.out⟩) hs)
  clear hr hs ca cb
  by_cases h0 : chkL L = 0
  · have hok := chkL_ok h0
    have hlen : len ≤ 1000 := by rw [HL.out] at hok; exact hok.1
    have HOK := vl hok.2
    rw [h0, gerr_zero] at HC
    have HFIN : Vl (∀ N B X, SmI L a b len N B X → SumP L a b (.returned (.tuple #[.int .i64 N, .int .i64 B, .int .i64 X, .nilIface]))) := vl (fun N B X h => Or.inl ⟨h0, by
      obtain ⟨h1, h2, h3⟩ := h
      rw [List.take_of_length_le (by rw [HL.out]; exact Nat.le_refl _)] at h1 h2 h3
      rw [h1, h2, h3]⟩)
    clear hok h0
    go_enter Tryz.func12, Tryz.ntmps12
    go_wp2_with fail
    rw [← hW1]
    clear hW1
    refine HC.out.mono ?_
    rintro _ w2 ⟨rfl, hb2⟩
    have HB2 := vl (HB1.out.trans (hb2.mono HB1.out.size))
    have HCA2 : Vl (w2.cell? ⟨w.heap.size, 0, none⟩ = some (.int .i64 a)) := vl ((hb2.cell (p := ⟨w.heap.size, 0, none⟩) (eblk_of_cell HCA.out)).trans HCA.out)
    have HCB2 : Vl (w2.cell? ⟨w.heap.size + 1, 0, none⟩ = some (.int .i64 b)) := vl ((hb2.cell (p := ⟨w.heap.size + 1, 0, none⟩) (eblk_of_cell HCB.out)).trans HCB.out)
    clear hb2 HC HB1 HCA HCB
    go_wp2_with fail
    go_loopw [6, 7, 8, 21] (fun n y x i wr => ∃ (k : Nat) (N B X : Int), n = .int .i64 N ∧ y = .int .i64 B ∧ x = .int .i64 X ∧ i = .int .i64 k ∧ k ≤ len ∧ (0 ≤ N ∧ N ≤ 1000000000) ∧ (0 ≤ B ∧ B ≤ 1000000 * (k : Int)) ∧ (0 ≤ X ∧ X ≤ 1000000000) ∧ Vl (N ≤ (k : Int) ∧ X ≤ (k : Int)) ∧ Vl (SmI L a b k N B X) ∧ Vl (wr.cell? ⟨w.heap.size, 0, none⟩ = some (.int .i64 a)) ∧ Vl (wr.cell? ⟨w.heap.size + 1, 0, none⟩ = some (.int .i64 b)) ∧ Vl (Below w.heap.size w wr)) (fun _ _ _ i _ => len - (intOf i).toNat)
    case atStart => exact ⟨0, 0, 0, 0, rfl, rfl, rfl, rfl, by omega, ⟨by omega, by omega⟩, ⟨by omega, by omega⟩, ⟨by omega, by omega⟩, vl ⟨by omega, by omega⟩, vl (smi_zero L a b), HCA2, HCB2, HB2⟩
    case round =>
      obtain ⟨k, N, B, X, rfl, rfl, rfl, rfl, hk, ⟨n1, n2⟩, ⟨b1, b2⟩, ⟨x1, x2⟩, HNX, HI, HXA, HXB, HB⟩ := hrel
      by_cases hlt : k < len
      · have hlt' : (k : Int) < (len : Int) := by omega
        have hr2 := HR.out.below HB.out
        have c0 := hr2.h0 k hlt
        have c1 := hr2.h1 k hlt
        have c2 := hr2.h2 k hlt
        have c3 := hr2.h3 k hlt
        have c4 := hr2.h4 k hlt
        have c5 := hr2.h5 k hlt
        have hck := HOK.out k (by rw [HL.out]; exact hlt)
        have HO := vl (smi_out HI.out (by rw [HL.out]; exact hlt))
        have HN := vl (smi_in HI.out (by rw [HL.out]; exact hlt))
        clear hr2
        generalize L.getD k etn = f at *
        obtain ⟨t, c, y, q, m, p⟩ := f
        simp only at c0 c1 c2 c3 c4 c5
        have hcb : 0 ≤ y ∧ y ≤ 1000000 := (chkE_ok hck).2.2.1
        have HZ3 : Vl (EnB (wr.alloc (.cells #[.int .i64 0, .int .i64 0, .int .i64 0, .int .i64 0, .string ⟨#[]⟩, .string ⟨#[]⟩] 23)) wr.heap.size 0 0 0 0 ⟨#[]⟩ ⟨#[]⟩) := vl (heap_alloc_new wr _)
        clear hck
        go_wp2_with (refine wpList_enstore _ rfl _ _ rfl wr.heap.size _ _ _ _ t c y q _ _ m p rfl rfl HZ3.out ?_)
        intro w3 hR3 hg3
        have hbb : Below wr.heap.size wr w3 := gbelow_grown ((Below.refl _ wr).alloc (Nat.le_refl _) _) hg3 (by simp) (fun k hk => by cases hk; exact Nat.le_refl _)
        have HB3 : Vl (Below w.heap.size w w3) := vl (HB.out.trans (hbb.mono HB.out.size))
        have HXA3 : Vl (w3.cell? ⟨w.heap.size, 0, none⟩ = some (.int .i64 a)) := vl ((hbb.cell (p := ⟨w.heap.size, 0, none⟩) (eblk_of_cell HXA.out)).trans HXA.out)
        have HXB3 : Vl (w3.cell? ⟨w.heap.size + 1, 0, none⟩ = some (.int .i64 b)) := vl ((hbb.cell (p := ⟨w.heap.size + 1, 0, none⟩) (eblk_of_cell HXB.out)).trans HXB.out)
        have HX3 := vl hR3
        obtain ⟨d0, d1, d2, d3, d4, d5⟩ := hR3.cells
        have HCK := vl (gsum1_any t c y q m p a b w.heap.size (w.heap.size + 1) w3 HXA3.out HXB3.out)
        unfold entV at HCK
        clear hR3 hg3 hbb HZ3 c0 c1 c2 c3 c4 c5 HXA HXB HB
        go_wp2_with fail
        refine HCK.out.mono ?_
        rintro _ w4 ⟨rfl, hb4⟩
        have HB4 := vl (HB3.out.trans (hb4.mono HB3.out.size))
        have HXA4 : Vl (w4.cell? ⟨w.heap.size, 0, none⟩ = some (.int .i64 a)) := vl ((hb4.cell (p := ⟨w.heap.size, 0, none⟩) (eblk_of_cell HXA3.out)).trans HXA3.out)
        have HXB4 : Vl (w4.cell? ⟨w.heap.size + 1, 0, none⟩ = some (.int .i64 b)) := vl ((hb4.cell (p := ⟨w.heap.size + 1, 0, none⟩) (eblk_of_cell HXB3.out)).trans HXB3.out)
        have HX4 := vl (HX3.out.on hb4)
        clear hb4 d0 d1 d2 d3 d4 d5 HCK HB3 HX3 HXA3 HXB3
        obtain ⟨d0, d1, d2, d3, d4, d5⟩ := HX4.out.cells
        cases hin : (decide (a ≤ t) && decide (t < b))
        · have HI2 := vl (HO.out hin)
          clear HO HN hin
          go_wp2_with fail
          go_roundw
          case rel => exact ⟨k + 1, N, B, X, rfl, rfl, rfl, by go_num, by omega, ⟨by omega, by omega⟩, ⟨by omega, by omega⟩, ⟨by omega, by omega⟩, vl ⟨by have := HNX.out.1; omega, by have := HNX.out.2; omega⟩, HI2, HXA4, HXB4, HB4⟩
          case measure => simp [intOf]; omega
        · have HI2 := vl (HN.out hin)
          clear HO HN hin
          by_cases hc : 500 ≤ c
          · have HI3 := HI2.out
            simp only [if_pos hc] at HI3
            have HI4 := vl HI3
            clear HI2 HI3
            go_wp2_with fail
            go_roundw
            case rel => exact ⟨k + 1, N + 1, B + y, X + 1, by go_num, by go_num, by go_num, by go_num, by omega, ⟨by omega, by have := HNX.out.1; omega⟩, ⟨by omega, by omega⟩, ⟨by omega, by have := HNX.out.2; omega⟩, vl ⟨by have := HNX.out.1; omega, by have := HNX.out.2; omega⟩, HI4, HXA4, HXB4, HB4⟩
            case measure => simp [intOf]; omega
          · have HI3 := HI2.out
            simp only [if_neg hc, Int.add_zero] at HI3
            have HI4 := vl HI3
            clear HI2 HI3
            go_wp2_with fail
            go_roundw
            case rel => exact ⟨k + 1, N + 1, B + y, X, by go_num, by go_num, rfl, by go_num, by omega, ⟨by omega, by have := HNX.out.1; omega⟩, ⟨by omega, by omega⟩, ⟨by omega, by have := HNX.out.2; omega⟩, vl ⟨by have := HNX.out.1; omega, by have := HNX.out.2; omega⟩, HI4, HXA4, HXB4, HB4⟩
            case measure => simp [intOf]; omega
      · have hlt' : ¬ (k : Int) < (len : Int) := by omega
        obtain rfl : k = len := by omega
        have HQ := vl (HFIN.out N B X HI.out)
        go_wp2_with fail
        refine bodyPost_ret (v := .tuple #[.int .i64 N, .int .i64 B, .int .i64 X, .nilIface]) (by simp [results, Tryz.results12, go_sem]; try rfl) rfl ?_
        exact ⟨HQ.out, HB.out⟩
  · have HFIN : Vl (SumP L a b (.returned (.tuple #[.int .i64 0, .int .i64 0, .int .i64 0, .iface 52 (.int .i64 (chkL L))]))) := vl (Or.inr ⟨h0, by rw [gerr_pos h0]⟩)
    rw [gerr_pos h0] at HC
    generalize chkL L = E at *
    go_enter Tryz.func12, Tryz.ntmps12
    go_wp2_with fail
    rw [← hW1]
    clear hW1
    refine HC.out.mono ?_
    rintro _ w2 ⟨rfl, hb2⟩
    have HB2 := vl (HB1.out.trans (hb2.mono HB1.out.size))
    clear hb2 HC HB1 HCA HCB
    go_wp2_with fail
    refine bodyPost_ret (v := .tuple #[.int .i64 0, .int .i64 0, .int .i64 0, .iface 52 (.int .i64 E)]) (by simp [results, Tryz.results12, go_sem]; try rfl) rfl ?_
    exact ⟨HFIN.out, HB2.out⟩
theorem gsum_any (x : Option Addr) (len cap : Nat) (L : List Et) (a b : Int) (w : World) (hA : EtArg w x len cap L) (hs : SzE L) :
    Calls Tryz.prog 12 #[.slice x len cap, .int .i64 a, .int .i64 b] w fun e w' => SumP L a b e ∧ Below w.heap.size w w' := by
  rcases hA with ⟨rfl, rfl⟩ | ⟨g, off, rfl, hr⟩
  · obtain ⟨W1, hW1⟩ : ∃ W1, W1 = (w.alloc (.cells #[.int .i64 a] 3)).alloc (.cells #[.int .i64 b] 3) := ⟨_, rfl⟩
    have HB1 : Vl (Below w.heap.size w W1) := by rw [hW1]; exact ((Below.refl _ w).alloc (Nat.le_refl _) _).alloc (by simp) _
    have HC := vl (gchka_any x 0 cap [] W1 (Or.inl ⟨rfl, rfl⟩) hs)
    rw [show chkL [] = 0 from rfl, gerr_zero] at HC
    have HFIN : Vl (SumP [] a b (.returned (.tuple #[.int .i64 0, .int .i64 0, .int .i64 0, .nilIface]))) := vl (Or.inl ⟨rfl, rfl⟩)
    go_enter Tryz.func12, Tryz.ntmps12
    go_wp2_with fail
    rw [← hW1]
    clear hW1
    refine HC.out.mono ?_
    rintro _ w2 ⟨rfl, hb2⟩
    have HB2 := vl (HB1.out.trans (hb2.mono HB1.out.size))
    clear hb2 HC HB1
    go_wp2_with fail
    refine wp_loop_rounds 1 ?_
    rw [rounds_succ]
    go_wp2_with fail
    refine bodyPost_ret (v := .tuple #[.int .i64 0, .int .i64 0, .int .i64 0, .nilIface]) (by simp [results, Tryz.results12, go_sem]; try rfl) rfl ?_
    exact ⟨HFIN.out, HB2.out⟩
  · exact gsum_row g off len cap L a b w hr hs
end Go.Proofs.YteohgkgahkkjlaaGreatDoor
