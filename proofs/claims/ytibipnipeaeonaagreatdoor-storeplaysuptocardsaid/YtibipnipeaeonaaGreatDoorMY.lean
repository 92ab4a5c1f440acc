/-
  FROM THE ONE TO THE OTHER: a row of fields that is handed in, where all is small. No claim by itself.
-/
import Derived.SliceStrings
import Derived.Test.YtibipnipeaeonaaGreatDoorRows
import Derived.Test.YtibipnipeaeonaaGreatDoorNopnX
import Derived.Test.YtibipnipeaeonaaGreatDoorMN
import Derived.Test.YtibipnipeaeonaaGreatDoorMT
namespace Go.Proofs.YtibipnipeaeonaaGreatDoor
open Go.RowKit Go.Deep Go Go.Lib Go.ChangeShapes
set_option maxRecDepth 100000
theorem ybulk_one {H : Type} (d : DataW H) : 1 ≤ Rows.uptoBulk d := by
  cases d with
  | lit l => cases l <;> simp [Rows.uptoBulk]
  | nil => simp [Rows.uptoBulk]
  | ptr d => simp [Rows.uptoBulk]
  | slice elems spare => simp [Rows.uptoBulk]
  | agg parts => simp [Rows.uptoBulk]
  | iface t d => simp [Rows.uptoBulk]
  | map entries => simp [Rows.uptoBulk]
  | held h => simp [Rows.uptoBulk]
theorem ybulk_length {H : Type} (l : List (DataW H)) : l.length ≤ Rows.uptoBulkAll l := by
  induction l with
  | nil => simp [Rows.uptoBulkAll]
  | cons x r ih => have := ybulk_one x; simp only [Rows.uptoBulkAll, List.length_cons]; omega
theorem ybulk_mem {H : Type} {l : List (DataW H)} {d : DataW H} (h : d ∈ l) : Rows.uptoBulk d ≤ Rows.uptoBulkAll l := by
  induction l with
  | nil => cases h
  | cons x r ih =>
    simp only [Rows.uptoBulkAll]
    rcases List.mem_cons.1 h with rfl | h
    · omega
    · have := ih h
      omega
theorem fields_bulk {H : Type} {enc : TypeId × Value → H} {W : World} {fuel : Nat} {v : Value} {y : DataW H × List MemPlace}
    (hf : DataW.trod enc Tryz.prog W 0 (fun _ => true) true fuel 33 [v] = some y) (hb : Rows.uptoBulk y.1 ≤ 1048576) :
    ∃ a len cap L, v = .slice a len cap ∧ FArg W a len cap L ∧ (a = none → cap = 0) ∧ len ≤ 1048576 ∧ ∀ t, (L.getD t fnone).1.size ≤ 1048576 ∧ (L.getD t fnone).2.size ≤ 1048576 := by
  rcases open_slice_pairs Tryz.underlying33 Tryz.underlying84 (by kernel_rfl) rfl rfl (by kernel_rfl) (by kernel_rfl) hf with ⟨hcs, _⟩ | ⟨x, len, cap, m, n, V0, V1, D0, D1, P0, P1, hcs, _, hl, hm, hmm, hx, hel⟩
  · simp at hcs
    exact ⟨none, 0, 0, [], hcs, Or.inl ⟨rfl, rfl⟩, fun _ => rfl, by decide, fun t => by simp [fnone]⟩
  · simp at hcs
    simp only [if_true] at hmm
    subst hmm
    have hdd : y.1 = .slice ((List.range len).map fun i => .agg [D0 i, D1 i]) ((List.range (m - len)).map fun j => .agg [D0 (len + j), D1 (len + j)]) := congrArg Prod.fst hx
    rw [hdd] at hb
    have hbl := ybulk_length ((List.range len).map fun i => DataW.agg [D0 i, D1 i])
    rw [List.length_map, List.length_range] at hbl
    have hstr : ∀ i, i < len → V0 i = .string (strOf (V0 i)) ∧ V1 i = .string (strOf (V1 i)) ∧ (strOf (V0 i)).size ≤ 1048576 ∧ (strOf (V1 i)).size ≤ 1048576 := by
      intro i hi
      obtain ⟨_, _, t0, t1⟩ := hel i (by omega)
      obtain ⟨s0, e0, x0, _⟩ := DataW.trod_string Tryz.underlying9 t0
      obtain ⟨s1, e1, x1, _⟩ := DataW.trod_string Tryz.underlying9 t1
      have v0 : V0 i = .string s0 := by simpa using e0
      have v1 : V1 i = .string s1 := by simpa using e1
      have d0 : D0 i = .lit (.string s0.data.toList) := congrArg Prod.fst x0
      have d1 : D1 i = .lit (.string s1.data.toList) := congrArg Prod.fst x1
      have hmem : DataW.agg [D0 i, D1 i] ∈ (List.range len).map fun i => DataW.agg [D0 i, D1 i] := List.mem_map.2 ⟨i, List.mem_range.2 hi, rfl⟩
      have h2 := ybulk_mem hmem
      rw [d0, d1] at h2
      have l0 : s0.data.toList.length = s0.size := by rw [Array.length_toList]; rfl
      have l1 : s1.data.toList.length = s1.size := by rw [Array.length_toList]; rfl
      simp only [Rows.uptoBulk, Rows.uptoBulkAll] at h2 hb
      refine ⟨by rw [v0]; rfl, by rw [v1]; rfl, ?_, ?_⟩
      · rw [v0]
        show s0.size ≤ _
        omega
      · rw [v1]
        show s1.size ≤ _
        omega
    have hget : ∀ t, t < len → ((List.range len).map fun i => (strOf (V0 i), strOf (V1 i))).getD t fnone = (strOf (V0 t), strOf (V1 t)) := by
      intro t ht
      simp [List.getD, ht]
    simp only [Rows.uptoBulk] at hb
    refine ⟨some x, len, m, (List.range len).map fun i => (strOf (V0 i), strOf (V1 i)), hcs, ?_, (fun h => by cases h), by omega, fun t => ?_⟩
    · by_cases h0 : len = 0
      · subst h0; exact Or.inl ⟨rfl, rfl⟩
      · obtain ⟨hc, _⟩ := hel 0 (by omega)
        obtain ⟨g, off, spot⟩ := x
        have hspot : spot = none := by simpa [Addr.add] using World.cell?_spot hc
        subst hspot
        have hplain := n_add g off
        refine Or.inr ⟨g, off, rfl, by simp, hl, hm, fun t ht => ?_, fun t ht => ?_⟩
        · have h1 := (hel t (by omega)).1
          rw [hplain] at h1
          rw [h1, hget t ht]
          exact congrArg some (hstr t ht).1
        · have h1 := (hel t (by omega)).2.1
          rw [hplain] at h1
          rw [show off + t * 2 + 1 = off + (t * 2 + 1) from by omega, h1, hget t ht]
          exact congrArg some (hstr t ht).2.1
    · by_cases ht : t < len
      · rw [hget t ht]
        exact (hstr t ht).2.2
      · have : ((List.range len).map fun i => (strOf (V0 i), strOf (V1 i))).getD t fnone = fnone := by
          rw [List.getD, List.getElem?_eq_none (by simp; omega)]; rfl
        rw [this]
        simp [fnone]
end Go.Proofs.YtibipnipeaeonaaGreatDoor
/-
  WHAT IS HANDED IN IS SMALL: a request, a reply and a row of texts, where all is of small bulk. No claim by itself.
-/
namespace Go.Proofs.YtibipnipeaeonaaGreatDoor
open Go Go.RowKit Go.Deep
set_option maxRecDepth 100000
theorem FArg.same {w : World} {a : Option Addr} {n c : Nat} {L M : List (ByteArray × ByteArray)} (h : FArg w a n c L) (g : FArg w a n c M) : L = M := by
  rcases h with ⟨h1, h2⟩ | ⟨x, off, ha, hr⟩
  · rcases g with ⟨_, g2⟩ | ⟨_, _, _, gr⟩
    · rw [h2, g2]
    · rw [h2]
      exact (List.length_eq_zero_iff.1 (gr.hlen.trans h1)).symm
  · rcases g with ⟨g1, g2⟩ | ⟨y, off', ga, gr⟩
    · rw [g2]
      exact List.length_eq_zero_iff.1 (hr.hlen.trans g1)
    · rw [ha] at ga
      cases ga
      refine List.ext_getElem (hr.hlen.trans gr.hlen.symm) fun i hi hj => ?_
      have a0 := hr.hname i (by have := hr.hlen; omega)
      have a1 := hr.hvalue i (by have := hr.hlen; omega)
      have b0 := gr.hname i (by have := hr.hlen; omega)
      have b1 := gr.hvalue i (by have := hr.hlen; omega)
      rw [a0] at b0
      rw [a1] at b1
      rw [List.getD, List.getD, List.getElem?_eq_getElem hi, List.getElem?_eq_getElem hj] at b0 b1
      simp only [Option.getD_some, Option.some.injEq, Value.string.injEq] at b0 b1
      exact Prod.ext b0 b1
theorem fst_len {L : List (ByteArray × ByteArray)} {nm : List Int} {N : Nat} (h : ∀ t, (L.getD t fnone).2.size ≤ N) : (fstV (fdsOf L) nm).length ≤ N := by
  cases ha : (fdsOf L).any (isNm nm) with
  | false => rw [fst_none ha]; exact Nat.zero_le _
  | true =>
    have hk : (fdsOf L).findIdx (isNm nm) < L.length := by
      have := List.findIdx_lt_length.2 (List.any_eq_true.1 ha)
      simpa [fdsOf] using this
    rw [fst_some hk rfl ha]
    have := h ((fdsOf L).findIdx (isNm nm))
    simpa [unums] using this
theorem request_bulk {H : Type} {enc : TypeId × Value → H} {W : World} {base : Nat} {q : RqM} {d : DataW H} {p : List MemPlace} (hv : Value.okWide Tryz.prog W .any base 36 q.val)
    (h : DataW.Trod enc Tryz.prog W 0 (fun _ => true) true 36 q.val d p) (hb : Rows.uptoBulk d ≤ 1048576) : RqS q := by
  obtain ⟨v0, v1, v2, v3, v4, y0, y1, y2, y3, y4, n, he, hdd, _, _, _, h3, _⟩ := open_agg5 Tryz.underlying36 (by kernel_rfl) (by kernel_rfl) hv h
  rw [hdd] at hb
  simp only [Rows.uptoBulk, Rows.uptoBulkAll] at hb
  unfold RqM.val at he
  simp only [Value.agg.injEq, Array.mk.injEq, List.cons.injEq, and_true] at he
  obtain ⟨_, _, _, rfl, _⟩ := he
  obtain ⟨a, len, cap, L, e, _, _, hl, _⟩ := fields_bulk h3 (by omega)
  cases e
  exact ⟨by omega⟩
theorem reply_bulk {H : Type} {enc : TypeId × Value → H} {W : World} {base : Nat} {q : RpM} {d : DataW H} {p : List MemPlace} (hv : Value.okWide Tryz.prog W .any base 38 q.val)
    (h : DataW.Trod enc Tryz.prog W 0 (fun _ => true) true 38 q.val d p) (hb : Rows.uptoBulk d ≤ 1048576) (hi : RpIn W q) : RpS q := by
  obtain ⟨v0, v1, v2, y0, y1, y2, n, he, hdd, _, _, h1, _⟩ := Go.Joins.open_agg3 Tryz.underlying38 (by kernel_rfl) (by kernel_rfl) hv h
  rw [hdd] at hb
  simp only [Rows.uptoBulk, Rows.uptoBulkAll] at hb
  unfold RpM.val at he
  simp only [Value.agg.injEq, Array.mk.injEq, List.cons.injEq, and_true] at he
  obtain ⟨_, rfl, _⟩ := he
  obtain ⟨a, len, cap, L, e, hF, _, hl, hz⟩ := fields_bulk h1 (by omega)
  cases e
  have := hi.fields.same hF
  subst this
  refine ⟨by omega, ?_⟩
  have := fst_len (L := q.FL) (nm := varyN) (fun t => (hz t).2)
  omega
theorem strs_bulk {H : Type} (ss : List ByteArray) : ∀ s ∈ ss, s.size ≤ Rows.uptoBulkAll (Go.ChangeShapes.strs (H := H) ss) := by
  intro s hs
  have h : (DataW.lit (.string s.data.toList) : DataW H) ∈ Go.ChangeShapes.strs (H := H) ss := List.mem_map.2 ⟨s, hs, rfl⟩
  have := ybulk_mem h
  have e : s.data.toList.length = s.size := by rw [Array.length_toList]; rfl
  simp only [Rows.uptoBulk] at this
  omega
theorem texts_bulk {H : Type} {enc : TypeId × Value → H} {W : World} {fuel : Nat} {v : Value} {y : DataW H × List MemPlace}
    (hf : DataW.trod enc Tryz.prog W 0 (fun _ => true) true fuel 82 [v] = some y) (hb : Rows.uptoBulk y.1 ≤ 1048576) :
    ∃ a len cap T, v = .slice a len cap ∧ TsArg W a len cap T ∧ ∀ i, (T.getD i .empty).size ≤ 140737488351232 := by
  rcases Go.ChangeShapes.open_strings Tryz.underlying82 Tryz.underlying9 (by kernel_rfl) hf with ⟨hcs, _⟩ | ⟨x, len, cap, ss, hcs, _, hl, hm, hn, hx, hc, _⟩
  · simp at hcs
    exact ⟨none, 0, 0, [], hcs, Or.inl rfl, fun i => by simp⟩
  · simp at hcs
    have hdd : y.1 = .slice (Go.ChangeShapes.strs (ss.take len)) (Go.ChangeShapes.strs (ss.drop len)) := congrArg Prod.fst hx
    rw [hdd] at hb
    simp only [Rows.uptoBulk] at hb
    simp only [if_true] at hn
    refine ⟨some x, len, cap, ss.take len, hcs, ?_, fun i => ?_⟩
    · by_cases h0 : len = 0
      · exact Or.inl h0
      · have hc0 := hc 0 (by omega)
        obtain ⟨g, off, spot⟩ := x
        have hspot : spot = none := by simpa [Addr.add] using World.cell?_spot hc0
        subst hspot
        refine Or.inr ⟨g, off, rfl, hl, hm, fun t ht => ?_⟩
        have h1 := hc t (by omega)
        rw [n_add g off t] at h1
        rw [h1]
        simp [List.getD, ht]
    · by_cases hi : i < (ss.take len).length
      · rw [List.getD, List.getElem?_eq_getElem hi]
        have := strs_bulk (H := H) (ss.take len) _ (List.getElem_mem hi)
        simp only [Option.getD_some]
        omega
      · rw [List.getD, List.getElem?_eq_none (by omega)]
        simp
end Go.Proofs.YtibipnipeaeonaaGreatDoor
/-
  WHAT WAS ANSWERED: rows of requests and of replies are opened, where all is of small bulk. No claim by itself.
-/
namespace Go.Proofs.YtibipnipeaeonaaGreatDoor
open Go Go.RowKit Go.Deep
set_option maxRecDepth 100000
instance : Inhabited RqM := ⟨q00⟩
instance : Inhabited RpM := ⟨p00⟩
theorem asks_open {H : Type} {enc : TypeId × Value → H} {W : World} {ts : List TypeId} {ds : List (DataW H)} {j fuel : Nat} {d : DataW H} {p : List MemPlace} {a : Option Addr} {len cap : Nat}
    (hsz : (DataW.weightsEach Tryz.prog ts ds).all (· ≤ reachBytes) = true) (hj : ts[j]? = some 22) (hd : ds[j]? = some d)
    (hf : DataW.trod enc Tryz.prog W 0 (fun _ => true) true fuel 22 (Value.slice a len cap).cells.toList = some (d, p)) (hb : Rows.uptoBulk d ≤ 1048576) :
    ∃ F, AsksIn W a len cap F := by
  rcases Go.Deep.open_slice Tryz.underlying22 hf with ⟨hcs, _⟩ | ⟨x, l, c, m, n, D, Pl, hcs, _, hl, hm, hmm, hx, hel⟩
  · simp [Value.cells] at hcs
    obtain ⟨rfl, rfl, rfl⟩ := hcs
    exact ⟨fun _ => q00, ⟨Nat.le_refl _, by decide⟩, fun t ht => by omega⟩
  · simp [Value.cells] at hcs
    obtain ⟨rfl, rfl, rfl⟩ := hcs
    simp only [if_true] at hmm
    subst hmm
    have ce : Tryz.prog.cellsOf 36 = 5 := by kernel_rfl
    have hdd := congrArg Prod.fst hx
    simp only at hdd
    by_cases h0 : len = 0
    · exact ⟨fun _ => q00, ⟨hl, hm⟩, fun t ht => by omega⟩
    · obtain ⟨g, off, spot⟩ := x
      have hspot : spot = none := by
        obtain ⟨cs', h1, _⟩ := hel 0 (by omega)
        rw [ce] at h1
        obtain ⟨_, hlen, hcell⟩ := World.cells?_some h1
        have h2 := hcell 0 (by omega)
        have h3 : ∃ u, W.cell? ((Addr.add ⟨g, off, spot⟩ (0 * 5)).add 0) = some u := by
          match cs', hlen, h2 with
          | [v0, v1, v2, v3, v4], _, h2 => exact ⟨_, h2⟩
        obtain ⟨u, h3⟩ := h3
        simpa [Addr.add] using World.cell?_spot h3
      subst hspot
      have hb0 := hb
      rw [hdd] at hb0
      simp only [Rows.uptoBulk] at hb0
      have each : ∀ r, r < len → ∃ y : RqM, (W.cell? ⟨g, off + r * 5, none⟩ = some (.string y.m) ∧ W.cell? ⟨g, off + r * 5 + 1, none⟩ = some (.string y.p) ∧ W.cell? ⟨g, off + r * 5 + 2, none⟩ = some (.string y.h) ∧ W.cell? ⟨g, off + r * 5 + 3, none⟩ = some (.slice y.fa y.fn y.fc) ∧ W.cell? ⟨g, off + r * 5 + 4, none⟩ = some (.slice y.ba y.bn y.bc)) ∧ RqIn W y ∧ RqS y := by
        intro r hr
        obtain ⟨cs', h1, ht⟩ := hel r (by omega)
        rw [ce] at h1
        obtain ⟨_, hlen, hcell⟩ := World.cells?_some h1
        obtain ⟨xs, n', _, hx', hl', hlen', hff⟩ := DataW.trod_struct Tryz.underlying36 ht
        match cs', hlen, xs, hlen' with
        | [v0, v1, v2, v3, v4], _, [y0, y1, y2, y3, y4], _ =>
          have q0 := hcell 0 (by omega)
          have q1 := hcell 1 (by omega)
          have q2 := hcell 2 (by omega)
          have q3 := hcell 3 (by omega)
          have q4 := hcell 4 (by omega)
          simp only [n_add, Nat.add_zero, List.getElem?_cons_zero, List.getElem?_cons_succ] at q0 q1 q2 q3 q4
          have t0 := hff 0 _ rfl
          have t1 := hff 1 _ rfl
          have t2 := hff 2 _ rfl
          have t3 := hff 3 _ rfl
          have t4 := hff 4 _ rfl
          have c3 : Tryz.prog.cellsOf 9 = 1 := by kernel_rfl
          have cf : Tryz.prog.cellsOf 33 = 1 := by kernel_rfl
          have cs : Tryz.prog.cellsOf 34 = 1 := by kernel_rfl
          simp [c3, cf, cs] at t0 t1 t2 t3 t4
          have hmem : D r ∈ (List.range len).map D := List.mem_map.2 ⟨r, List.mem_range.2 hr, rfl⟩
          have hD : D r = .agg [y0.1, y1.1, y2.1, y3.1, y4.1] := by
            have := congrArg Prod.fst hx'
            simpa using this
          have hbr := ybulk_mem hmem
          rw [hD] at hbr
          simp only [Rows.uptoBulk, Rows.uptoBulkAll] at hbr
          have hw : ∀ q, q ∈ (DataW.agg [y0.1, y1.1, y2.1, y3.1, y4.1]).weights Tryz.prog 36 → q ≤ reachBytes := fun q hq => by
            refine of_decide_eq_true (List.all_eq_true.1 hsz _ (DataW.weights_mem_each hj hd _ ?_))
            rw [hdd]
            simp only [DataW.weights, Tryz.underlying22, List.mem_cons, List.mem_append]
            refine Or.inr (Or.inl (n_weightsAll ?_ hmem))
            rw [hD]
            exact hq
          simp only [DataW.weights, Tryz.underlying36] at hw
          obtain ⟨s0, rfl, l0⟩ := n_text t0 (fun q hq => hw q (by simp [DataW.weightsEach, hq]))
          obtain ⟨s1, rfl, l1⟩ := n_text t1 (fun q hq => hw q (by simp [DataW.weightsEach, hq]))
          obtain ⟨s2, rfl, l2⟩ := n_text t2 (fun q hq => hw q (by simp [DataW.weightsEach, hq]))
          obtain ⟨fa, fn, fc, L, e3, f1, f2, f3⟩ := n_fields t3 (fun q hq => hw q (by simp [DataW.weightsEach, hq]))
          obtain ⟨fa', fn', fc', L', e3', _, _, fb, _⟩ := fields_bulk t3 (by omega)
          have hfn : fn ≤ 1048576 := by
            rw [e3] at e3'
            cases e3'
            exact fb
          subst e3
          obtain ⟨ba, bn, bc, Z, rfl, b1, b2, b3⟩ := n_body t4 (fun q hq => hw q (by simp [DataW.weightsEach, hq]))
          exact ⟨⟨s0, s1, s2, fa, fn, fc, ba, bn, bc, L, Z⟩, ⟨q0, q1, q2, q3, q4⟩, ⟨f1, b1, b3, ⟨f2, b2⟩, ⟨l0, l1, l2⟩, f3⟩, ⟨by show fn ≤ _; omega⟩⟩
      obtain ⟨y, hy⟩ := Go.Deep.choose_lt each
      exact ⟨y, ⟨hl, hm⟩, fun t ht => ⟨g, off, rfl, hy t ht⟩⟩
theorem tells_open {H : Type} {enc : TypeId × Value → H} {W : World} {ts : List TypeId} {ds : List (DataW H)} {j fuel : Nat} {d : DataW H} {p : List MemPlace} {a : Option Addr} {len cap : Nat}
    (hsz : (DataW.weightsEach Tryz.prog ts ds).all (· ≤ reachBytes) = true) (hj : ts[j]? = some 23) (hd : ds[j]? = some d)
    (hf : DataW.trod enc Tryz.prog W 0 (fun _ => true) true fuel 23 (Value.slice a len cap).cells.toList = some (d, p)) (hb : Rows.uptoBulk d ≤ 1048576) :
    ∃ F, TellsIn W a len cap F := by
  rcases Go.Deep.open_slice Tryz.underlying23 hf with ⟨hcs, _⟩ | ⟨x, l, c, m, n, D, Pl, hcs, _, hl, hm, hmm, hx, hel⟩
  · simp [Value.cells] at hcs
    obtain ⟨rfl, rfl, rfl⟩ := hcs
    exact ⟨fun _ => p00, ⟨Nat.le_refl _, by decide⟩, fun t ht => by omega⟩
  · simp [Value.cells] at hcs
    obtain ⟨rfl, rfl, rfl⟩ := hcs
    simp only [if_true] at hmm
    subst hmm
    have ce : Tryz.prog.cellsOf 38 = 3 := by kernel_rfl
    have hdd := congrArg Prod.fst hx
    simp only at hdd
    by_cases h0 : len = 0
    · exact ⟨fun _ => p00, ⟨hl, hm⟩, fun t ht => by omega⟩
    · obtain ⟨g, off, spot⟩ := x
      have hspot : spot = none := by
        obtain ⟨cs', h1, _⟩ := hel 0 (by omega)
        rw [ce] at h1
        obtain ⟨_, hlen, hcell⟩ := World.cells?_some h1
        have h2 := hcell 0 (by omega)
        have h3 : ∃ u, W.cell? ((Addr.add ⟨g, off, spot⟩ (0 * 3)).add 0) = some u := by
          match cs', hlen, h2 with
          | [v0, v1, v2], _, h2 => exact ⟨_, h2⟩
        obtain ⟨u, h3⟩ := h3
        simpa [Addr.add] using World.cell?_spot h3
      subst hspot
      have hb0 := hb
      rw [hdd] at hb0
      simp only [Rows.uptoBulk] at hb0
      have each : ∀ r, r < len → ∃ y : RpM, (W.cell? ⟨g, off + r * 3, none⟩ = some (.int .i64 y.code) ∧ W.cell? ⟨g, off + r * 3 + 1, none⟩ = some (.slice y.fa y.fn y.fc) ∧ W.cell? ⟨g, off + r * 3 + 2, none⟩ = some (.slice y.ba y.bn y.bc)) ∧ RpIn W y ∧ RpS y := by
        intro r hr
        obtain ⟨cs', h1, ht⟩ := hel r (by omega)
        rw [ce] at h1
        obtain ⟨_, hlen, hcell⟩ := World.cells?_some h1
        obtain ⟨xs, n', _, hx', hl', hlen', hff⟩ := DataW.trod_struct Tryz.underlying38 ht
        match cs', hlen, xs, hlen' with
        | [v0, v1, v2], _, [y0, y1, y2], _ =>
          have q0 := hcell 0 (by omega)
          have q1 := hcell 1 (by omega)
          have q2 := hcell 2 (by omega)
          simp only [n_add, Nat.add_zero, List.getElem?_cons_zero, List.getElem?_cons_succ] at q0 q1 q2
          have t0 := hff 0 _ rfl
          have t1 := hff 1 _ rfl
          have t2 := hff 2 _ rfl
          have c3 : Tryz.prog.cellsOf 3 = 1 := by kernel_rfl
          have cf : Tryz.prog.cellsOf 33 = 1 := by kernel_rfl
          have cs : Tryz.prog.cellsOf 34 = 1 := by kernel_rfl
          simp [c3, cf, cs] at t0 t1 t2
          have hmem : D r ∈ (List.range len).map D := List.mem_map.2 ⟨r, List.mem_range.2 hr, rfl⟩
          have hD : D r = .agg [y0.1, y1.1, y2.1] := by
            have := congrArg Prod.fst hx'
            simpa using this
          have hbr := ybulk_mem hmem
          rw [hD] at hbr
          simp only [Rows.uptoBulk, Rows.uptoBulkAll] at hbr
          have hw : ∀ q, q ∈ (DataW.agg [y0.1, y1.1, y2.1]).weights Tryz.prog 38 → q ≤ reachBytes := fun q hq => by
            refine of_decide_eq_true (List.all_eq_true.1 hsz _ (DataW.weights_mem_each hj hd _ ?_))
            rw [hdd]
            simp only [DataW.weights, Tryz.underlying23, List.mem_cons, List.mem_append]
            refine Or.inr (Or.inl (n_weightsAll ?_ hmem))
            rw [hD]
            exact hq
          simp only [DataW.weights, Tryz.underlying38] at hw
          obtain ⟨c0, e0, x0, w0⟩ := DataW.trod_int Tryz.underlying3 t0
          simp only [List.cons.injEq, and_true] at e0
          subst e0
          obtain ⟨fa, fn, fc, L, e3, f1, f2, f3⟩ := n_fields t1 (fun q hq => hw q (by simp [DataW.weightsEach, hq]))
          obtain ⟨fa', fn', fc', L', e3', fx, _, fb, fz⟩ := fields_bulk t1 (by omega)
          rw [e3] at e3'
          cases e3'
          subst e3
          have hLL := f1.same fx
          obtain ⟨ba, bn, bc, Z, rfl, b1, b2, b3⟩ := n_body t2 (fun q hq => hw q (by simp [DataW.weightsEach, hq]))
          refine ⟨⟨c0, fa, fn, fc, ba, bn, bc, L, Z⟩, ⟨q0, q1, q2⟩, ⟨i64_wf w0, f1, b1, b3, ⟨f2, b2⟩, f3⟩, ⟨by show fn ≤ _; omega, ?_⟩⟩
          · show (fstV (fdsOf L) varyN).length < _
            have := fst_len (L := L) (nm := varyN) (N := 1048576) (fun t => by rw [hLL]; exact (fz t).2)
            omega
      obtain ⟨y, hy⟩ := Go.Deep.choose_lt each
      exact ⟨y, ⟨hl, hm⟩, fun t ht => ⟨g, off, rfl, hy t ht⟩⟩
theorem q00_in (w : World) : RqIn w q00 := ⟨Or.inl ⟨rfl, rfl⟩, Or.inl ⟨rfl, rfl⟩, fun _ => ⟨rfl, rfl⟩, ⟨by show (0 : Nat) ≤ _; omega, by show (0 : Nat) ≤ _; omega⟩, ⟨by show (0 : Nat) ≤ _; omega, by show (0 : Nat) ≤ _; omega, by show (0 : Nat) ≤ _; omega⟩, fun t => by simp [q00, fnone]⟩
theorem p00_in (w : World) : RpIn w p00 := ⟨by show I64 0; unfold I64; exact ⟨by decide, by decide⟩, Or.inl ⟨rfl, rfl⟩, Or.inl ⟨rfl, rfl⟩, fun _ => ⟨rfl, rfl⟩, ⟨by show (0 : Nat) ≤ _; omega, by show (0 : Nat) ≤ _; omega⟩, fun t => by simp [p00, fnone]⟩
end Go.Proofs.YtibipnipeaeonaaGreatDoor
