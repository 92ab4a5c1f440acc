/-
  WHAT IS HANDED IN IS SMALL: a request, a reply and a row of texts, where all is of small bulk. No claim by itself.
-/
import Derived.SliceStrings
import Derived.Test.YtibipnipeaeonaaDoorYbulkX
import Derived.Test.YtibipnipeaeonaaDoorZst3X
namespace Go.Proofs.YtibipnipeaeonaaDoor
open Go Go.RowKit Go.Deep
set_option maxRecDepth 100000
theorem FArg.same {w : World} {a : Option Addr} {n c : Nat} {L M : List (ByteArray × ByteArray)} (h : FArg w a n c L) (g : FArg w a n c M) : L = M := by
  rcases h with ⟨h1, h2⟩ | ⟨x, off, ha, hr⟩
  · rcases g with ⟨_, g2⟩ | ⟨_, _, _, gr⟩
    · rw [h2, g2]
    · rw [h2]
      exact (List.length_eq_zero_iff.1 (gr.hlen.trans h1)).symm
  · rcases g with ⟨g1, g2⟩ | ⟨y, off', ga, gr⟩
    · rw [g2]
      exact List.length_eq_zero_iff.1 (hr.hlen.trans g1)
    · rw [ha] at ga
      cases ga
      refine List.ext_getElem (hr.hlen.trans gr.hlen.symm) fun i hi hj => ?_
      have a0 := hr.hname i (by have := hr.hlen; omega)
      have a1 := hr.hvalue i (by have := hr.hlen; omega)
      have b0 := gr.hname i (by have := hr.hlen; omega)
      have b1 := gr.hvalue i (by have := hr.hlen; omega)
      rw [a0] at b0
      rw [a1] at b1
      rw [List.getD, List.getD, List.getElem?_eq_getElem hi, List.getElem?_eq_getElem hj] at b0 b1
      simp only [Option.getD_some, Option.some.injEq, Value.string.injEq] at b0 b1
      exact Prod.ext b0 b1
theorem fst_len {L : List (ByteArray × ByteArray)} {nm : List Int} {N : Nat} (h : ∀ t, (L.getD t fnone).2.size ≤ N) : (fstV (fdsOf L) nm).length ≤ N := by
  cases ha : (fdsOf L).any (isNm nm) with
  | false => rw [fst_none ha]; exact Nat.zero_le _
  | true =>
    have hk : (fdsOf L).findIdx (isNm nm) < L.length := by
      have := List.findIdx_lt_length.2 (List.any_eq_true.1 ha)
      simpa [fdsOf] using this
    rw [fst_some hk rfl ha]
    have := h ((fdsOf L).findIdx (isNm nm))
    simpa [unums] using this
theorem request_bulk {H : Type} {enc : TypeId × Value → H} {W : World} {base : Nat} {q : RqM} {d : DataW H} {p : List MemPlace} (hv : Value.okWide Tryd.prog W .any base 25 q.val)
    (h : DataW.Trod enc Tryd.prog W 0 (fun _ => true) true 25 q.val d p) (hb : Rows.uptoBulk d ≤ 1048576) : RqS q := by
  obtain ⟨v0, v1, v2, v3, v4, y0, y1, y2, y3, y4, n, he, hdd, _, _, _, h3, _⟩ := open_agg5 Tryd.underlying25 (by kernel_rfl) (by kernel_rfl) hv h
  rw [hdd] at hb
  simp only [Rows.uptoBulk, Rows.uptoBulkAll] at hb
  unfold RqM.val at he
  simp only [Value.agg.injEq, Array.mk.injEq, List.cons.injEq, and_true] at he
  obtain ⟨_, _, _, rfl, _⟩ := he
  obtain ⟨a, len, cap, L, e, _, _, hl, _⟩ := fields_bulk h3 (by omega)
  cases e
  exact ⟨by omega⟩
theorem reply_bulk {H : Type} {enc : TypeId × Value → H} {W : World} {base : Nat} {q : RpM} {d : DataW H} {p : List MemPlace} (hv : Value.okWide Tryd.prog W .any base 27 q.val)
    (h : DataW.Trod enc Tryd.prog W 0 (fun _ => true) true 27 q.val d p) (hb : Rows.uptoBulk d ≤ 1048576) (hi : RpIn W q) : RpS q := by
  obtain ⟨v0, v1, v2, y0, y1, y2, n, he, hdd, _, _, h1, _⟩ := Go.Joins.open_agg3 Tryd.underlying27 (by kernel_rfl) (by kernel_rfl) hv h
  rw [hdd] at hb
  simp only [Rows.uptoBulk, Rows.uptoBulkAll] at hb
  unfold RpM.val at he
  simp only [Value.agg.injEq, Array.mk.injEq, List.cons.injEq, and_true] at he
  obtain ⟨_, rfl, _⟩ := he
  obtain ⟨a, len, cap, L, e, hF, _, hl, hz⟩ := fields_bulk h1 (by omega)
  cases e
  have := hi.fields.same hF
  subst this
  refine ⟨by omega, ?_⟩
  have := fst_len (L := q.FL) (nm := varyN) (fun t => (hz t).2)
  omega
theorem strs_bulk {H : Type} (ss : List ByteArray) : ∀ s ∈ ss, s.size ≤ Rows.uptoBulkAll (Go.ChangeShapes.strs (H := H) ss) := by
  intro s hs
  have h : (DataW.lit (.string s.data.toList) : DataW H) ∈ Go.ChangeShapes.strs (H := H) ss := List.mem_map.2 ⟨s, hs, rfl⟩
  have := ybulk_mem h
  have e : s.data.toList.length = s.size := by rw [Array.length_toList]; rfl
  simp only [Rows.uptoBulk] at this
  omega
theorem texts_bulk {H : Type} {enc : TypeId × Value → H} {W : World} {fuel : Nat} {v : Value} {y : DataW H × List MemPlace}
    (hf : DataW.trod enc Tryd.prog W 0 (fun _ => true) true fuel 28 [v] = some y) (hb : Rows.uptoBulk y.1 ≤ 1048576) :
    ∃ a len cap T, v = .slice a len cap ∧ TsArg W a len cap T ∧ ∀ i, (T.getD i .empty).size ≤ 140737488351232 := by
  rcases Go.ChangeShapes.open_strings Tryd.underlying28 Tryd.underlying9 (by kernel_rfl) hf with ⟨hcs, _⟩ | ⟨x, len, cap, ss, hcs, _, hl, hm, hn, hx, hc, _⟩
  · simp at hcs
    exact ⟨none, 0, 0, [], hcs, Or.inl rfl, fun i => by simp⟩
  · simp at hcs
    have hdd : y.1 = .slice (Go.ChangeShapes.strs (ss.take len)) (Go.ChangeShapes.strs (ss.drop len)) := congrArg Prod.fst hx
    rw [hdd] at hb
    simp only [Rows.uptoBulk] at hb
    simp only [if_true] at hn
    refine ⟨some x, len, cap, ss.take len, hcs, ?_, fun i => ?_⟩
    · by_cases h0 : len = 0
      · exact Or.inl h0
      · have hc0 := hc 0 (by omega)
        obtain ⟨g, off, spot⟩ := x
        have hspot : spot = none := by simpa [Addr.add] using World.cell?_spot hc0
        subst hspot
        refine Or.inr ⟨g, off, rfl, hl, hm, fun t ht => ?_⟩
        have h1 := hc t (by omega)
        rw [n_add g off t] at h1
        rw [h1]
        simp [List.getD, ht]
    · by_cases hi : i < (ss.take len).length
      · rw [List.getD, List.getElem?_eq_getElem hi]
        have := strs_bulk (H := H) (ss.take len) _ (List.getElem_mem hi)
        simp only [Option.getD_some]
        omega
      · rw [List.getD, List.getElem?_eq_none (by omega)]
        simp
end Go.Proofs.YtibipnipeaeonaaDoor
