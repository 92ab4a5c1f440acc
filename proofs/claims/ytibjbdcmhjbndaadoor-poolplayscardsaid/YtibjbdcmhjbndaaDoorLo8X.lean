/-
  CONNECTIONS TO PLACES: slices.Backward at ints. No claim by itself.
-/
import Derived.Stop.RegionWithIn
import Derived.Test.YtibjbdcmhjbndaaDoorLo7X
import Derived.Test.YtibjbdcmhjbndaaDoorWbox3
namespace Go.Proofs.YtibjbdcmhjbndaaDoor
open Go Go.RowKit Go.Shelf
set_option maxRecDepth 100000
attribute [local go_sem] Oper.semAt_some
theorem iback_any (v : Value) (w : World) (hv : ∃ a n c, v = .slice a n c) : Calls Tryd.prog 21 #[v] w fun e w' => e = .returned (.func (.func 32) #[] #[.pointer (some ⟨w.heap.size, 0, none⟩)]) ∧ w' = w.alloc (.cells #[v] 35) := by
  obtain ⟨a, n, c, rfl⟩ := hv
  go_enter Tryd.func21, Tryd.ntmps21
  go_wp2
  go_ret
  exact ⟨rfl, rfl⟩
theorem irow_same {w w' : World} {v : Value} {B : Nat} {ids : List Int} (h : IRow w v B ids) (hk : ∀ k, v.ownBlock = some k → w'.heap[k]? = w.heap[k]?) : IRow w' v B ids := by
  rcases h with h | ⟨g, c, rfl, h2, h2', h3, h4, h5⟩
  · exact Or.inl h
  · exact Or.inr ⟨g, c, rfl, h2, (by
      have e := hk g rfl
      rw [Array.getElem?_eq_getElem h2'] at e
      exact (Array.getElem?_eq_some_iff.1 e).1), h3, h4, fun t ht => (World.cell?_of_block (a := ⟨g, t, none⟩) (hk g rfl)).trans (h5 t ht)⟩
theorem irow_shape {w : World} {v : Value} {B : Nat} {ids : List Int} (h : IRow w v B ids) : ∃ a c, v = .slice a ids.length c := by
  rcases h with ⟨h1, h2⟩ | ⟨g, c, rfl, _⟩
  · exact ⟨none, 0, by rw [h1, h2]; rfl⟩
  · exact ⟨_, c, rfl⟩
theorem irow_lt {w : World} {v : Value} {B : Nat} {ids : List Int} (h : IRow w v B ids) : ∀ k, v.ownBlock = some k → B ≤ k ∧ k < w.heap.size := by
  rcases h with ⟨rfl, _⟩ | ⟨g, c, rfl, h2, h3, _⟩
  · intro k e; cases e
  · intro k e; cases e; exact ⟨h2, h3⟩
/-- An id at its place. -/
abbrev Bk (D : List Int) := { x : Nat × Int // x.1 < D.length ∧ x.2 = D.getD x.1 0 }
def bkV {D : List Int} (x : Bk D) : Array Value := #[.int .i64 (x.1.1 : Nat), .int .i64 x.1.2]
/-- The places from the last one on. -/
def BkI (D : List Int) (pre : List (Bk D)) : Prop := pre.length ≤ D.length ∧ ∀ i, i < pre.length → ∃ x, pre[i]? = some x ∧ x.1.1 = D.length - 1 - i
theorem BkI.snoc {D : List Int} {pre : List (Bk D)} {x : Bk D} (h : BkI D pre) (hx : x.1.1 + pre.length + 1 = D.length) : BkI D (pre ++ [x]) := by
  refine ⟨by rw [List.length_append]; simp; omega, fun i hi => ?_⟩
  by_cases e : i < pre.length
  · obtain ⟨y, h1, h2⟩ := h.2 i e
    exact ⟨y, by rw [List.getElem?_append_left e]; exact h1, h2⟩
  · have ei : i = pre.length := by rw [List.length_append] at hi; simp at hi; omega
    subst ei
    exact ⟨x, by simp, by omega⟩
set_option maxHeartbeats 4000000 in
theorem iback_stops (n : Nat) (hn : 1 ≤ n) (v : Value) (D : List Int) (b B : Nat) (w : World) (hbx : Boxed w b 35 v) (hown : IRow w v B D) (hgl : ∀ k, v.ownBlock = some k → k < w.heap.size) (hl : D.length ≤ 1000) :
    SeqBx2 Fence.wide n Tryd.prog 32 #[.pointer (some ⟨b, 0, none⟩)] (bkV (D := D)) b (fun k => k = b ∨ v.ownBlock = some k) (fun xs => BkI D xs ∧ xs.length = D.length) (BkI D) (D.length + 1) w := by
  intro l J Jx W hBW _hJ _hJx _hJb hY h0
  have HY := vl hY
  have H0 := vl h0
  have HBX : Vl (Boxed W b 35 v) := vl ((hBW.block b hbx.lt).trans hbx)
  have HOW : Vl (IRow W v B D) := vl (irow_same hown (fun k e => hBW.block k (hgl k e)))
  clear hBW hY h0 hbx hown
  obtain ⟨va, vc, hv⟩ := irow_shape HOW.out
  have HVV := vl hv
  have cS : W.cell? ⟨b, 0, none⟩ = some (.slice va D.length vc) := by rw [HBX.out.cell, hv]
  clear hv
  refine callsIn_of_wp Tryd.func32 rfl trivial ?_ rfl
  simp only [Tryd.ntmps32, List.size_toArray, List.length_cons, List.length_nil, Nat.reduceAdd, Nat.reduceSub, Array.replicate_succ, Array.replicate_zero, List.push_toArray, List.append_toArray, List.nil_append, List.cons_append]
  gi_wp2
  clear cS
  gi_loopw [3] (fun iv wr => ∃ pre : List (Bk D), iv = .int .i64 ((D.length : Int) - 1 - (pre.length : Int)) ∧ pre.length ≤ D.length ∧ Vl (BkI D pre) ∧ Vl (J pre wr) ∧ Vl (W.heap.size ≤ wr.heap.size) ∧ Vl (Boxed wr b 35 v) ∧ Vl (IRow wr v B D)) (fun iv _ => (RowKit.intOf iv + 1).toNat)
  case atStart => exact ⟨[], by simp, Nat.zero_le _, vl ⟨by simp, fun i hi => by simp at hi⟩, H0, vl (Nat.le_refl _), HBX, HOW⟩
  case round =>
    obtain ⟨pre, rfl, hpl, HBK, HJ1, HS, HB, HO⟩ := hrel
    by_cases hlt : pre.length < D.length
    · obtain ⟨i, hi⟩ : ∃ i, i + pre.length + 1 = D.length := ⟨D.length - 1 - pre.length, by omega⟩
      have ei : (D.length : Int) - 1 - (pre.length : Int) = (i : Int) := by omega
      rw [ei]
      have hge : (0 : Int) ≤ (i : Int) := by omega
      have hid : i < D.length := by omega
      have hid' : (i : Int) < (D.length : Int) := by omega
      obtain ⟨g, cap, hvg, -, -, hcap1, hcap2, hcs⟩ : ∃ g c, v = .slice (some ⟨g, 0, none⟩) D.length c ∧ B ≤ g ∧ g < wr.heap.size ∧ D.length ≤ c ∧ c ≤ maxLen ∧ ∀ t, t < D.length → wr.cell? ⟨g, t, none⟩ = some (.int .i64 (D.getD t 0)) := by
        rcases HO.out with ⟨_, e⟩ | h
        · rw [e] at hid; simp at hid
        · exact h
      have cB : wr.cell? ⟨b, 0, none⟩ = some (.slice (some ⟨g, 0, none⟩) D.length cap) := by rw [HB.out.cell, hvg]
      have c0 := hcs i hid
      obtain ⟨X, hX⟩ : ∃ X : Bk D, X.1 = (i, D.getD i 0) := ⟨⟨(i, D.getD i 0), hid, rfl⟩, rfl⟩
      obtain ⟨fn, tmps, assign, body, hy, hR⟩ := HY.out pre X wr HJ1.out (by omega) HS.out
      have HBN := vl (HBK.out.snoc (x := X) (by rw [hX]; exact hi))
      have hpx : bkV X = #[.int .i64 (i : Nat), .int .i64 (D.getD i 0)] := by unfold bkV; rw [hX]
      rw [hpx] at hy
      obtain ⟨kk, hkk⟩ : ∃ kk, D.getD i 0 = kk := ⟨_, rfl⟩
      rw [hkk] at hy c0
      have HR := vl hR
      have HVG := vl hvg
      have HII := vl hi
      clear hpx hR hX hkk hcs hvg ei hi
      gi_wp2_with fail
      clear hy
      refine HR.out.mono ?_
      rintro e W5 (⟨rfl, hJ5, hk5, hs5⟩ | ⟨rfl, hJ5⟩)
      · have HJ5 := vl hJ5
        have HB5 : Vl (Boxed W5 b 35 v) := vl ((hk5 b (Or.inl rfl)).trans HB.out)
        have HO5 : Vl (IRow W5 v B D) := vl (irow_same HO.out (fun k e => hk5 k (Or.inr e)))
        have HS5 : Vl (W.heap.size ≤ W5.heap.size) := vl (Nat.le_trans HS.out hs5)
        clear hJ5 hk5 hs5 c0 cB
        gi_wp2_with fail
        go_roundw
        case rel => exact ⟨pre ++ [X], by rw [List.length_append]; have := HII.out; congr 1; simp; omega, by rw [List.length_append]; simp; omega, HBN, HJ5, HS5, HB5, HO5⟩
        case measure => simp [RowKit.intOf]
      · have HJ5 := vl hJ5
        clear hJ5
        gi_wp2_with fail
        refine bodyPost_ret (results_none rfl _ _ _) rfl ?_
        exact ⟨⟨_, rfl⟩, Or.inr ⟨_, HBN.out, HJ5.out⟩⟩
    · have hpe : pre.length = D.length := by omega
      have ei : (D.length : Int) - 1 - (pre.length : Int) = -1 := by omega
      rw [ei]
      have HPE := vl hpe
      clear ei hpe
      gi_wp2_with fail
      go_end0
      exact ⟨⟨_, rfl⟩, Or.inl ⟨pre, ⟨HBK.out, HPE.out⟩, HJ1.out⟩⟩
end Go.Proofs.YtibjbdcmhjbndaaDoor
