/-
  CONTRACTS of the methods Resize and tellSizes of head.Coder. No claim by itself.
-/
import Derived.Test.YtkjfhgoddhigmacDoorDcod3
namespace Go.Proofs.YtkjfhgoddhigmacDoor
open Go.RowKit
set_option maxRecDepth 100000
/-- A coder's cells. -/
theorem HCod.cells {w : World} {cb : Nat} {st : CSt} {S : Nat → Prop} (h : HCod w cb st S) : ∃ to SO vi, w.heap[cb]? = some (.cells #[.int .i64 st.most, .int .i64 (leastOf st.sz), .pointer (some ⟨to, 0, none⟩), vi] 46 (0, 0)) ∧ TabP w to st.mo st.AO SO ∧ (∀ k, SO k → S k ∧ k ≠ cb) ∧
    ((st.bad = true ∧ vi = .pointer none) ∨ (st.bad = false ∧ ∃ ti SI, vi = .pointer (some ⟨ti, 0, none⟩) ∧ TabP w ti st.mi st.AI SI ∧ ∀ k, SI k → S k ∧ k ≠ cb ∧ ¬ SO k)) := h.row
/-- The table for what goes out has turned. -/
theorem HCod.turn {w w' : World} {cb to : Nat} {st : CSt} {S SO SO' : Nat → Prop} {vi : Value} (h : HCod w cb st S) (hh : w.heap[cb]? = some (.cells #[.int .i64 st.most, .int .i64 (leastOf st.sz), .pointer (some ⟨to, 0, none⟩), vi] 46 (0, 0)))
    (hS : ∀ k, SO k → S k ∧ k ≠ cb) (hin : (st.bad = true ∧ vi = .pointer none) ∨ (st.bad = false ∧ ∃ ti SI, vi = .pointer (some ⟨ti, 0, none⟩) ∧ TabP w ti st.mi st.AI SI ∧ ∀ k, SI k → S k ∧ k ≠ cb ∧ ¬ SO k))
    (ho : Off SO w w') (mo : Int) (AO : List (ByteArray × ByteArray)) (hT : TabP w' to mo AO SO') (hS' : ∀ k, SO' k → SO k ∨ w.heap.size ≤ k) :
    HCod w' cb { st with mo := mo, AO := AO } (fun k => S k ∨ SO' k) := by
  have hcs := h.hlt cb h.hcb
  have halp := h.alw.pos
  have hA : w'.heap[0]? = w.heap[0]? := ho.block _ halp (fun hs => h.hal (hS _ hs).1)
  refine ⟨h.alw.kept hA, Or.inl h.hcb, fun k hk => ?_, ?_, to, SO', vi, (ho.block cb hcs (fun hs => (hS cb hs).2 rfl)).trans hh, hT, fun k hk => ⟨Or.inr hk, ?_⟩, ?_⟩
  · rcases hk with hk | hk
    · exact Nat.lt_of_lt_of_le (h.hlt k hk) ho.size
    · exact tabKeeps.lt hT k hk
  · rintro (hk | hk)
    · exact h.hal hk
    · exact tab_al hT hk
  · rcases hS' k hk with h1 | h1
    · exact (hS k h1).2
    · omega
  · rcases hin with h1 | ⟨hb, ti, SI, hv, ht, hd⟩
    · exact Or.inl h1
    · refine Or.inr ⟨hb, ti, SI, hv, tabKeeps.frame ht ho.size (fun k hk => ho.block k (tabKeeps.lt ht k hk) (hd k hk).2.2) hA, fun k hk => ⟨Or.inl (hd k hk).1, (hd k hk).2.1, fun h2 => ?_⟩⟩
      rcases hS' k h2 with h1 | h1
      · exact (hd k hk).2.2 h1
      · have := tabKeeps.lt ht k hk; omega
/-- The least of sizes has turned. -/
theorem HCod.least {w : World} {cb : Nat} {st : CSt} {S : Nat → Prop} (h : HCod w cb st S) (sz : List Int) : HCod (w.setCell ⟨cb, 1, none⟩ (.int .i64 (leastOf sz))) cb { st with sz := sz } S := by
  obtain ⟨h1, h2, h3, h4, to, SO, vi, h5, h6, h7, h8⟩ := h
  have hs : (w.setCell ⟨cb, 1, none⟩ (.int .i64 (leastOf sz))).heap.size = w.heap.size := by simp
  have hk : ∀ k, k ≠ cb → (w.setCell ⟨cb, 1, none⟩ (.int .i64 (leastOf sz))).heap[k]? = w.heap[k]? := fun k hk => Below.heap_setCell w ⟨cb, 1, none⟩ _ k hk
  have hA := hk 0 (fun e => h4 (e ▸ h2))
  refine ⟨h1.kept hA, h2, fun k hk' => by rw [hs]; exact h3 k hk', h4, to, SO, vi, ?_, tabKeeps.frame h6 (by omega) (fun k hk' => hk k (h7 k hk').2) hA, h7, ?_⟩
  · rw [heap_set h5]; rfl
  · rcases h8 with h8 | ⟨hb, ti, SI, hv, ht, hd⟩
    · exact Or.inl h8
    · exact Or.inr ⟨hb, ti, SI, hv, tabKeeps.frame ht (by omega) (fun k hk' => hk k (hd k hk').2.1) hA, hd⟩
set_option maxHeartbeats 4000000 in
theorem hresize_any (cb : Nat) (st : CSt) (S : Nat → Prop) (m : Int) (w : World) (hC : HCod w cb st S) (hF : HFit st) :
    Calls Tryd.prog 8 #[.pointer (some ⟨cb, 0, none⟩), .int .i64 m] w fun e w' => Off S w w' ∧ ∃ S', (∀ k, S' k → S k ∨ w.heap.size ≤ k) ∧
      ((0 ≤ m ∧ m ≤ 4096 ∧ e = .returned .nilIface ∧ HCod w' cb { st with mo := m, AO := st.AO.take (keepN st.AO m st.AO.length), sz := st.sz ++ [m] } S') ∨ (¬ (0 ≤ m ∧ m ≤ 4096) ∧ e = .returned (.iface 49 (.int .i64 1)) ∧ HCod w' cb st S')) := by
  obtain ⟨to, SO, vi, hh, hT, hS, hin⟩ := hC.cells
  have c2 : w.cell? ⟨cb, 2, none⟩ = some (.pointer (some ⟨to, 0, none⟩)) := (cell_at hh 2).trans rfl
  have hrs := tresize to st.mo st.AO SO m w hT hF.out
  have HC := hide hC
  have HH := hide hh
  have HS := hide hS
  have HI := hide hin
  have HF := hide hF
  clear hC hh hS hin hT hF
  go_enter Tryd.func8, Tryd.ntmps8
  go_wp2_with fail
  refine hrs.mono ?_
  rintro e w1 ⟨ho, SO', hS', ⟨h0, h1, rfl, hT1⟩ | ⟨hno, rfl, hT1⟩⟩
  · have HC1 := hide (HC.out.turn HH.out HS.out HI.out ho m _ hT1 hS')
    have hO1 : Off S w w1 := ho.mono (fun k hk => (HS.out k hk).1)
    have hss : ∀ k, S k ∨ SO' k → S k ∨ w.heap.size ≤ k := fun k hk => by
      rcases hk with hk | hk
      · exact Or.inl hk
      · rcases hS' k hk with h | h
        · exact Or.inl (HS.out k h).1
        · exact Or.inr h
    have hh1 : w1.heap[cb]? = some (.cells #[.int .i64 st.most, .int .i64 (leastOf st.sz), .pointer (some ⟨to, 0, none⟩), vi] 46 (0, 0)) := (ho.block cb (HC.out.hlt cb HC.out.hcb) (fun hs => (HS.out cb hs).2 rfl)).trans HH.out
    have k1 : w1.cell? ⟨cb, 1, none⟩ = some (.int .i64 (leastOf st.sz)) := (cell_at hh1 1).trans rfl
    have f1 : w1.frozen? ⟨cb, 1, none⟩ = false := frozen_at hh1 1
    have HSS := hide hss
    have HO1 := hide hO1
    have hneg := leastOf_neg st.sz HF.out.hsz
    have hsn : st.sz ≠ [] → leastOf (st.sz ++ [m]) = if m < leastOf st.sz then m else leastOf st.sz := leastOf_snoc st.sz m
    have hs1 : st.sz = [] → leastOf (st.sz ++ [m]) = m := fun e => by rw [e]; exact leastOf_one m
    have HL := hide (fun (l : Int) (e : leastOf (st.sz ++ [m]) = l) => e ▸ HC1.out.least (st.sz ++ [m]))
    have HL2 : Hid (leastOf (st.sz ++ [m]) = leastOf st.sz → HCod w1 cb { st with mo := m, AO := st.AO.take (keepN st.AO m st.AO.length), sz := st.sz ++ [m] } (fun k => S k ∨ SO' k)) := fun e => by
      obtain ⟨p1, p2, p3, p4, p5, p6, p7, p8, p9⟩ := HC1.out
      exact ⟨p1, p2, p3, p4, p5, p6, p7, by rw [show leastOf ({ st with mo := m, AO := st.AO.take (keepN st.AO m st.AO.length), sz := st.sz ++ [m] } : CSt).sz = leastOf st.sz from e]; exact p8, p9⟩
    have hcase : (leastOf st.sz = -1 ∧ leastOf (st.sz ++ [m]) = m) ∨ (leastOf st.sz ≠ -1 ∧ m < leastOf st.sz ∧ leastOf (st.sz ++ [m]) = m) ∨ (leastOf st.sz ≠ -1 ∧ ¬ m < leastOf st.sz ∧ leastOf (st.sz ++ [m]) = leastOf st.sz) := by
      by_cases e : st.sz = []
      · exact Or.inl ⟨hneg.2 e, hs1 e⟩
      · have hne : leastOf st.sz ≠ -1 := fun h => e (hneg.1 h)
        have := hsn e
        by_cases h : m < leastOf st.sz
        · rw [if_pos h] at this; exact Or.inr (Or.inl ⟨hne, h, this⟩)
        · rw [if_neg h] at this; exact Or.inr (Or.inr ⟨hne, h, this⟩)
    clear hneg hsn hs1 hrs ho hO1 hss hT1 hS' hh1
    generalize leastOf st.sz = l at *
    rcases hcase with ⟨rfl, e1⟩ | ⟨hne, hlt, e1⟩ | ⟨hne, hlt, e1⟩
    · have E := hide e1
      clear e1
      go_wp2
      go_ret
      exact ⟨HO1.out.setCell cb 1 HC.out.hcb _, fun k => S k ∨ SO' k, HSS.out, Or.inl ⟨h0, h1, rfl, HL.out m E.out⟩⟩
    · have hb : (l == -1) = false := by simpa using hne
      have E := hide e1
      clear e1
      go_wp2
      go_ret
      exact ⟨HO1.out.setCell cb 1 HC.out.hcb _, fun k => S k ∨ SO' k, HSS.out, Or.inl ⟨h0, h1, rfl, HL.out m E.out⟩⟩
    · have hb : (l == -1) = false := by simpa using hne
      have E := hide e1
      clear e1
      go_wp2
      go_ret
      exact ⟨HO1.out, fun k => S k ∨ SO' k, HSS.out, Or.inl ⟨h0, h1, rfl, HL2.out E.out⟩⟩
  · have HC1 := hide (HC.out.turn HH.out HS.out HI.out ho st.mo st.AO hT1 hS')
    have hO1 : Off S w w1 := ho.mono (fun k hk => (HS.out k hk).1)
    have hss : ∀ k, S k ∨ SO' k → S k ∨ w.heap.size ≤ k := fun k hk => by
      rcases hk with hk | hk
      · exact Or.inl hk
      · rcases hS' k hk with h | h
        · exact Or.inl (HS.out k h).1
        · exact Or.inr h
    clear hrs ho hT1 hS'
    go_wp2
    go_ret
    exact ⟨hO1, fun k => S k ∨ SO' k, hss, Or.inr ⟨hno, rfl, HC1.out⟩⟩
end Go.Proofs.YtkjfhgoddhigmacDoor
