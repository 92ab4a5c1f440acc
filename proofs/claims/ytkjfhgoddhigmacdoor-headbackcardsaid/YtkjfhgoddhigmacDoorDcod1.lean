/-
  THE CODER as the developers laid it out in memory; New and Resize. No claim by itself.
-/
import Derived.Test.YtkjfhgoddhigmacDoorHst
import Derived.Test.YtkjfhgoddhigmacDoorDmath2
import Derived.Test.YtkjfhgoddhigmacDoorDtab11
namespace Go.Proofs.YtkjfhgoddhigmacDoor
open Go.RowKit
set_option maxRecDepth 100000
theorem Off.trans2 {S S' : Nat → Prop} {a b c : World} (h : Off S a b) (k : Off S' b c) (hS : ∀ i, S' i → S i ∨ a.heap.size ≤ i) : Off S a c :=
  ⟨k.os.trans h.os, k.tape.trans h.tape, k.output.trans h.output, Nat.le_trans h.size k.size, fun i hi hn => (k.block i (Nat.lt_of_lt_of_le hi h.size) (fun hs => by rcases hS i hs with h1 | h1; exact hn h1; omega)).trans (h.block i hi hn)⟩
/-- A table does not own what is always there. -/
theorem tab_al {w : World} {tb : Nat} {max : Int} {A : List (ByteArray × ByteArray)} {S : Nat → Prop} (h : TabP w tb max A S) : ¬ S 0 := by
  obtain ⟨ha, v, h1, h2, h3⟩ := h
  intro hs
  rcases (h3 _).1 hs with e | e
  · have hc : w.cell? ⟨tb, 1, none⟩ = some (.int .i64 (weight A : Int)) := (cell_at h1 1).trans rfl
    exact ha.ne hc e
  · rcases h2 with ⟨rfl, _⟩ | ⟨g, cap, cur, rfl, a1, _⟩
    · simp [Value.ownBlock] at e
    · simp [Value.ownBlock] at e
      exact a1 e.symm
theorem tab_own {w : World} {tb : Nat} {max : Int} {A : List (ByteArray × ByteArray)} {S : Nat → Prop} (h : TabP w tb max A S) : S tb := by
  obtain ⟨_, v, _, _, h3⟩ := h
  exact (h3 tb).2 (Or.inl rfl)
/-- A coder. -/
structure HCod (w : World) (cb : Nat) (st : CSt) (S : Nat → Prop) : Prop where
  alw : Alw w
  hcb : S cb
  hlt : ∀ k, S k → k < w.heap.size
  hal : ¬ S 0
  row : ∃ to SO vi, w.heap[cb]? = some (.cells #[.int .i64 st.most, .int .i64 (leastOf st.sz), tval to, vi] 46 (0, 0)) ∧ TabP w to st.mo st.AO SO ∧ (∀ k, SO k → S k ∧ k ≠ cb) ∧
    ((st.bad = true ∧ vi = .pointer none) ∨ (st.bad = false ∧ ∃ ti SI, vi = tval ti ∧ TabP w ti st.mi st.AI SI ∧ ∀ k, SI k → S k ∧ k ≠ cb ∧ ¬ SO k))
/-- What else is known of a coder. -/
structure HFit (st : CSt) : Prop where
  out : Fit st.mo st.AO
  inn : Fit st.mi st.AI
  hmost : 0 ≤ st.most ∧ st.most ≤ 4096
  hsz : ∀ x ∈ st.sz, 0 ≤ x ∧ x ≤ 4096
  hlast : st.sz ≠ [] → st.mo = st.sz.getLastD 0
theorem HCod.frame {w w' : World} {cb : Nat} {st : CSt} {S : Nat → Prop} (h : HCod w cb st S) (hs : w.heap.size ≤ w'.heap.size) (hk : ∀ k, S k → w'.heap[k]? = w.heap[k]?) (hA : w'.heap[0]? = w.heap[0]?) : HCod w' cb st S := by
  obtain ⟨h1, h2, h3, h4, to, SO, vi, h5, h6, h7, h8⟩ := h
  refine ⟨h1.kept hA, h2, fun k hk' => Nat.lt_of_lt_of_le (h3 k hk') hs, h4, to, SO, vi, (hk cb h2).trans h5, tabKeeps.frame h6 hs (fun k hk' => hk k (h7 k hk').1) hA, h7, ?_⟩
  rcases h8 with h8 | ⟨hb, ti, SI, hv, ht, hd⟩
  · exact Or.inl h8
  · exact Or.inr ⟨hb, ti, SI, hv, tabKeeps.frame ht hs (fun k hk' => hk k (hd k hk').1) hA, hd⟩
theorem HCod.below {w w' : World} {cb : Nat} {st : CSt} {S : Nat → Prop} (h : HCod w cb st S) (hb : Below w.heap.size w w') : HCod w' cb st S :=
  h.frame hb.size (fun k hk => hb.block k (h.hlt k hk)) (hb.block _ h.alw.pos)
/-- Another coder, whose blocks are others, is as it was. -/
theorem HCod.off {w w' : World} {cb : Nat} {st : CSt} {S T : Nat → Prop} (h : HCod w cb st S) (ho : Off T w w') (hd : ∀ k, S k → ¬ T k) (hT : ¬ T 0) : HCod w' cb st S :=
  h.frame ho.size (fun k hk => ho.block k (h.hlt k hk) (hd k hk)) (ho.block _ h.alw.pos hT)
/-- What New gives. -/
def NewTold (w w' : World) (max : Int) (e : Ending) : Prop :=
  (0 ≤ max ∧ max ≤ 4096 ∧ ∃ cb S, e = .returned (.tuple #[.pointer (some ⟨cb, 0, none⟩), .nilIface]) ∧ HCod w' cb ⟨max, max, max, [], [], [], false⟩ S ∧ ∀ k, S k → w.heap.size ≤ k) ∨
  (¬ (0 ≤ max ∧ max ≤ 4096) ∧ e = .returned (.tuple #[.pointer none, .iface 49 (.int .i64 1)]))
set_option maxHeartbeats 4000000 in
theorem hnew_any (max : Int) (w : World) (hA : Alw w) : Calls Tryd.prog 5 #[.int .i64 max] w fun e w' => NewTold w w' max e ∧ Below w.heap.size w w' := by
  have hn := tnew max w hA
  have HA := hide hA
  clear hA
  go_enter Tryd.func5, Tryd.ntmps5
  go_wp2_with fail
  refine hn.mono ?_
  rintro e w1 ⟨hb1, ⟨h0, h1, to, SO, rfl, hT, hS⟩ | ⟨hno, v, rfl⟩⟩
  · clear hn
    have hn2 := tnew max w1 (HA.out.below hb1)
    have HT := hide hT
    have HS := hide hS
    clear hT hS
    go_wp2_with fail
    refine hn2.mono ?_
    rintro e w2 ⟨hb2, ⟨_, _, ti, SI, rfl, hT2, hS2⟩ | ⟨hno, v, rfl⟩⟩
    · have HT2 := hide hT2
      have HS2 := hide hS2
      clear hT2 hS2 hn2
      simp only [tval]
      go_wp2
      go_ret2
      have s1 := hb1.size
      have s2 := hb2.size
      have hal := (HA.out).pos
      have hB : Below w.heap.size w (w2.alloc (.cells #[.int .i64 max, .int .i64 (-1), tval to, tval ti] 46)) := (hb1.trans (hb2.mono s1)).alloc (by omega) _
      have hB2 : Below w2.heap.size w2 (w2.alloc (.cells #[.int .i64 max, .int .i64 (-1), tval to, tval ti] 46)) := (Below.refl _ _).alloc (Nat.le_refl _) _
      have hO2 := tabKeeps.below HT.out hb2
      refine ⟨Or.inl ⟨h0, h1, w2.heap.size, fun k => k = w2.heap.size ∨ SO k ∨ SI k, rfl, ⟨HA.out.below hB, Or.inl rfl, fun k hk => ?_, ?_, to, SO, tval ti, ?_, tabKeeps.below hO2 hB2, fun k hk => ⟨Or.inr (Or.inl hk), ?_⟩, Or.inr ⟨rfl, ti, SI, rfl, tabKeeps.below HT2.out hB2, fun k hk => ⟨Or.inr (Or.inr hk), ?_, ?_⟩⟩⟩, fun k hk => ?_⟩, hB⟩
      · simp
        rcases hk with rfl | hk | hk
        · omega
        · have := tabKeeps.lt HT.out k hk; omega
        · have := tabKeeps.lt HT2.out k hk; omega
      · rintro (e | e | e)
        · omega
        · have := HS.out _ e; omega
        · have := HS2.out _ e; omega
      · exact Array.getElem?_push_size
      · have := tabKeeps.lt HT.out k hk; omega
      · have := tabKeeps.lt HT2.out k hk; omega
      · intro hk2
        have h3 := tabKeeps.lt HT.out k hk2
        have h4 := HS2.out k hk
        omega
      · rcases hk with rfl | hk | hk
        · omega
        · exact HS.out k hk
        · have := HS2.out k hk; omega
    · exact absurd ⟨h0, h1⟩ hno
  · clear hn
    go_wp2
    go_ret2
    exact ⟨Or.inr ⟨hno, rfl⟩, hb1⟩
end Go.Proofs.YtkjfhgoddhigmacDoor
