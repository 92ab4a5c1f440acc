/-
  CONTRACT of the method Add of the developers' table; all its contracts together. No claim by itself.
-/
import Derived.Test.YtkjfhgoddhigmacGreatDoorM05
import Derived.Test.YtkjfhgoddhigmacGreatDoorM08
import Derived.Test.YtkjfhgoddhigmacGreatDoorM09
namespace Go.Proofs.YtkjfhgoddhigmacGreatDoor
open Go.RowKit
set_option maxRecDepth 100000 in
set_option maxHeartbeats 4000000 in
theorem add_over (tb : Nat) (max : Int) (A : List (ByteArray × ByteArray)) (S : Nat → Prop) (n v : ByteArray) (w : World) (hD : TabP w tb max A S) (hF : Fit max A) (hnv : n.size + v.size ≤ 1152921504606846976) (hgt0 : max < (fsize (n, v) : Int)) :
    Calls Tryz.prog 45 #[.pointer (some ⟨tb, 0, none⟩), .agg #[.string n, .string v]] w fun e w' => e = .returned (.bool false) ∧ Off S w w' ∧ TabP w' tb max [] S := by
  have hw : weight A ≤ 4096 := by have h1 := hF.h1; have h2 := hF.h2; omega
  obtain ⟨W1, hW1⟩ : ∃ W1, W1 = (w.alloc (.cells #[.string n, .string v] 60)).alloc (.cells #[.string n, .string v] 60) := ⟨_, rfl⟩
  have hb1 : Below w.heap.size w W1 := by rw [hW1]; exact ((Below.refl _ _).alloc (Nat.le_refl _) _).alloc (by simp) _
  have hD1 := tabKeeps.below hD hb1
  have c0 : W1.cell? ⟨tb, 0, none⟩ = some (.int .i64 max) := by
    obtain ⟨_, v1, hb, _⟩ := hD1
    rw [cell_at hb]; rfl
  have hsh := shrink_any tb max 0 A S W1 hD1 hw (Int.le_refl _)
  rw [keepN_zero A A.length (Nat.le_refl _), List.take_zero] at hsh
  obtain ⟨y, hy⟩ : ∃ y, fsize (n, v) = y := ⟨_, rfl⟩
  rw [hy] at hgt0
  have HY := hide hy
  have HB := hide hb1
  have HSH := hide hsh
  have hgt : decide (max < (y : Int)) = true := by simpa using hgt0
  clear hD hD1 hy hF hw hb1 hsh
  go_enter Tryz.func45, Tryz.ntmps45
  go_wp2_with fail
  refine (sizeof_any n v _ hnv).mono ?_
  rintro e w' ⟨rfl, rfl⟩
  rw [HY.out, ← hW1]
  clear hW1
  go_wp2_with fail
  refine HSH.out.mono ?_
  rintro e w2 ⟨rfl, hoff, hD2⟩
  have HO := hide hoff
  have HD2 := hide hD2
  clear hoff hD2
  go_wp2
  go_ret
  exact ⟨rfl, (Off.of_below HB.out).trans HO.out, HD2.out⟩
end Go.Proofs.YtkjfhgoddhigmacGreatDoor
/-
  CONTRACT of the method Add of the developers' table, where a field fits; all its contracts together. No claim by itself.
-/
namespace Go.Proofs.YtkjfhgoddhigmacGreatDoor
open Go.RowKit
/-- What a table is once a field was laid at the front of its list. -/
theorem tab_added {w2 W3 w4 : World} {tb g cap y : Nat} {max : Int} {B : List (ByteArray × ByteArray)} {n v : ByteArray} {s : Value} {cur : Array Value} (hal : Alw w2) (hb3 : Below w2.heap.size w2 W3)
    (hb2 : w2.heap[tb]? = some (.cells #[.int .i64 max, .int .i64 (weight B : Int), s] 73 (0, 0))) (ho : Off (fun k => s.ownBlock = some k) W3 w4) (hlt : ∀ k, s.ownBlock = some k → k < w2.heap.size ∧ k ≠ tb ∧ 1 ≠ k)
    (ht : w4.heap[tb]? = some (.cells #[.int .i64 max, .int .i64 (weight B : Int), s] 73 (0, 0))) (hg : s.ownBlock = some g ∨ W3.heap.size ≤ g) (hh : w4.heap[g]? = some (.cells cur 60 (0, 0)))
    (k1 : B.length + 1 ≤ cap) (k2 : cap ≤ maxLen) (k3 : cur.size = cap * 2) (k4 : cur.toList.take ((B.length + 1) * 2) = fcells ((n, v) :: B)) (hy : fsize (n, v) = y) :
    TabP ((w4.setCell ⟨tb, 2, none⟩ (.slice (some ⟨g, 0, none⟩) (B.length + 1) cap)).setCell ⟨tb, 1, none⟩ (.int .i64 ((weight B : Int) + (y : Int)))) tb max ((n, v) :: B) (fun k => k = tb ∨ k = g) := by
  have hat : 1 ≠ tb := hal.ne (i := (weight B : Int)) (k := .i64) (by rw [cell_at hb2]; rfl)
  have hs3 := hb3.size
  have htl := lt_of_heap hb2
  have hgt : g ≠ tb := by
    rcases hg with h | h
    · exact (hlt g h).2.1
    · omega
  have hga : 1 ≠ g := by
    have := hal.pos
    rcases hg with h | h
    · exact (hlt g h).2.2
    · omega
  have hal4 : Alw w4 := ((hal.below hb3).kept (ho.block _ (hal.below hb3).pos (fun h => (hlt _ h).2.2 rfl)))
  refine ⟨(hal4.kept (Below.heap_setCell w4 ⟨tb, 2, none⟩ _ _ hat)).kept (Below.heap_setCell _ ⟨tb, 1, none⟩ _ _ hat), _, by rw [heap_set (heap_set ht _), weight_cons, hy, Int.add_comm, ← Int.natCast_add]; rfl, Or.inr ⟨g, cap, cur, rfl, hga, hgt, ?_, k1, k2, k3, k4⟩, fun k => ?_⟩
  · exact (Below.heap_setCell _ ⟨tb, 1, none⟩ _ g hgt).trans ((Below.heap_setCell w4 ⟨tb, 2, none⟩ _ g hgt).trans hh)
  · simp [Value.ownBlock, eq_comm]
set_option maxRecDepth 100000 in
set_option maxHeartbeats 4000000 in
theorem add_fits (tb : Nat) (max : Int) (A : List (ByteArray × ByteArray)) (S : Nat → Prop) (n v : ByteArray) (w : World) (hD : TabP w tb max A S) (hF : Fit max A) (hnv : n.size + v.size ≤ 1152921504606846976) (hle : (fsize (n, v) : Int) ≤ max) :
    Calls Tryz.prog 45 #[.pointer (some ⟨tb, 0, none⟩), .agg #[.string n, .string v]] w fun e w' => e = .returned (.bool true) ∧ Off S w w' ∧ ∃ S', TabP w' tb max ((n, v) :: A.take (keepN A (max - (fsize (n, v) : Int)) A.length)) S' ∧ ∀ k, S' k → S k ∨ w.heap.size ≤ k := by
  have hw : weight A ≤ 4096 := by have h1 := hF.h1; have h2 := hF.h2; omega
  have hm1 := hF.h1
  obtain ⟨W1, hW1⟩ : ∃ W1, W1 = (w.alloc (.cells #[.string n, .string v] 60)).alloc (.cells #[.string n, .string v] 60) := ⟨_, rfl⟩
  have hb1 : Below w.heap.size w W1 := by rw [hW1]; exact ((Below.refl _ _).alloc (Nat.le_refl _) _).alloc (by simp) _
  have hx1 : W1.heap[w.heap.size]? = some (.cells #[.string n, .string v] 60 (0, 0)) := by
    rw [hW1, heap_alloc_old _ _ (by simp)]; exact heap_new _ _
  have hnS : ¬ S w.heap.size := fun hs => by have := tabKeeps.lt hD _ hs; omega
  have hD1 := tabKeeps.below hD hb1
  have c0 : W1.cell? ⟨tb, 0, none⟩ = some (.int .i64 max) := by
    obtain ⟨_, v1, hb, _⟩ := hD1
    rw [cell_at hb]; rfl
  obtain ⟨y, hy⟩ : ∃ y, fsize (n, v) = y := ⟨_, rfl⟩
  rw [hy] at hle ⊢
  have hroom : 0 ≤ max - (y : Int) := by omega
  have hsh := shrink_any tb max (max - y) A S W1 hD1 hw hroom
  have hfit := keepN_fits A (max - y) hroom A.length
  generalize A.take (keepN A (max - y) A.length) = B at *
  have hBl := weight_len B
  have hgt : decide (max < (y : Int)) = false := by simp; omega
  have hy0 : (0 : Int) ≤ (y : Int) := by omega
  have HY := hide hy
  have HB := hide hb1
  have HSH := hide hsh
  have HX := hide hx1
  clear hD hD1 hy hF hb1 hsh hx1
  go_enter Tryz.func45, Tryz.ntmps45
  go_wp2_with fail
  refine (sizeof_any n v _ hnv).mono ?_
  rintro e w' ⟨rfl, rfl⟩
  rw [HY.out, ← hW1]
  clear hW1
  go_wp2_with fail
  refine HSH.out.mono ?_
  rintro e w2 ⟨rfl, hoff, hD2⟩
  have hs2 := hoff.size
  have hx2 : w2.heap[w.heap.size]? = some (.cells #[.string n, .string v] 60 (0, 0)) := (hoff.block _ (lt_of_heap HX.out) hnS).trans HX.out
  have b0 : w2.cell? ⟨w.heap.size, 0, none⟩ = some (.string n) := by rw [cell_at hx2]; rfl
  have b1 : w2.cell? ⟨w.heap.size, 1, none⟩ = some (.string v) := by rw [cell_at hx2]; rfl
  obtain ⟨hal2, s, hb2, hl2, hS2⟩ := hD2
  have htb2 := lt_of_heap hb2
  have hbl := lt_of_heap hx2
  have d2 : w2.cell? ⟨tb, 2, none⟩ = some s := by rw [cell_at hb2]; rfl
  have hb3 : Below w2.heap.size w2 (w2.alloc (.cells #[.string n, .string v] 60)).drew := ((Below.refl _ _).alloc (Nat.le_refl _) _).drew
  have hins := ins_any tb s B n v w2.heap.size (w2.alloc (.cells #[.string n, .string v] 60)).drew (hl2.below hb3) (heap_new _ _) (fun h => by have := (hl2.lt _ h).1; omega) (by omega)
  have hts : s.ownBlock ≠ some tb := fun h => (hl2.lt _ h).2.1 rfl
  have HLT := hide hl2.lt
  have hs1 : s.oneCell' = true := by rcases hl2 with ⟨rfl, _⟩ | ⟨g, cap, cur, rfl, _⟩ <;> rfl
  have HI := hide hins
  have HB2 := hide hb2
  have HB3 := hide hb3
  have HO := hide ((Off.of_below HB.out).trans hoff)
  have HA2 := hide hal2
  have HS2 := hide hS2
  clear hins hb2 hb3 hoff hal2 hS2 hl2 hx2
  go_wp2_with fail
  go_region_with (go_at_call 61; refine HI.out.mono ?_; rintro e w4 ⟨hoff4, g, cap, cur, rfl, hg4, hh4, k1, k2, k3, k4⟩; have HT4 := hide ((hoff4.block tb (by simp; omega) hts).trans ((HB3.out.block tb htb2).trans HB2.out)); have HO4 := hide hoff4; have HG4 := hide hg4; have HH4 := hide hh4; have K4 := hide k4; have K2 := hide k2; have u2 : w4.cell? ⟨tb, 2, none⟩ = some s := (by rw [cell_at HT4.out]; rfl); have fz2 : w4.frozen? ⟨tb, 2, none⟩ = false := frozen_at HT4.out 2; clear hoff4 hg4 hh4 k4 k2)
  all_goals
    have m1 : (w4.setCell ⟨tb, 2, none⟩ (.slice (some ⟨g, 0, none⟩) (B.length + 1) cap)).cell? ⟨tb, 1, none⟩ = some (.int .i64 (weight B : Int)) := by
      rw [World.cell?_setCell_other _ ⟨tb, 2, none⟩ ⟨tb, 1, none⟩ _ (by simp), cell_at HT4.out]; rfl
    have mf : (w4.setCell ⟨tb, 2, none⟩ (.slice (some ⟨g, 0, none⟩) (B.length + 1) cap)).frozen? ⟨tb, 1, none⟩ = false := by rw [World.frozen?_setCell]; exact frozen_at HT4.out 1
    go_wp2
    go_ret
    refine ⟨rfl, ?_, fun k => k = tb ∨ k = g, ?_, ?_⟩
    · exact (((HO.out.trans (Off.of_below HB3.out)).trans (HO4.out.mono (fun k hk => (HS2.out k).2 (Or.inr hk)))).setCell tb 2 ((HS2.out tb).2 (Or.inl rfl)) _).setCell tb 1 ((HS2.out tb).2 (Or.inl rfl)) _
    · exact tab_added HA2.out HB3.out HB2.out HO4.out HLT.out HT4.out HG4.out HH4.out k1 K2.out k3 K4.out HY.out
    · rintro k (rfl | rfl)
      · exact Or.inl ((HS2.out _).2 (Or.inl rfl))
      · rcases HG4.out with h | h
        · exact Or.inl ((HS2.out _).2 (Or.inr h))
        · right; simp at h; omega
theorem tadd : TAddSaid TabP := by
  intro tb max A S n v w hD hF hnv
  by_cases hgt : max < (fsize (n, v) : Int)
  · have e : addL A (n, v) max = (false, []) := by unfold addL; rw [if_pos hgt]
    rw [e]
    refine (add_over tb max A S n v w hD hF hnv hgt).mono ?_
    rintro e w' ⟨rfl, h1, h2⟩
    exact ⟨rfl, h1, S, h2, fun k hk => Or.inl hk⟩
  · have e : addL A (n, v) max = (true, (n, v) :: A.take (keepN A (max - fsize (n, v)) A.length)) := by unfold addL; rw [if_neg hgt]
    rw [e]
    exact add_fits tb max A S n v w hD hF hnv (by omega)
/-- A table, by the name that the laws' texts use. -/
abbrev tabD : TabD := TabP
end Go.Proofs.YtkjfhgoddhigmacGreatDoor
/-
  THE CODER as the developers laid it out in memory; New and Resize. No claim by itself.
-/
namespace Go.Proofs.YtkjfhgoddhigmacGreatDoor
open Go.RowKit
set_option maxRecDepth 100000
theorem Off.trans2 {S S' : Nat → Prop} {a b c : World} (h : Off S a b) (k : Off S' b c) (hS : ∀ i, S' i → S i ∨ a.heap.size ≤ i) : Off S a c :=
  ⟨k.os.trans h.os, k.tape.trans h.tape, k.output.trans h.output, Nat.le_trans h.size k.size, fun i hi hn => (k.block i (Nat.lt_of_lt_of_le hi h.size) (fun hs => by rcases hS i hs with h1 | h1; exact hn h1; omega)).trans (h.block i hi hn)⟩
/-- A table does not own what is always there. -/
theorem tab_al {w : World} {tb : Nat} {max : Int} {A : List (ByteArray × ByteArray)} {S : Nat → Prop} (h : TabP w tb max A S) : ¬ S 1 := by
  obtain ⟨ha, v, h1, h2, h3⟩ := h
  intro hs
  rcases (h3 _).1 hs with e | e
  · have hc : w.cell? ⟨tb, 1, none⟩ = some (.int .i64 (weight A : Int)) := (cell_at h1 1).trans rfl
    exact ha.ne hc e
  · rcases h2 with ⟨rfl, _⟩ | ⟨g, cap, cur, rfl, a1, _⟩
    · simp [Value.ownBlock] at e
    · simp [Value.ownBlock] at e
      exact a1 e.symm
theorem tab_own {w : World} {tb : Nat} {max : Int} {A : List (ByteArray × ByteArray)} {S : Nat → Prop} (h : TabP w tb max A S) : S tb := by
  obtain ⟨_, v, _, _, h3⟩ := h
  exact (h3 tb).2 (Or.inl rfl)
/-- A coder. -/
structure HCod (w : World) (cb : Nat) (st : CSt) (S : Nat → Prop) : Prop where
  alw : Alw w
  hcb : S cb
  hlt : ∀ k, S k → k < w.heap.size
  hal : ¬ S 1
  row : ∃ to SO vi, w.heap[cb]? = some (.cells #[.int .i64 st.most, .int .i64 (leastOf st.sz), tval to, vi] 52 (0, 0)) ∧ TabP w to st.mo st.AO SO ∧ (∀ k, SO k → S k ∧ k ≠ cb) ∧
    ((st.bad = true ∧ vi = .pointer none) ∨ (st.bad = false ∧ ∃ ti SI, vi = tval ti ∧ TabP w ti st.mi st.AI SI ∧ ∀ k, SI k → S k ∧ k ≠ cb ∧ ¬ SO k))
/-- What else is known of a coder. -/
structure HFit (st : CSt) : Prop where
  out : Fit st.mo st.AO
  inn : Fit st.mi st.AI
  hmost : 0 ≤ st.most ∧ st.most ≤ 4096
  hsz : ∀ x ∈ st.sz, 0 ≤ x ∧ x ≤ 4096
  hlast : st.sz ≠ [] → st.mo = st.sz.getLastD 0
theorem HCod.frame {w w' : World} {cb : Nat} {st : CSt} {S : Nat → Prop} (h : HCod w cb st S) (hs : w.heap.size ≤ w'.heap.size) (hk : ∀ k, S k → w'.heap[k]? = w.heap[k]?) (hA : w'.heap[1]? = w.heap[1]?) : HCod w' cb st S := by
  obtain ⟨h1, h2, h3, h4, to, SO, vi, h5, h6, h7, h8⟩ := h
  refine ⟨h1.kept hA, h2, fun k hk' => Nat.lt_of_lt_of_le (h3 k hk') hs, h4, to, SO, vi, (hk cb h2).trans h5, tabKeeps.frame h6 hs (fun k hk' => hk k (h7 k hk').1) hA, h7, ?_⟩
  rcases h8 with h8 | ⟨hb, ti, SI, hv, ht, hd⟩
  · exact Or.inl h8
  · exact Or.inr ⟨hb, ti, SI, hv, tabKeeps.frame ht hs (fun k hk' => hk k (hd k hk').1) hA, hd⟩
theorem HCod.below {w w' : World} {cb : Nat} {st : CSt} {S : Nat → Prop} (h : HCod w cb st S) (hb : Below w.heap.size w w') : HCod w' cb st S :=
  h.frame hb.size (fun k hk => hb.block k (h.hlt k hk)) (hb.block _ h.alw.pos)
/-- Another coder, whose blocks are others, is as it was. -/
theorem HCod.off {w w' : World} {cb : Nat} {st : CSt} {S T : Nat → Prop} (h : HCod w cb st S) (ho : Off T w w') (hd : ∀ k, S k → ¬ T k) (hT : ¬ T 1) : HCod w' cb st S :=
  h.frame ho.size (fun k hk => ho.block k (h.hlt k hk) (hd k hk)) (ho.block _ h.alw.pos hT)
/-- What New gives. -/
def NewTold (w w' : World) (max : Int) (e : Ending) : Prop :=
  (0 ≤ max ∧ max ≤ 4096 ∧ ∃ cb S, e = .returned (.tuple #[.pointer (some ⟨cb, 0, none⟩), .nilIface]) ∧ HCod w' cb ⟨max, max, max, [], [], [], false⟩ S ∧ ∀ k, S k → w.heap.size ≤ k) ∨
  (¬ (0 ≤ max ∧ max ≤ 4096) ∧ e = .returned (.tuple #[.pointer none, .iface 53 (.int .i64 1)]))
set_option maxHeartbeats 4000000 in
theorem hnew_any (max : Int) (w : World) (hA : Alw w) : Calls Tryz.prog 4 #[.int .i64 max] w fun e w' => NewTold w w' max e ∧ Below w.heap.size w w' := by
  have hn := tnew max w hA
  have HA := hide hA
  clear hA
  go_enter Tryz.func4, Tryz.ntmps4
  go_wp2_with fail
  refine hn.mono ?_
  rintro e w1 ⟨hb1, ⟨h0, h1, to, SO, rfl, hT, hS⟩ | ⟨hno, v, rfl⟩⟩
  · clear hn
    have hn2 := tnew max w1 (HA.out.below hb1)
    have HT := hide hT
    have HS := hide hS
    clear hT hS
    go_wp2_with fail
    refine hn2.mono ?_
    rintro e w2 ⟨hb2, ⟨_, _, ti, SI, rfl, hT2, hS2⟩ | ⟨hno, v, rfl⟩⟩
    · have HT2 := hide hT2
      have HS2 := hide hS2
      clear hT2 hS2 hn2
      simp only [tval]
      go_wp2
      go_ret2
      have s1 := hb1.size
      have s2 := hb2.size
      have hal := (HA.out).pos
      have hB : Below w.heap.size w (w2.alloc (.cells #[.int .i64 max, .int .i64 (-1), tval to, tval ti] 52)) := (hb1.trans (hb2.mono s1)).alloc (by omega) _
      have hB2 : Below w2.heap.size w2 (w2.alloc (.cells #[.int .i64 max, .int .i64 (-1), tval to, tval ti] 52)) := (Below.refl _ _).alloc (Nat.le_refl _) _
      have hO2 := tabKeeps.below HT.out hb2
      refine ⟨Or.inl ⟨h0, h1, w2.heap.size, fun k => k = w2.heap.size ∨ SO k ∨ SI k, rfl, ⟨HA.out.below hB, Or.inl rfl, fun k hk => ?_, ?_, to, SO, tval ti, ?_, tabKeeps.below hO2 hB2, fun k hk => ⟨Or.inr (Or.inl hk), ?_⟩, Or.inr ⟨rfl, ti, SI, rfl, tabKeeps.below HT2.out hB2, fun k hk => ⟨Or.inr (Or.inr hk), ?_, ?_⟩⟩⟩, fun k hk => ?_⟩, hB⟩
      · simp
        rcases hk with rfl | hk | hk
        · omega
        · have := tabKeeps.lt HT.out k hk; omega
        · have := tabKeeps.lt HT2.out k hk; omega
      · rintro (e | e | e)
        · omega
        · have := HS.out _ e; omega
        · have := HS2.out _ e; omega
      · exact Array.getElem?_push_size
      · have := tabKeeps.lt HT.out k hk; omega
      · have := tabKeeps.lt HT2.out k hk; omega
      · intro hk2
        have h3 := tabKeeps.lt HT.out k hk2
        have h4 := HS2.out k hk
        omega
      · rcases hk with rfl | hk | hk
        · omega
        · exact HS.out k hk
        · have := HS2.out k hk; omega
    · exact absurd ⟨h0, h1⟩ hno
  · clear hn
    go_wp2
    go_ret2
    exact ⟨Or.inr ⟨hno, rfl⟩, hb1⟩
end Go.Proofs.YtkjfhgoddhigmacGreatDoor
