/-
  FROM THE ONE TO THE OTHER: slices.Insert of one field, wherever it is put. No claim by itself.
-/
import Derived.Shelf.Spec.SlicesInsert
import Derived.Lib.AppendZerosOnto
import Derived.Lib.Overlaps
import Derived.Maps.AppendAt
import Derived.Laws.Externs
import Derived.Deep.RegionLaw
import Derived.Lib.SliceRun
import Derived.Test.YtglmppadhlkkgagGreatDoorYstX
import Derived.Test.YtglmppadhlkkgagGreatDoorG6
import Derived.Test.YtglmppadhlkkgagGreatDoorNitoaX
import Derived.Test.YtglmppadhlkkgagGreatDoorAtoi0
import Derived.Test.YtglmppadhlkkgagGreatDoorYsownX
namespace Go.Proofs.YtglmppadhlkkgagGreatDoor
open Go Go.RowKit
set_option maxRecDepth 100000
theorem i_add (g o j : Nat) : (⟨g, o, none⟩ : Addr).add j = ⟨g, o + j, none⟩ := by unfold Addr.add; split <;> simp_all
theorem i_cell {w : World} {g : Nat} {cur : Array Value} {t : TypeId} {fr : Nat × Nat} (h : w.heap[g]? = some (.cells cur t fr)) (j : Nat) : w.cell? ⟨g, j, none⟩ = cur[j]? := cell_of_row w g j cur t fr h
theorem i_frozen {w : World} {g : Nat} {cur : Array Value} {t : TypeId} (h : w.heap[g]? = some (.cells cur t (0, 0))) (j : Nat) : w.frozen? ⟨g, j, none⟩ = false := by
  simp [World.frozen?, h]
theorem i_lt {w : World} {g : Nat} {o : Obj} (h : w.heap[g]? = some o) : g < w.heap.size := (Array.getElem?_eq_some_iff.1 h).1
theorem i_shape {w : World} {g : Nat} {cur : Array Value} {t : TypeId} {fr : Nat × Nat} (h : w.heap[g]? = some (.cells cur t fr)) : w.shape? g = some (t, cur.size) := by
  unfold World.shape?; rw [h]
theorem i_copy (w : World) (ty : TypeId) (g o dLen dCap : Nat) (a : Addr) (sLen sCap : Nat) (cur : Array Value) (t : TypeId) (cs : List Value)
    (hg : w.heap[g]? = some (.cells cur t (0, 0))) (hn : cs.length = Nat.min sLen dLen * 2)
    (hsrc : ∀ j v, cs[j]? = some v → w.cell? (a.add j) = some v) (hfit : o + cs.length ≤ cur.size) (h1 : ∀ v ∈ cs, v.oneCell' = true) :
    (Builtin.copy_ #[22, 22] ty #[.slice (some ⟨g, o, none⟩) dLen dCap, .slice (some a) sLen sCap]).run Tryz.prog w =
      .ok (goInt (Nat.min sLen dLen)) (w.setRow g (cur.toList.take o ++ cs ++ cur.toList.drop (o + cs.length)).toArray) := by
  have hl := run_loadCells_list (P := Tryz.prog) w a cs hsrc
  have hst := run_storeCells_at Tryz.prog g o t cs 0 cur w hg (by simpa using hfit) h1
  obtain ⟨i0, hi, _, hz1, _⟩ := info_parts n_infoF
  simp [Builtin.copy_, run_underlying Tryz.underlying22, Builtin.lenOf, Builtin.firstCells, sizeOf, typeInfo, hi, hz1, ← hn, hl, hst]
theorem i_cells_one (A : List (ByteArray × ByteArray)) : ∀ u ∈ fcells A, u.oneCell' = true := ycells_one A
theorem i_take {cur : Array Value} {A1 A2 : List (ByteArray × ByteArray)} {m : Nat} (hm : m = (A1 ++ A2).length) (h : cur.toList.take (m * 2) = fcells (A1 ++ A2)) : cur.toList.take (A1.length * 2) = fcells A1 ∧ ∀ (j : Nat) (u : Value), (fcells A2)[j]? = some u → cur[A1.length * 2 + j]? = some u := by
  have hl1 := fcells_len A1
  have hl2 := fcells_len A2
  have hm' : m = A1.length + A2.length := by rw [hm, List.length_append]
  constructor
  · have : (cur.toList.take (m * 2)).take (A1.length * 2) = fcells A1 := by
      rw [h, fcells_append, ← hl1, List.take_left']
      rfl
    rw [List.take_take] at this
    rw [← this]
    congr 1
    omega
  · intro j u hu
    have hj : j < (fcells A2).length := by
      rcases Nat.lt_or_ge j (fcells A2).length with h | h
      · exact h
      · rw [List.getElem?_eq_none h] at hu; cases hu
    have e : (cur.toList.take (m * 2))[A1.length * 2 + j]? = some u := by
      rw [h, fcells_append, List.getElem?_append_right (by omega), hl1, Nat.add_sub_cancel_left]
      exact hu
    rw [List.getElem?_take, if_pos (by omega), Array.getElem?_toList] at e
    exact e
/-- What the two copies leave. -/
theorem i_left {C1 C2 : Array Value} {A1 A2 : List (ByteArray × ByteArray)} {n v : ByteArray} {R : List Value} (h1 : C1.toList.take (A1.length * 2) = fcells A1) (h2 : C1.toList.drop (A1.length * 2 + 2) = fcells A2 ++ R)
    (hC2 : C2 = (C1.toList.take (A1.length * 2) ++ [Value.string n, Value.string v] ++ C1.toList.drop (A1.length * 2 + 2)).toArray) : C2.toList.take ((A1.length + A2.length + 1) * 2) = fcells (A1 ++ (n, v) :: A2) := by
  have e : fcells (A1 ++ (n, v) :: A2) = fcells A1 ++ [Value.string n, Value.string v] ++ fcells A2 := by
    rw [fcells_append, List.append_assoc]
    rfl
  have hl : (fcells (A1 ++ (n, v) :: A2)).length = (A1.length + A2.length + 1) * 2 := by rw [fcells_len]; simp; omega
  rw [hC2, h1, h2]
  show List.take _ (fcells A1 ++ [Value.string n, Value.string v] ++ (fcells A2 ++ R)) = _
  rw [← List.append_assoc, ← e, ← hl]
  exact List.take_left
theorem i_two {w w1 w2 : World} {g : Nat} (h : w.grownBy w1 (some g)) (k : w1.grownBy w2 (some g)) : w.grownBy w2 (some g) :=
  ⟨k.os.trans h.os, k.tape.trans h.tape, k.output.trans h.output, Nat.le_trans h.size k.size, fun i hi hn => (k.block i (Nat.lt_of_lt_of_le hi h.size) hn).trans (h.block i hi hn)⟩
set_option maxHeartbeats 4000000 in
theorem ins_roomk (n v : ByteArray) (vb g cap m : Nat) (A1 A2 : List (ByteArray × ByteArray)) (cur : Array Value) (w : World) (hv : w.heap[vb]? = some (.cells #[.string n, .string v] 51 (0, 0))) (hcap : cap ≤ maxLen) (hvg : vb ≠ g)
    (hg : w.heap[g]? = some (.cells cur 51 (0, 0))) (hsz : cur.size = cap * 2) (hm : m = (A1 ++ A2).length) (ht : cur.toList.take (m * 2) = fcells (A1 ++ A2)) (hk : A1.length < m) (hroom : m + 1 ≤ cap) :
    Calls Tryz.prog 115 #[.slice (some ⟨g, 0, none⟩) m cap, .int .i64 (A1.length : Int), .slice (some ⟨vb, 0, none⟩) 1 1] w fun e w' => e = .returned (.slice (some ⟨g, 0, none⟩) (m + 1) cap) ∧ w.grownBy w' (some g) ∧
      ∃ cur' : Array Value, w'.heap[g]? = some (.cells cur' 51 (0, 0)) ∧ cur'.size = cap * 2 ∧ cur'.toList.take ((m + 1) * 2) = fcells (A1 ++ (n, v) :: A2) := by
  have hcp := hcap
  unfold maxLen at hcp
  obtain ⟨i0, hi, hz0, hz1, hz2⟩ := info_parts n_infoF
  obtain ⟨ht1, ht2⟩ := i_take hm ht
  have hmm : m = A1.length + A2.length := by rw [hm, List.length_append]
  have hl2 := fcells_len A2
  obtain ⟨k, hkk⟩ : ∃ k, A1.length = k := ⟨_, rfl⟩
  rw [hkk] at ht1 ht2 hk hmm ⊢
  have hov : ∀ lb cb, (callFunc 178 #[.slice (some ⟨vb, 0, none⟩) 1 1, .slice (some ⟨g, (k + 1) * 2, none⟩) lb cb]).run Tryz.prog w = .ok (.value (.bool false)) w := fun lb cb => by
    rw [run_callFunc_extern Tryz.func178 (by kernel_rfl) (by kernel_rfl) (by kernel_rfl) (e := Extern.SlicesOverlaps.overlaps #[22, 22] #[4]) (by kernel_rfl),
      Lib.run_overlaps_apart w 22 4 51 Tryz.underlying22 2 (fun w => by simp [sizeOf, typeInfo, hi, hz1]) ⟨vb, 0, none⟩ ⟨g, (k + 1) * 2, none⟩ 1 1 lb cb hvg _ _ _ _ (i_shape hv) (i_shape hg) (by rw [hsz]; omega) (i_frozen hv 0) (i_frozen hv _)]
    rfl
  obtain ⟨C1, hC1⟩ : ∃ C1, C1 = (cur.toList.take ((k + 1) * 2) ++ fcells A2 ++ cur.toList.drop ((k + 1) * 2 + (fcells A2).length)).toArray := ⟨_, rfl⟩
  have hC1s : C1.size = cap * 2 := by
    rw [hC1]
    simp only [List.size_toArray, List.length_append, List.length_take, List.length_drop, Array.length_toList, hsz, hl2]
    omega
  have hcp1 : ∀ ty dc sc, (Builtin.copy_ #[22, 22] ty #[.slice (some ⟨g, (k + 1) * 2, none⟩) (m + 1 - (k + 1)) dc, .slice (some ⟨g, k * 2, none⟩) (m + 1 - k) sc]).run Tryz.prog w.drew = .ok (goInt (Nat.min (m + 1 - k) (m + 1 - (k + 1)))) (w.drew.setRow g C1) := fun ty dc sc => by
    rw [hC1]
    exact i_copy w.drew ty g ((k + 1) * 2) (m + 1 - (k + 1)) dc ⟨g, k * 2, none⟩ (m + 1 - k) sc cur 51 (fcells A2) hg (by rw [hl2]; simp only [Nat.min_def]; split <;> omega)
      (fun j u hu => by rw [i_add]; exact (i_cell (w := w.drew) hg _).trans (ht2 j u hu)) (by rw [hl2, hsz]; omega) (i_cells_one A2)
  obtain ⟨W1, hW1⟩ : ∃ W1, W1 = w.drew.setRow g C1 := ⟨_, rfl⟩
  have hg1 : W1.heap[g]? = some (.cells C1 51 (0, 0)) := by rw [hW1]; exact setRow_heap w.drew g cur C1 51 (0, 0) hg
  have hv1 : W1.heap[vb]? = some (.cells #[.string n, .string v] 51 (0, 0)) := by rw [hW1, setRow_other _ _ _ _ hvg]; exact hv
  obtain ⟨C2, hC2⟩ : ∃ C2, C2 = (C1.toList.take (k * 2) ++ [Value.string n, Value.string v] ++ C1.toList.drop (k * 2 + 2)).toArray := ⟨_, rfl⟩
  have hcp2 : ∀ ty dc, (Builtin.copy_ #[22, 22] ty #[.slice (some ⟨g, k * 2, none⟩) (m + 1 - k) dc, .slice (some ⟨vb, 0, none⟩) 1 1]).run Tryz.prog W1 = .ok (goInt (Nat.min 1 (m + 1 - k))) (W1.setRow g C2) := fun ty dc => by
    rw [hC2]
    exact i_copy W1 ty g (k * 2) (m + 1 - k) dc ⟨vb, 0, none⟩ 1 1 C1 51 [.string n, .string v] hg1 (by simp only [Nat.min_def]; split <;> simp; omega)
      (fun j u hu => by rw [i_add, Nat.zero_add, i_cell hv1, ← hu]; simp) (by simp; omega) (fun u hu => by simp at hu; rcases hu with rfl | rfl <;> rfl)
  have HT : Vl (C2.toList.take ((m + 1) * 2) = fcells (A1 ++ (n, v) :: A2)) := vl (by
    have e1 : C1.toList.take (A1.length * 2) = fcells A1 := by
      rw [hkk, ← ht1, hC1]
      show List.take (k * 2) (List.take ((k + 1) * 2) cur.toList ++ fcells A2 ++ _) = _
      rw [List.append_assoc, List.take_append_of_le_length (by rw [List.length_take, Array.length_toList]; omega), List.take_take]
      congr 1
      omega
    have e2 : C1.toList.drop (A1.length * 2 + 2) = fcells A2 ++ cur.toList.drop ((k + 1) * 2 + (fcells A2).length) := by
      rw [hkk, hC1]
      have hll : (cur.toList.take ((k + 1) * 2)).length = k * 2 + 2 := by rw [List.length_take, Array.length_toList]; omega
      show List.drop (k * 2 + 2) (List.take ((k + 1) * 2) cur.toList ++ fcells A2 ++ _) = _
      rw [List.append_assoc]
      exact List.drop_left' hll
    have := i_left (C2 := C2) (n := n) (v := v) e1 e2 (by rw [hkk]; exact hC2)
    rw [hkk] at this
    rw [hmm]
    exact this)
  have HC2s : Vl (C2.size = cap * 2) := vl (by
    rw [hC2]
    simp only [List.size_toArray, List.length_append, List.length_take, List.length_drop, Array.length_toList, hC1s, List.length_cons, List.length_nil]
    omega)
  have HG1 := vl hg1
  have HGW : Vl (w.grownBy W1 (some g)) := vl (by
    rw [hW1]
    have h := row_grown w.drew g C1
    exact ⟨h.os, h.tape, h.output, h.size, h.block⟩)
  rw [← hW1] at hcp1
  have hA0 : ¬ ((k : Int) = (m : Int)) := by omega
  have hA1 : ((k : Int) == (m : Int)) = false := by simp; omega
  have hw1 : IntKind.i64.wrap 1 = 1 := by decide
  have hb0 : (k : Int) ≤ (m : Int) := by omega
  have hb4 : (k : Int) + 1 ≤ (m : Int) + 1 := by omega
  have hb5 : (0 : Int) ≤ (m : Int) + 1 := by omega
  have hb6 : (0 : Int) ≤ (k : Int) + 1 := by omega
  have hb7 : (k : Int) ≤ (m : Int) + 1 := by omega
  have hb3 : (m : Int) + 1 ≤ (cap : Int) := by omega
  have hc1 : ¬ (cap = k) := by omega
  have hc2 : ¬ (cap = k + 1) := by omega
  have hc3 : ¬ (k = cap) := by omega
  have hc4 : ¬ (k + 1 = cap) := by omega
  have hd : decide ((cap : Int) < (m : Int) + 1) = false := by simp; omega
  have hn1 : ((k : Int) + 1).toNat = k + 1 := by omega
  have hwr : IntKind.i64.wrap ((k : Int) + 1) = (k : Int) + 1 := by rw [IntKind.wrap_i64]; omega
  clear hW1 ht ht1 ht2 hC1 hC2 hg hv hg1 hv1 hm hkk hC1s hsz hl2 hmm
  go_enter Tryz.func115, Tryz.ntmps115
  go_wp2_with (simp only [hov])
  go_region_law (refine step_copy_runI rfl (.tmp 73) (.tmp 76) 22 22 rfl (.slice (some ⟨g, (k + 1) * 2, none⟩) (m + 1 - (k + 1)) (cap - (k + 1))) (.slice (some ⟨g, k * 2, none⟩) (m + 1 - k) (cap - k)) (by simp [Act.eval, Act.put]) (by simp [Act.eval, Act.put]) (hcp1 _ _ _) ?_)
  go_simp
  go_wp2_with (refine wpList_copy_runI _ rfl _ _ 22 22 rfl _ _ rfl rfl (hcp2 _ _) ?_)
  go_ret
  exact ⟨rfl, i_two HGW.out (row_grown W1 g C2), C2, setRow_heap W1 g C1 C2 51 (0, 0) HG1.out, HC2s.out, HT.out⟩
theorem i_below_row {B g : Nat} {w0 w : World} (hb : Below B w0 w) (hBg : B ≤ g) (cs : Array Value) : Below B w0 (w.setRow g cs) :=
  hb.trans ⟨rfl, rfl, rfl, by simp [World.setRow], fun k hk => setRow_other w g k cs (by omega)⟩
set_option maxHeartbeats 4000000 in
theorem ins_growk (n v : ByteArray) (vb g cap m : Nat) (A1 A2 : List (ByteArray × ByteArray)) (cur : Array Value) (w : World) (hv : w.heap[vb]? = some (.cells #[.string n, .string v] 51 (0, 0)))
    (hg : w.heap[g]? = some (.cells cur 51 (0, 0))) (hm : m = (A1 ++ A2).length) (ht : cur.toList.take (m * 2) = fcells (A1 ++ A2)) (hk : A1.length < m) (hle : m ≤ cap) (hroom : cap < m + 1) (hbig : m ≤ 1099511627776) :
    Calls Tryz.prog 115 #[.slice (some ⟨g, 0, none⟩) m cap, .int .i64 (A1.length : Int), .slice (some ⟨vb, 0, none⟩) 1 1] w fun e w' => Below w.heap.size w w' ∧ ∃ G : Nat, e = .returned (.slice (some ⟨w.heap.size, 0, none⟩) (m + 1) G) ∧ m + 1 ≤ G ∧ G ≤ maxLen ∧
      ∃ cur' : Array Value, w'.heap[w.heap.size]? = some (.cells cur' 51 (0, 0)) ∧ cur'.size = G * 2 ∧ cur'.toList.take ((m + 1) * 2) = fcells (A1 ++ (n, v) :: A2) := by
  obtain ⟨i0, hi, hz0, hz1, hz2⟩ := info_parts n_infoF
  obtain ⟨ht1, ht2⟩ := i_take hm ht
  have hmm : m = A1.length + A2.length := by rw [hm, List.length_append]
  have hl1 := fcells_len A1
  have hl2 := fcells_len A2
  have hgl := i_lt hg
  have hvl := i_lt hv
  obtain ⟨k, hkk⟩ : ∃ k, A1.length = k := ⟨_, rfl⟩
  rw [hkk] at ht1 ht2 hk hmm hl1 ⊢
  have hc1 : ∀ (j : Nat) (u : Value), (fcells A1)[j]? = some u → cur[j]? = some u := fun j u hu => by
    have hj : j < (fcells A1).length := by
      rcases Nat.lt_or_ge j (fcells A1).length with h | h
      · exact h
      · rw [List.getElem?_eq_none h] at hu; cases hu
    rw [← ht1, List.getElem?_take, if_pos (by omega), Array.getElem?_toList] at hu
    exact hu
  obtain ⟨G, hG⟩ : ∃ G, G = grownCap w (m + 1) cap 51 := ⟨_, rfl⟩
  have hGn : m + 1 ≤ G := by rw [hG]; exact grownCap_ge w _ _ _
  have hGm : G ≤ maxLen := by rw [hG]; exact grownCap_le_maxLen w _ _ _ (by unfold maxLen; omega)
  obtain ⟨ROW, hROW⟩ : ∃ ROW : Array Value, ROW = (fcells A1).toArray ++ Builtin.zeroCells (Value.agg #[.string ⟨#[]⟩, .string ⟨#[]⟩]).cells (m + 1 - k) ++ Builtin.zeroCells (Value.agg #[.string ⟨#[]⟩, .string ⟨#[]⟩]).cells (G - (m + 1)) := ⟨_, rfl⟩
  have hRs : ROW.size = G * 2 := by rw [hROW]; simp [Builtin.zeroCells, Value.cells, hl1]; omega
  have hRt : ROW.toList.take (k * 2) = fcells A1 := by
    rw [hROW]
    simp only [Array.toList_append]
    rw [List.append_assoc, List.take_append_of_le_length (by simp [hl1])]
    rw [← hl1]
    exact List.take_length
  have hrz : ∀ ty, (Builtin.append_ #[22, 3] ty #[.slice (some ⟨g, 0, none⟩) k cap, .int .i64 ((m : Int) + 1 - (k : Int))]).run Tryz.prog w = .ok (.slice (some ⟨w.heap.size, 0, none⟩) (m + 1) G) (w.drew.alloc (.cells ROW 51)) := fun ty => by
    have h := Lib.run_append_grow_zeros w 22 3 ty 51 i0 _ .i64 .i64 Tryz.underlying22 Tryz.underlying3 hi hz0 (some ⟨g, 0, none⟩) k cap (fcells A1) (run_firstCells_some w.drew i0.size k ⟨g, 0, none⟩ k cap (fcells A1) (by rw [hl1, hz1]) (fun j u hu => by rw [i_add, Nat.zero_add]; exact (i_cell (w := w.drew) hg _).trans (hc1 j u hu))) (m + 1 - k) (by omega) (by omega) (by omega) (by omega) (by rw [hz2]; omega) (by rw [hz2]; exact growslice_fits (by omega) (by omega))
    rw [show k + (m + 1 - k) = m + 1 by omega, ← hG, ← hROW, show ((m + 1 - k : Nat) : Int) = (m : Int) + 1 - (k : Int) by omega] at h
    exact h
  obtain ⟨W1, hW1⟩ : ∃ W1, W1 = w.drew.alloc (.cells ROW 51) := ⟨_, rfl⟩
  have hg1 : W1.heap[w.heap.size]? = some (.cells ROW 51 (0, 0)) := by rw [hW1]; exact heap_alloc_new w.drew _
  have hb1 : Below w.heap.size w W1 := by rw [hW1]; exact ((Below.refl _ w).drew).alloc (Nat.le_refl _) _
  have hgg1 : W1.heap[g]? = some (.cells cur 51 (0, 0)) := (hb1.block g hgl).trans hg
  have hvv1 : W1.heap[vb]? = some (.cells #[.string n, .string v] 51 (0, 0)) := (hb1.block vb hvl).trans hv
  obtain ⟨C1, hC1⟩ : ∃ C1, C1 = (ROW.toList.take (k * 2) ++ [Value.string n, Value.string v] ++ ROW.toList.drop (k * 2 + 2)).toArray := ⟨_, rfl⟩
  have hcp1 : ∀ ty dc, (Builtin.copy_ #[22, 22] ty #[.slice (some ⟨w.heap.size, k * 2, none⟩) (m + 1 - k) dc, .slice (some ⟨vb, 0, none⟩) 1 1]).run Tryz.prog W1 = .ok (goInt (Nat.min 1 (m + 1 - k))) (W1.setRow w.heap.size C1) := fun ty dc => by
    rw [hC1]
    exact i_copy W1 ty w.heap.size (k * 2) (m + 1 - k) dc ⟨vb, 0, none⟩ 1 1 ROW 51 [.string n, .string v] hg1 (by simp only [Nat.min_def]; split <;> simp; omega)
      (fun j u hu => by rw [i_add, Nat.zero_add, i_cell hvv1, ← hu]; simp) (by simp; omega) (fun u hu => by simp at hu; rcases hu with rfl | rfl <;> rfl)
  have hC1s : C1.size = G * 2 := by
    rw [hC1]
    simp only [List.size_toArray, List.length_append, List.length_take, List.length_drop, Array.length_toList, hRs, List.length_cons, List.length_nil]
    omega
  obtain ⟨W2, hW2⟩ : ∃ W2, W2 = W1.setRow w.heap.size C1 := ⟨_, rfl⟩
  rw [← hW2] at hcp1
  have hg2 : W2.heap[w.heap.size]? = some (.cells C1 51 (0, 0)) := by rw [hW2]; exact setRow_heap W1 _ ROW C1 51 (0, 0) hg1
  have hgg2 : W2.heap[g]? = some (.cells cur 51 (0, 0)) := by rw [hW2, setRow_other _ _ _ _ (by omega)]; exact hgg1
  obtain ⟨C2, hC2⟩ : ∃ C2, C2 = (C1.toList.take ((k + 1) * 2) ++ fcells A2 ++ C1.toList.drop ((k + 1) * 2 + (fcells A2).length)).toArray := ⟨_, rfl⟩
  have hcp2 : ∀ ty dc sc, (Builtin.copy_ #[22, 22] ty #[.slice (some ⟨w.heap.size, (k + 1) * 2, none⟩) (m + 1 - (k + 1)) dc, .slice (some ⟨g, k * 2, none⟩) (m - k) sc]).run Tryz.prog W2.drew = .ok (goInt (Nat.min (m - k) (m + 1 - (k + 1)))) (W2.drew.setRow w.heap.size C2) := fun ty dc sc => by
    rw [hC2]
    exact i_copy W2.drew ty w.heap.size ((k + 1) * 2) (m + 1 - (k + 1)) dc ⟨g, k * 2, none⟩ (m - k) sc C1 51 (fcells A2) hg2 (by rw [hl2]; simp only [Nat.min_def]; split <;> omega)
      (fun j u hu => by rw [i_add]; exact (i_cell (w := W2.drew) hgg2 _).trans (ht2 j u hu)) (by rw [hl2, hC1s]; omega) (i_cells_one A2)
  have HC2s : Vl (C2.size = G * 2) := vl (by
    rw [hC2]
    simp only [List.size_toArray, List.length_append, List.length_take, List.length_drop, Array.length_toList, hC1s, hl2]
    omega)
  have HT : Vl (C2.toList.take ((m + 1) * 2) = fcells (A1 ++ (n, v) :: A2)) := vl (by
    have e0 : C1.toList.take ((k + 1) * 2) = fcells A1 ++ [Value.string n, Value.string v] := by
      rw [hC1, hRt]
      show List.take ((k + 1) * 2) (fcells A1 ++ [Value.string n, Value.string v] ++ _) = _
      exact List.take_left' (by rw [List.length_append, hl1]; simp; omega)
    have e : fcells (A1 ++ (n, v) :: A2) = fcells A1 ++ [Value.string n, Value.string v] ++ fcells A2 := by
      rw [fcells_append, List.append_assoc]
      rfl
    rw [hC2, e0, ← e]
    show List.take ((m + 1) * 2) (fcells (A1 ++ (n, v) :: A2) ++ _) = _
    exact List.take_left' (by rw [fcells_len]; simp; omega))
  have hb2 : Below w.heap.size w W2 := by rw [hW2]; exact i_below_row hb1 (Nat.le_refl _) _
  have HB2 := vl hb2
  have HG2 := vl hg2
  have HGm := vl hGm
  rw [← hW1] at hrz
  unfold maxLen at hGm
  have hA0 : ¬ ((k : Int) = (m : Int)) := by omega
  have hA1 : ((k : Int) == (m : Int)) = false := by simp; omega
  have hw1 : IntKind.i64.wrap 1 = 1 := by decide
  have hwr : IntKind.i64.wrap ((k : Int) + 1) = (k : Int) + 1 := by rw [IntKind.wrap_i64]; omega
  have hwm : IntKind.i64.wrap ((m : Int) + 1) = (m : Int) + 1 := by rw [IntKind.wrap_i64]; omega
  have hwn : IntKind.i64.wrap ((m : Int) + 1 - (k : Int)) = (m : Int) + 1 - (k : Int) := by rw [IntKind.wrap_i64]; omega
  have hn1 : ((k : Int) + 1).toNat = k + 1 := by omega
  have hq0 : (k : Int) ≤ (m : Int) := by omega
  have hq1 : (k : Int) + 1 ≤ (m : Int) + 1 := by omega
  have hq2 : (0 : Int) ≤ (k : Int) + 1 := by omega
  have hq3 : (k : Int) ≤ (m : Int) + 1 := by omega
  have hq4 : (k : Int) ≤ (cap : Int) := by omega
  have hq5 : ¬ (G = k) := by omega
  have hq6 : ¬ (G = k + 1) := by omega
  have hq7 : ¬ (cap = k) := by omega
  have hd : decide ((cap : Int) < (m : Int) + 1) = true := by simp; omega
  clear hW1 hW2 hROW hG hC1 hC2 hg hv hg1 hgg1 hvv1 hg2 hgg2 hb1 hb2 ht hRs hC1s hmm hm hkk hl1 hl2 ht1 ht2 hc1 hRt
  go_enter Tryz.func115, Tryz.ntmps115
  go_wp2_with (first | (at_builtin; refine Lib.wpList_append_run _ rfl _ _ _ _ rfl _ _ rfl rfl _ _ (hrz _) ?_) | (refine wpList_copy_runI _ rfl _ _ 22 22 rfl _ _ rfl rfl (hcp1 _ _) ?_))
  go_simp
  go_region_law (refine step_copy_runI rfl (.tmp 50) (.tmp 53) 22 22 rfl (.slice (some ⟨w.heap.size, (k + 1) * 2, none⟩) (m + 1 - (k + 1)) (G - (k + 1))) (.slice (some ⟨g, k * 2, none⟩) (m - k) (cap - k)) (by simp [Act.eval, Act.put]) (by simp [Act.eval, Act.put]) (hcp2 _ _ _) ?_)
  go_simp
  go_wp2
  go_ret
  exact ⟨i_below_row HB2.out.drew (Nat.le_refl _) _, G, rfl, hGn, HGm.out, C2, setRow_heap W2.drew _ C1 C2 51 (0, 0) HG2.out, HC2s.out, HT.out⟩
end Go.Proofs.YtglmppadhlkkgagGreatDoor
/-
  FROM THE ONE TO THE OTHER: slices.Insert of one field into a row of one's own. No claim by itself.
-/
namespace Go.Proofs.YtglmppadhlkkgagGreatDoor
open Go Go.RowKit
set_option maxRecDepth 100000
theorem i_one {w : World} {vb : Nat} {n v : ByteArray} (hv : w.heap[vb]? = some (.cells #[.string n, .string v] 51 (0, 0))) : FArg w (some ⟨vb, 0, none⟩) 1 1 [(n, v)] := by
  refine Or.inr ⟨vb, 0, rfl, rfl, Nat.le_refl _, by decide, fun t ht => ?_, fun t ht => ?_⟩
  · obtain rfl : t = 0 := by omega
    simp only [World.cell?, hv]
    rfl
  · obtain rfl : t = 0 := by omega
    simp only [World.cell?, hv]
    rfl
def InsE (base : Nat) (v0 : Value) (L : List (ByteArray × ByteArray)) (w : World) (e : Ending) (w' : World) : Prop := ∃ v', e = .returned v' ∧ FOwn w' base v' L ∧ w.grownBy w' v0.ownBlock
set_option maxHeartbeats 4000000 in
theorem ins_end (n v : ByteArray) (vb base m : Nat) (sa : Option Addr) (sc : Nat) (A : List (ByteArray × ByteArray)) (w : World) (hm : A.length = m) (ho : FOwn w base (.slice sa m sc) A) (hv : w.heap[vb]? = some (.cells #[.string n, .string v] 51 (0, 0))) (hbase : base ≤ w.heap.size) (hbig : m ≤ 1099511627776) :
    Calls Tryz.prog 115 #[.slice sa m sc, .int .i64 (m : Int), .slice (some ⟨vb, 0, none⟩) 1 1] w fun e w' => InsE base (.slice sa m sc) (A ++ [(n, v)]) w e w' := by
  have HO := vl ho
  have HA := vl (i_one hv)
  have hw1 : IntKind.i64.wrap 1 = 1 := by decide
  have hsl : m ≤ sc ∧ (sa = none → sc = 0) := by
    obtain ⟨_, ⟨hx, h0⟩ | ⟨g, cap, cur, hx, _, _, hc, _⟩⟩ := id ho
    · injection hx with h1 h2 h3
      exact ⟨by omega, fun _ => h3⟩
    · injection hx with h1 h2 h3
      exact ⟨by omega, fun e => by rw [e] at h1; cases h1⟩
  have hml : (m : Int) ≤ (m : Int) := Int.le_refl _
  have HM := vl hm
  clear ho hv
  cases sa with
  | none =>
    have hc0 := hsl.2 rfl
    subst hc0
    obtain rfl : m = 0 := by omega
    go_enter Tryz.func115, Tryz.ntmps115
    go_wp2_with (at_builtin; refine wpList_fapps w rfl _ _ rfl base (.slice none 0 0) A [(n, v)] (some ⟨vb, 0, none⟩) 1 1 rfl HO.out rfl (fun h => by cases h) HA.out (by have := HM.out; omega) hbase ?_)
    intro v' w' ho' hg'
    go_wp2_with fail
    go_ret
    exact ⟨_, rfl, ho', hg'⟩
  | some ad =>
    have hcx := hsl.1
    go_enter Tryz.func115, Tryz.ntmps115
    go_wp2_with (at_builtin; refine wpList_fapps w rfl _ _ rfl base (.slice (some ad) m sc) A [(n, v)] (some ⟨vb, 0, none⟩) 1 1 rfl HO.out rfl (fun h => by cases h) HA.out (by have := HM.out; omega) hbase ?_)
    all_goals
      intro v' w' ho' hg'
      go_wp2_with fail
      go_ret
      exact ⟨_, rfl, ho', hg'⟩
theorem xins_any (n v : ByteArray) (vb base m : Nat) (sa : Option Addr) (sc : Nat) (A1 A2 : List (ByteArray × ByteArray)) (w : World) (hm : (A1 ++ A2).length = m) (ho : FOwn w base (.slice sa m sc) (A1 ++ A2)) (hv : w.heap[vb]? = some (.cells #[.string n, .string v] 51 (0, 0))) (hvs : (Value.slice sa m sc).ownBlock ≠ some vb) (hbase : base ≤ w.heap.size) (hbig : m ≤ 1099511627776) :
    Calls Tryz.prog 115 #[.slice sa m sc, .int .i64 (A1.length : Int), .slice (some ⟨vb, 0, none⟩) 1 1] w fun e w' => InsE base (.slice sa m sc) (A1 ++ (n, v) :: A2) w e w' := by
  cases A2 with
  | nil =>
    rw [List.append_nil] at hm ho
    rw [hm]
    exact ins_end n v vb base m sa sc A1 w hm ho hv hbase hbig
  | cons x A2 =>
    have hk : A1.length < m := by rw [← hm]; simp
    obtain ⟨h1, ⟨hx, h0⟩ | ⟨g, cap, cur, hx, hbg, hg, hc, hmx, hsz, htk⟩⟩ := id ho
    · injection hx with h1 h2 h3
      omega
    · injection hx with e1 e2 e3
      subst e1 e3
      rw [hm] at htk hc
      have hvg : vb ≠ g := fun e => hvs (by rw [e]; rfl)
      by_cases hr : m + 1 ≤ sc
      · refine (ins_roomk n v vb g sc m A1 (x :: A2) cur w hv hmx hvg hg hsz hm.symm htk hk hr).mono ?_
        rintro e w' ⟨rfl, hgr, cur', hg', hs', ht'⟩
        exact ⟨_, rfl, ⟨by rw [fcells_len], .inr ⟨g, sc, cur', by rw [show (A1 ++ (n, v) :: x :: A2).length = m + 1 by rw [← hm]; simp; omega], hbg, hg', by rw [show (A1 ++ (n, v) :: x :: A2).length = m + 1 by rw [← hm]; simp; omega]; exact hr, hmx, hs', by rw [show (A1 ++ (n, v) :: x :: A2).length = m + 1 by rw [← hm]; simp; omega]; exact ht'⟩⟩, hgr⟩
      · refine (ins_growk n v vb g sc m A1 (x :: A2) cur w hv hg hm.symm htk hk hc (by omega) hbig).mono ?_
        rintro e w' ⟨hb, G, rfl, h3, h4, cur', hg', hs', ht'⟩
        exact ⟨_, rfl, ⟨by rw [fcells_len], .inr ⟨w.heap.size, G, cur', by rw [show (A1 ++ (n, v) :: x :: A2).length = m + 1 by rw [← hm]; simp; omega], hbase, hg', by rw [show (A1 ++ (n, v) :: x :: A2).length = m + 1 by rw [← hm]; simp; omega]; exact h3, h4, hs', by rw [show (A1 ++ (n, v) :: x :: A2).length = m + 1 by rw [← hm]; simp; omega]; exact ht'⟩⟩, ⟨hb.os, hb.tape, hb.output, hb.size, fun i hi _ => hb.block i hi⟩⟩
end Go.Proofs.YtglmppadhlkkgagGreatDoor
/-
  FROM THE ONE TO THE OTHER: slices.IndexFunc and slices.ContainsFunc at fields; the developers' mayBeAsked. No claim by itself.
-/
namespace Go.Proofs.YtglmppadhlkkgagGreatDoor
open Go Go.RowKit Go.Maps
set_option maxRecDepth 100000
def IdxR (p : Fd → Bool) (L : List (ByteArray × ByteArray)) (r : Int) : Prop :=
  (r = -1 ∧ (fdsOf L).any p = false) ∨ ∃ k : Nat, r = k ∧ k < L.length ∧ (fdsOf L).findIdx p = k ∧ (fdsOf L).any p = true
theorem fds_getE {L : List (ByteArray × ByteArray)} {k : Nat} (h : k < L.length) : (fdsOf L)[k]'(by rw [fds_len]; exact h) = (unums (L.getD k fnone).1, unums (L.getD k fnone).2) := by
  unfold fdsOf
  rw [List.getElem_map, List.getD, List.getElem?_eq_getElem h]
  rfl
theorem idx_hit {p : Fd → Bool} {L : List (ByteArray × ByteArray)} {k : Nat} (h : k < L.length) (hn : ∀ t, t < k → p (unums (L.getD t fnone).1, unums (L.getD t fnone).2) = false) (hy : p (unums (L.getD k fnone).1, unums (L.getD k fnone).2) = true) : IdxR p L (k : Nat) := by
  have hk : k < (fdsOf L).length := by rw [fds_len]; exact h
  refine Or.inr ⟨k, rfl, h, (List.findIdx_eq hk).2 ⟨by rw [fds_getE h]; exact hy, fun j hj => by rw [fds_getE (by omega)]; exact hn j hj⟩, List.any_eq_true.2 ⟨_, List.getElem_mem hk, by rw [fds_getE h]; exact hy⟩⟩
theorem idx_miss {p : Fd → Bool} {L : List (ByteArray × ByteArray)} (hn : ∀ t, t < L.length → p (unums (L.getD t fnone).1, unums (L.getD t fnone).2) = false) : IdxR p L (-1) := by
  refine Or.inl ⟨rfl, List.any_eq_false.2 fun f hf => ?_⟩
  obtain ⟨i, hi, rfl⟩ := List.getElem_of_mem hf
  rw [fds_len] at hi
  rw [fds_getE hi, hn i hi]
  exact Bool.noConfusion
set_option maxHeartbeats 2000000 in
theorem xidx_row (g off len cap : Nat) (L : List (ByteArray × ByteArray)) (F : Value) (p : Fd → Bool) (w : World) (hr : FRow w g off len cap L) (hl : len ≤ 4294967296) (hs : ∀ t, (L.getD t fnone).1.size ≤ 140737488351232) (hF : PrdF w F p) :
    Calls Tryz.prog 113 #[.slice (some ⟨g, off, none⟩) len cap, F] w fun e w' => (∃ r, e = .returned (.int .i64 r) ∧ IdxR p L r) ∧ Below w.heap.size w w' := by
  obtain ⟨gf, lb, rfl, eg, HC0⟩ := hF
  have HC := vl HC0
  have HR := vl hr
  have HS := vl hs
  have hcap := hr.hcap
  have hmax := hr.hmax
  unfold maxLen at hmax
  have hLl := hr.hlen
  clear HC0 hr hs
  go_enter Tryz.func113, Tryz.ntmps113
  go_wp2_with fail
  go_loopw [8] (fun i wr => ∃ k : Nat, i = .int .i64 k ∧ k ≤ len ∧ Vl (∀ t, t < k → p (unums (L.getD t fnone).1, unums (L.getD t fnone).2) = false) ∧ Vl (Below w.heap.size w wr)) (fun i _ => len - (intOf i).toNat)
  case atStart => exact ⟨0, rfl, by omega, fun t ht => by omega, Below.refl _ _⟩
  case round =>
    obtain ⟨k, rfl, hk, HK, HB⟩ := hrel
    by_cases hlt : k < len
    · have hlt' : (k : Int) < (len : Int) := by omega
      have hr2 := HR.out.below HB.out
      have c1 := hr2.hname k hlt
      have c2 := hr2.hvalue k hlt
      have hsz := HS.out k
      have HIT := vl (fun hy => idx_hit (p := p) (L := L) (k := k) (by omega) HK.out hy)
      generalize hf : L.getD k fnone = f at *
      have HF := vl hf
      obtain ⟨n, v⟩ := f
      clear hr2 hf
      have H := vl (HC.out wr n v hsz HB.out)
      have hszr : w.heap.size ≤ wr.heap.size := HB.out.size
      obtain ⟨b, hb⟩ : ∃ b, p (unums n, unums v) = b := ⟨_, rfl⟩
      have HBB := vl hb
      rw [hb] at H
      clear hb
      go_wp2_with fail
      refine H.out.mono ?_
      rintro e w1 ⟨rfl, hb1⟩
      have HB2 : Vl (Below w.heap.size w w1) := HB.out.trans (hb1.mono hszr)
      clear H hb1 HB c1 c2
      cases b with
      | true =>
        have HI := vl (HIT.out HBB.out)
        go_wp2_with fail
        go_ret
        exact ⟨⟨_, rfl, HI.out⟩, HB2.out⟩
      | false =>
        go_wp2_with fail
        go_roundw
        case rel => exact ⟨k + 1, by go_num, by omega, vl (fun t ht => by
          by_cases e : t = k
          · rw [e, HF.out]; exact HBB.out
          · exact HK.out t (by omega)), HB2⟩
        case measure => simp [intOf]; omega
    · have hke : k = len := by omega
      subst hke
      have HI := vl (idx_miss (p := p) (L := L) (by rw [hLl]; exact HK.out))
      go_wp2_with fail
      go_ret
      exact ⟨⟨_, rfl, HI.out⟩, HB.out⟩
theorem xidx_any (a : Option Addr) (len cap : Nat) (L : List (ByteArray × ByteArray)) (F : Value) (p : Fd → Bool) (w : World) (hA : FArg w a len cap L) (hl : len ≤ 4294967296) (hs : ∀ t, (L.getD t fnone).1.size ≤ 140737488351232) (hF : PrdF w F p) :
    Calls Tryz.prog 113 #[.slice a len cap, F] w fun e w' => (∃ r, e = .returned (.int .i64 r) ∧ IdxR p L r) ∧ Below w.heap.size w w' := by
  rcases hA with ⟨rfl, rfl⟩ | ⟨g, off, rfl, hr⟩
  · have HI := vl (idx_miss (p := p) (L := []) (fun t ht => by simp at ht))
    go_enter Tryz.func113, Tryz.ntmps113
    go_wp2_with fail
    go_loopw [8] (fun i wr => i = .int .i64 0 ∧ wr = w) (fun _ _ => 0)
    case atStart => exact ⟨rfl, rfl⟩
    case round =>
      obtain ⟨rfl, rfl⟩ := hrel
      go_wp2_with fail
      go_ret
      exact ⟨⟨_, rfl, HI.out⟩, Below.refl _ _⟩
  · exact xidx_row g off len cap L F p w hr hl hs hF
theorem xcont_any (a : Option Addr) (len cap : Nat) (L : List (ByteArray × ByteArray)) (F : Value) (p : Fd → Bool) (w : World) (hA : FArg w a len cap L) (hl : len ≤ 4294967296) (hs : ∀ t, (L.getD t fnone).1.size ≤ 140737488351232) (hF : PrdF w F p) :
    Calls Tryz.prog 91 #[.slice a len cap, F] w fun e w' => e = .returned (.bool ((fdsOf L).any p)) ∧ Below w.heap.size w w' := by
  have HI := vl (xidx_any a len cap L F p w hA hl hs hF)
  clear hA hs hF
  go_enter Tryz.func91, Tryz.ntmps91
  go_wp2_with fail
  refine HI.out.mono ?_
  rintro e w1 ⟨⟨r, rfl, hr⟩, hb⟩
  rcases hr with ⟨rfl, hr⟩ | ⟨k, rfl, _, _, hr⟩
  · have HR := vl hr
    clear hr
    go_wp2_with fail
    go_ret
    exact ⟨by rw [HR.out]; rfl, hb⟩
  · have h0 : (0 : Int) ≤ (k : Int) := by omega
    have HR := vl hr
    clear hr
    go_wp2_with fail
    go_ret
    exact ⟨by rw [HR.out]; simp, hb⟩
theorem xmay1_any (n v ls : ByteArray) (cb : Nat) (m : Nat) (w : World) (hcell : w.cell? ⟨cb, 0, none⟩ = some (.string ls)) (hls : unums ls = decL m) :
    Calls Tryz.prog 112 #[.agg #[.string n, .string v], .pointer (some ⟨cb, 0, none⟩)] w fun e w' => e = .returned (.bool (badF m (unums n, unums v))) ∧ Below w.heap.size w w' := by
  have hcb : cb < w.heap.size := by
    rcases Nat.lt_or_ge cb w.heap.size with h1 | h1
    · exact h1
    · simp [World.cell?, Array.getElem?_eq_none h1] at hcell
  have HCL := vl hcell
  have HV : Vl (decide (unums v ≠ decL m) = !(v.toList == ls.toList)) := vl (by
    rw [← hls]
    by_cases e : v = ls
    · subst e; simp
    · have e1 : unums v ≠ unums ls := fun h => e (unums_inj h)
      have e2 : v.toList ≠ ls.toList := fun h => e (ByteArray.ext (by rw [ByteArray.toList_eq, ByteArray.toList_eq] at h; exact Array.toList_inj.1 h))
      rw [decide_eq_true e1]
      simpa using e2)
  have HH : Vl (decide (unums n = hostN) = (n.toList == [104, 111, 115, 116])) := vl (by
    rw [Bool.eq_iff_iff]
    simp only [decide_eq_true_eq, beq_iff_eq]
    exact yL_host.symm)
  have HG : Vl (badF m (unums n, unums v) = (btwL (unums n) || (n.toList == [104, 111, 115, 116]) || (isLn (unums n, unums v) && !(v.toList == ls.toList)))) := vl (by
    show (btwL (unums n) || decide (unums n = hostN) || (isLn (unums n, unums v) && decide (unums v ≠ decL m))) = _
    rw [HV.out, HH.out])
  have HX := vl (fun W => xbtw_any n v W)
  have HY := vl (fun W => xlen_any n v W)
  have HA : Vl (Below w.heap.size w (w.alloc (.cells #[.string n, .string v] 51))) := (Below.refl _ w).alloc (Nat.le_refl _) _
  clear hcell HV HH
  generalize btwL (unums n) = b1 at *
  generalize isLn (unums n, unums v) = b2 at *
  obtain ⟨b3, hb3⟩ : ∃ b, (n.toList == [104, 111, 115, 116]) = b := ⟨_, rfl⟩
  obtain ⟨b4, hb4⟩ : ∃ b, (v.toList == ls.toList) = b := ⟨_, rfl⟩
  rw [HG.out, hb3, hb4]
  clear HG
  cases b1 with
  | true =>
    go_enter Tryz.func112, Tryz.ntmps112
    go_wp2_with fail
    refine (HX.out _).mono ?_
    rintro e w1 ⟨rfl, hb1⟩
    have HB1 := vl (HA.out.trans (hb1.mono (by simp)))
    clear hb1
    go_wp2_with fail
    go_ret
    exact ⟨rfl, HB1.out⟩
  | false =>
    cases b3 with
    | true =>
      go_enter Tryz.func112, Tryz.ntmps112
      go_wp2_with fail
      refine (HX.out _).mono ?_
      rintro e w1 ⟨rfl, hb1⟩
      have HB1 := vl (HA.out.trans (hb1.mono (by simp)))
      rw [World.size_alloc] at hb1
      obtain ⟨d1, d2⟩ := cell2_below hb1
      clear hb1
      go_wp2_with fail
      go_ret
      exact ⟨rfl, HB1.out⟩
    | false =>
      go_enter Tryz.func112, Tryz.ntmps112
      go_wp2_with fail
      refine (HX.out _).mono ?_
      rintro e w1 ⟨rfl, hb1⟩
      have HB1 := vl (HA.out.trans (hb1.mono (by simp)))
      rw [World.size_alloc] at hb1
      obtain ⟨d1, d2⟩ := cell2_below hb1
      have hs1 : w.heap.size < w1.heap.size := by have := hb1.size; simp at this; omega
      clear hb1
      go_wp2_with fail
      refine (HY.out _).mono ?_
      rintro e w2 ⟨rfl, hb2⟩
      have HB2 := vl (HB1.out.trans (hb2.mono (by omega)))
      have e1 := (hb2.cell (p := ⟨w.heap.size, 1, none⟩) hs1).trans d2
      have e2 := (HB2.out.cell (p := ⟨cb, 0, none⟩) hcb).trans HCL.out
      clear hb2 d1 d2
      cases b2 with
      | false =>
        go_wp2_with fail
        go_ret
        exact ⟨rfl, HB2.out⟩
      | true =>
        cases b4 with
        | true =>
          go_wp2_with fail
          go_ret
          exact ⟨by simp, HB2.out⟩
        | false =>
          go_wp2_with fail
          go_ret
          exact ⟨by simp, HB2.out⟩
theorem prd_bad {w : World} {cb m : Nat} {ls : ByteArray} (hcell : w.cell? ⟨cb, 0, none⟩ = some (.string ls)) (hls : unums ls = decL m) : PrdF w (.func (.func 112) #[] #[.pointer (some ⟨cb, 0, none⟩)]) (badF m) := by
  have hcb : cb < w.heap.size := by
    rcases Nat.lt_or_ge cb w.heap.size with h1 | h1
    · exact h1
    · simp [World.cell?, Array.getElem?_eq_none h1] at hcell
  exact ⟨112, #[.pointer (some ⟨cb, 0, none⟩)], rfl, enters_of Tryz.func112 (by kernel_rfl) rfl, fun W n v _ hb => xmay1_any n v ls cb m W ((hb.cell (p := ⟨cb, 0, none⟩) hcb).trans hcell) hls⟩
theorem xmay_any (a : Option Addr) (len cap : Nat) (L : List (ByteArray × ByteArray)) (m : Nat) (w : World) (hA : FArg w a len cap L) (hl : len ≤ 4294967296) (hs : ∀ t, (L.getD t fnone).1.size ≤ 140737488351232) (hm : m ≤ 4194304) (hT : NLaid w) :
    Calls Tryz.prog 48 #[.slice a len cap, .int .i64 (m : Int)] w fun e w' => e = .returned (.bool (!(fdsOf L).any (badF m))) ∧ Below w.heap.size w w' := by
  have HI := vl (nitoa_any m hm w hT)
  have HA := vl hA
  have HS := vl hs
  clear hA hs
  go_enter Tryz.func48, Tryz.ntmps48
  go_wp2_with fail
  refine HI.out.mono ?_
  rintro e w1 ⟨ls, rfl, hls, hb⟩
  have hk : (w1.alloc (.cells #[.string ls] 9)).heap[w1.heap.size]? = some (.cells #[.string ls] 9 (0, 0)) := heap_alloc_new w1 _
  have hcc : (w1.alloc (.cells #[.string ls] 9)).cell? ⟨w1.heap.size, 0, none⟩ = some (.string ls) := by simp only [World.cell?, hk]; rfl
  have HB2 : Vl (Below w.heap.size w (w1.alloc (.cells #[.string ls] 9))) := hb.alloc hb.size _
  have HW := vl (xcont_any a len cap L _ _ (w1.alloc (.cells #[.string ls] 9)) (HA.out.below HB2.out) hl HS.out (prd_bad hcc hls))
  have hsz : w.heap.size ≤ w1.heap.size := hb.size
  clear HI hb hk hcc HA HS hls
  go_wp2_with fail
  refine HW.out.mono ?_
  rintro e w3 ⟨rfl, hb3⟩
  rw [World.size_alloc] at hb3
  have HF : Vl (Below w.heap.size w w3) := vl (HB2.out.trans (hb3.mono (by omega)))
  clear hb3 HW HB2
  obtain ⟨b, hbb⟩ : ∃ b, (fdsOf L).any (badF m) = b := ⟨_, rfl⟩
  have HBB := vl hbb
  rw [hbb]
  clear hbb
  go_wp2_with fail
  go_ret
  exact ⟨by rw [HBB.out]; rfl, HF.out⟩
end Go.Proofs.YtglmppadhlkkgagGreatDoor
/-
  FROM THE ONE TO THE OTHER: a row of texts; strings.Join at two bytes. No claim by itself.
-/
namespace Go.Proofs.YtglmppadhlkkgagGreatDoor
open Go Go.RowKit Go.Maps
set_option maxRecDepth 100000
theorem xextra : Builder.Extra Tryz.prog Tryz.laysJoin_ren := {
  sizeBuilder := by kernel_rfl
  liesBuilder := by kernel_rfl
  t5 := Tryz.underlying5
  a5 := Tryz.isAgg5
  z5 := Tryz.sizeOf5
  v5 := Tryz.zeroValue5
  infoByte := by kernel_rfl
  cellsByte := by kernel_rfl
  sizeByte := by kernel_rfl
  neB5 := by decide }
theorem join_len (M : Nat) (sep : List UInt8) : ∀ (l : List (List UInt8)), (∀ x ∈ l, x.length ≤ M) → (Lib.join l sep).length ≤ l.length * (M + sep.length)
  | [], _ => by simp [Lib.join]
  | [x], h => by
    rw [Lib.join_one]
    have := h x (by simp)
    simp
    omega
  | x :: y :: r, h => by
    have ih := join_len M sep (y :: r) (fun z hz => h z (List.mem_cons_of_mem _ hz))
    have hx := h x (by simp)
    have e : Lib.join (x :: y :: r) sep = x ++ sep ++ Lib.join (y :: r) sep := by
      rw [Lib.join_cons, Lib.join_cons, Lib.joinTail]
      simp [Lib.joinTail]
    rw [e]
    simp only [List.length_append, List.length_cons] at ih ⊢
    rw [Nat.add_mul (r.length + 1) 1]
    omega
theorem xjoin_any (sa : Option Addr) (sc base : Nat) (VS : List ByteArray) (w : World) (ho : SOwn w base (.slice sa VS.length sc) VS) (hn : VS.length ≤ 4194304) (hs : ∀ x ∈ VS, x.size ≤ 4194304) :
    Calls Tryz.prog 114 #[.slice sa VS.length sc, .string ⟨#[59, 32]⟩] w fun e w' => ∃ J : ByteArray, e = .returned (.string J) ∧ unums J = join2 59 32 (VS.map unums) ∧ Below w.heap.size w w' := by
  have hj : numsU (Lib.join (VS.map (·.data.toList)) [59, 32]) = join2 59 32 (VS.map unums) := by
    have := join_U 59 32 (VS.map (·.data.toList))
    rw [List.map_map] at this
    exact this
  have hlen : (Lib.join (VS.map (·.data.toList)) [59, 32]).length ≤ 140737488355328 := by
    have h1 := join_len 4194304 [59, 32] (VS.map (·.data.toList)) (fun x hx => by
      obtain ⟨y, hy, rfl⟩ := List.mem_map.1 hx
      have := hs y hy
      rw [Array.length_toList]
      exact this)
    rw [List.length_map] at h1
    have h2 : VS.length * (4194304 + 2) ≤ 4194304 * 4194306 := Nat.mul_le_mul_right _ hn
    have h3 : ([59, 32] : List UInt8).length = 2 := rfl
    rw [h3] at h1
    omega
  obtain ⟨_, ⟨hv, h0⟩ | ⟨g, cap, cur, hv, hbg, hc, hle, hmx, hsz, htk⟩⟩ := id ho
  · injection hv with e1 e2 e3
    subst e1 e3
    have hnil : VS = [] := List.eq_nil_of_length_eq_zero h0
    subst hnil
    refine (show Calls Tryz.prog 114 #[.slice none 0 0, .string ⟨#[59, 32]⟩] w _ from Any.strings_Join_none Tryz.laysJoin xextra none 0 ⟨#[59, 32]⟩ w).mono ?_
    rintro e w' ⟨rfl, rfl⟩
    exact ⟨_, rfl, rfl, Below.refl _ _⟩
  · injection hv with e1 e2 e3
    subst e1 e3
    refine (show Calls Tryz.prog 114 #[.slice (some ⟨g, 0, none⟩) VS.length sc, .string ⟨#[59, 32]⟩] w _ from Any.strings_Join Tryz.laysJoin xextra g 0 sc VS ⟨#[59, 32]⟩ w (fun j x hx => ?_) (Array.getElem?_eq_some_iff.1 hc).1 (by omega) hle hlen).mono ?_
    · have hjl : j < VS.length := (List.getElem?_eq_some_iff.1 hx).1
      have e : (cur.toList.take (VS.length * 1))[j]? = some (.string x) := by rw [htk, List.getElem?_map, hx]; rfl
      rw [List.getElem?_take, if_pos (by omega), Array.getElem?_toList] at e
      simp only [World.cell?, hc, Nat.zero_add]
      exact e
    · rintro e w' ⟨rfl, hb⟩
      exact ⟨_, rfl, hj, hb⟩
end Go.Proofs.YtglmppadhlkkgagGreatDoor
