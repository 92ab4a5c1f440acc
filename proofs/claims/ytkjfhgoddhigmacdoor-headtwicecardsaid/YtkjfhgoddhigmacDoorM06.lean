/-
  CONTRACTS of the Go function slices.Insert at fields, at the front, of one field. No claim by itself.
-/
import Derived.Shelf.Spec.SlicesInsert
import Derived.Lib.AppendZerosOnto
import Derived.Lib.Overlaps
import Derived.Maps.AppendAt
import Derived.Laws.Externs
import Derived.Test.YtkjfhgoddhigmacDoorM05
namespace Go.Proofs.YtkjfhgoddhigmacDoor
open Go.RowKit
theorem infoFd : (Tryd.prog.info? 33).map (fun i => (i.zero, i.size, i.bytes)) = some (some (.agg #[.string ⟨#[]⟩, .string ⟨#[]⟩]), 2, 32) := by kernel_rfl
theorem fcells_get2 (A : List (ByteArray × ByteArray)) : ∀ u ∈ fcells A, u.oneCell' = true := by
  intro u hu
  obtain ⟨f, _, hf⟩ := List.mem_flatMap.1 hu
  simp at hf
  rcases hf with rfl | rfl <;> rfl
theorem addr_add (g o j : Nat) : (⟨g, o, none⟩ : Addr).add j = ⟨g, o + j, none⟩ := by unfold Addr.add; split <;> simp_all
/-- 'copy(d, s)' at fields, into a row that is known whole. -/
theorem run_copy_rowF (w : World) (ty : TypeId) (g o dLen dCap : Nat) (a : Addr) (sLen sCap : Nat) (cur : Array Value) (t : TypeId) (cs : List Value)
    (hg : w.heap[g]? = some (.cells cur t (0, 0))) (hn : cs.length = Nat.min sLen dLen * 2)
    (hsrc : ∀ j v, cs[j]? = some v → w.cell? (a.add j) = some v) (hfit : o + cs.length ≤ cur.size) (h1 : ∀ v ∈ cs, v.oneCell' = true) :
    (Builtin.copy_ #[34, 34] ty #[.slice (some ⟨g, o, none⟩) dLen dCap, .slice (some a) sLen sCap]).run Tryd.prog w =
      .ok (goInt (Nat.min sLen dLen)) (w.setRow g (cur.toList.take o ++ cs ++ cur.toList.drop (o + cs.length)).toArray) := by
  have hl := run_loadCells_list (P := Tryd.prog) w a cs hsrc
  have hst := run_storeCells_at Tryd.prog g o t cs 0 cur w hg (by simpa using hfit) h1
  obtain ⟨i0, hi, _, hz1, _⟩ := info_parts infoFd
  simp [Builtin.copy_, run_underlying Tryd.underlying34, Builtin.lenOf, Builtin.firstCells, sizeOf, typeInfo, hi, hz1, ← hn, hl, hst]
set_option maxRecDepth 100000 in
set_option maxHeartbeats 4000000 in
theorem ins_nil (n v : ByteArray) (vb : Nat) (w : World) (hv : w.heap[vb]? = some (.cells #[.string n, .string v] 33 (0, 0))) :
    Calls Tryd.prog 35 #[.slice none 0 0, .int .i64 0, .slice (some ⟨vb, 0, none⟩) 1 1] w fun e w' => ∃ s', e = .returned s' ∧ w'.ownsRow 0 33 2 s' 1 (fcells [(n, v)]) ∧ w.grownBy w' none ∧ s' ≠ .slice none 0 0 ∧ s'.ownBlock = some w.heap.size := by
  obtain ⟨i0, hi, hz0, hz1, hz2⟩ := info_parts infoFd
  have HC : Hid (∀ j u, (fcells [(n, v)])[j]? = some u → w.cell? ((⟨vb, 0, none⟩ : Addr).add j) = some u) := fun j u hu => by
    rw [addr_add, Nat.zero_add, cell_at hv, ← hu]
    show #[Value.string n, Value.string v][j]? = [Value.string n, Value.string v][j]?
    simp
  have HO := hide (World.ownsRow_nil w 0 33 2)
  clear hv
  go_enter Tryd.func35, Tryd.ntmps35
  go_wp2_with (at_builtin; refine wpList_append_own_at _ rfl _ _ 34 rfl 0 33 i0 _ 2 32 Tryd.underlying34 hi hz0 hz1 hz2 rfl (by decide) _ _ _ rfl HO.out ⟨vb, 0, none⟩ 1 1 (fcells [(n, v)]) rfl rfl HC.out (fcells_get2 _) (by decide) (by decide) (Nat.zero_le _) ?_)
  intro v' w3 hown' hgrow hnil hat
  have hn' : v' ≠ .slice none 0 0 := hnil
  have ho' : v'.ownBlock = some w.heap.size := by
    rcases hat with h | h
    · exfalso
      obtain ⟨_, ⟨h2, _⟩ | ⟨g, cap, cur, h2, _⟩⟩ := hown'
      · exact hn' h2
      · rw [h2] at h; simp [Value.ownBlock] at h
    · exact h
  have P1 := hide hown'
  have P2 := hide hgrow
  have P3 := hide hn'
  have P4 := hide ho'
  clear hown' hgrow hnil hat hn' ho'
  go_wp2
  go_ret
  exact ⟨v', rfl, P1.out, P2.out, P3.out, P4.out⟩
set_option maxRecDepth 100000 in
set_option maxHeartbeats 4000000 in
theorem ins_end (n v : ByteArray) (vb g cap : Nat) (w : World) (hv : w.heap[vb]? = some (.cells #[.string n, .string v] 33 (0, 0))) (hcap : cap ≤ maxLen)
    (ho : w.ownsRow 0 33 2 (.slice (some ⟨g, 0, none⟩) 0 cap) 0 []) :
    Calls Tryd.prog 35 #[.slice (some ⟨g, 0, none⟩) 0 cap, .int .i64 0, .slice (some ⟨vb, 0, none⟩) 1 1] w fun e w' => ∃ s', e = .returned s' ∧ w'.ownsRow 0 33 2 s' 1 (fcells [(n, v)]) ∧ w.grownBy w' (some g) ∧ s' ≠ .slice none 0 0 ∧ (s'.ownBlock = some g ∨ s'.ownBlock = some w.heap.size) := by
  obtain ⟨i0, hi, hz0, hz1, hz2⟩ := info_parts infoFd
  have hcp := hcap
  unfold maxLen at hcp
  have HC : Hid (∀ j u, (fcells [(n, v)])[j]? = some u → w.cell? ((⟨vb, 0, none⟩ : Addr).add j) = some u) := fun j u hu => by
    rw [addr_add, Nat.zero_add, cell_at hv, ← hu]
    show #[Value.string n, Value.string v][j]? = [Value.string n, Value.string v][j]?
    simp
  have HO := hide ho
  clear hv ho
  go_enter Tryd.func35, Tryd.ntmps35
  go_wp2_with (at_builtin; refine wpList_append_own_at _ rfl _ _ 34 rfl 0 33 i0 _ 2 32 Tryd.underlying34 hi hz0 hz1 hz2 rfl (by decide) _ _ _ rfl HO.out ⟨vb, 0, none⟩ 1 1 (fcells [(n, v)]) rfl rfl HC.out (fcells_get2 _) (by decide) (by decide) (Nat.zero_le _) ?_)
  all_goals
    intro v' w3 hown' hgrow hnil hat
    have P1 := hide hown'
    have P2 := hide hgrow
    have P3 := hide (show v' ≠ .slice none 0 0 from hnil)
    have P4 := hide hat
    clear hown' hgrow hnil hat
    go_wp2
    go_ret
    exact ⟨v', rfl, P1.out, P2.out, P3.out, P4.out⟩
end Go.Proofs.YtkjfhgoddhigmacDoor
/-
  CONTRACTS of the Go function slices.Insert at fields, at the front, of one field, where others stand already. No claim by itself.
-/
namespace Go.Proofs.YtkjfhgoddhigmacDoor
open Go.RowKit
theorem shape_at {w : World} {g : Nat} {cur : Array Value} {t : TypeId} {fr : Nat × Nat} (h : w.heap[g]? = some (.cells cur t fr)) : w.shape? g = some (t, cur.size) := by
  unfold World.shape?; rw [h]
theorem take_get {cur : Array Value} {A : List (ByteArray × ByteArray)} (h : cur.toList.take (A.length * 2) = fcells A) : ∀ (j : Nat) (u : Value), (fcells A)[j]? = some u → cur[j]? = some u := by
  intro j u hu
  have hj : j < (fcells A).length := by
    rcases Nat.lt_or_ge j (fcells A).length with h | h
    · exact h
    · rw [List.getElem?_eq_none h] at hu; cases hu
  rw [fcells_len] at hj
  rw [← h, List.getElem?_take, if_pos hj, Array.getElem?_toList] at hu
  exact hu
theorem below_row {B g : Nat} {w0 w : World} (hb : Below B w0 w) (hBg : B ≤ g) (cs : Array Value) : Below B w0 (w.setRow g cs) :=
  hb.trans ⟨rfl, rfl, rfl, by simp [World.setRow], fun k hk => setRow_other w g k cs (by omega)⟩
theorem size_cells (cur : Array Value) (o : Nat) (cs : List Value) (h : o + cs.length ≤ cur.size) : (cur.toList.take o ++ cs ++ cur.toList.drop (o + cs.length)).toArray.size = cur.size := by
  simp only [List.size_toArray, List.length_append, List.length_take, List.length_drop, Array.length_toList]; omega
theorem front_take (n v : ByteArray) (A : List (ByteArray × ByteArray)) (D R : List Value) (h : D = fcells A ++ R) : (Value.string n :: Value.string v :: D).toArray.toList.take ((A.length + 1) * 2) = fcells ((n, v) :: A) := by
  show List.take ((A.length + 1) * 2) (Value.string n :: Value.string v :: D) = Value.string n :: Value.string v :: fcells A
  rw [h, show (A.length + 1) * 2 = A.length * 2 + 1 + 1 by omega, List.take_succ_cons, List.take_succ_cons, ← fcells_len A, List.take_left]
set_option maxRecDepth 100000 in
set_option maxHeartbeats 4000000 in
theorem ins_room (n v : ByteArray) (vb g cap : Nat) (A : List (ByteArray × ByteArray)) (cur : Array Value) (w : World) (hv : w.heap[vb]? = some (.cells #[.string n, .string v] 33 (0, 0))) (hcap : cap ≤ maxLen) (hvg : vb ≠ g)
    (hg : w.heap[g]? = some (.cells cur 33 (0, 0))) (hsz : cur.size = cap * 2) (ht : cur.toList.take (A.length * 2) = fcells A) (h0 : 0 < A.length) (hroom : A.length + 1 ≤ cap) :
    Calls Tryd.prog 35 #[.slice (some ⟨g, 0, none⟩) A.length cap, .int .i64 0, .slice (some ⟨vb, 0, none⟩) 1 1] w fun e w' => e = .returned (.slice (some ⟨g, 0, none⟩) (A.length + 1) cap) ∧ Off (fun k => k = g) w w' ∧
      ∃ cur' : Array Value, w'.heap[g]? = some (.cells cur' 33 (0, 0)) ∧ cur'.size = cap * 2 ∧ cur'.toList.take ((A.length + 1) * 2) = fcells ((n, v) :: A) := by
  have hcp := hcap
  unfold maxLen at hcp
  obtain ⟨i0, hi, hz0, hz1, hz2⟩ := info_parts infoFd
  have hov : ∀ lb cb, (callFunc 46 #[.slice (some ⟨vb, 0, none⟩) 1 1, .slice (some ⟨g, 2, none⟩) lb cb]).run Tryd.prog w = .ok (.value (.bool false)) w := fun lb cb => by
    rw [run_callFunc_extern Tryd.func46 (by kernel_rfl) (by kernel_rfl) (by kernel_rfl) (e := Extern.SlicesOverlaps.overlaps #[34, 34] #[4]) (by kernel_rfl),
      Lib.run_overlaps_apart w 34 4 33 Tryd.underlying34 2 (fun w => by simp [sizeOf, typeInfo, hi, hz1]) ⟨vb, 0, none⟩ ⟨g, 2, none⟩ 1 1 lb cb hvg _ _ _ _ (shape_at hv) (shape_at hg) (by rw [hsz]; omega) (frozen_at hv 0) (frozen_at hv _)]
    rfl
  have hfl := fcells_len A
  obtain ⟨C1, hC1⟩ : ∃ C1, C1 = (cur.toList.take 2 ++ fcells A ++ cur.toList.drop (2 + (fcells A).length)).toArray := ⟨_, rfl⟩
  have hC1s : C1.size = cap * 2 := by rw [hC1, size_cells cur 2 (fcells A) (by rw [hfl, hsz]; omega), hsz]
  have hcp1 : ∀ ty dc sc, (Builtin.copy_ #[34, 34] ty #[.slice (some ⟨g, 2, none⟩) A.length dc, .slice (some ⟨g, 0, none⟩) (A.length + 1) sc]).run Tryd.prog w.drew = .ok (goInt (Nat.min (A.length + 1) A.length)) (w.drew.setRow g C1) := fun ty dc sc => by
    rw [hC1]
    exact run_copy_rowF w.drew ty g 2 A.length dc ⟨g, 0, none⟩ (A.length + 1) sc cur 33 (fcells A) hg (by rw [hfl]; simp only [Nat.min_def]; split <;> omega)
      (fun j u hu => by rw [addr_add, Nat.zero_add]; exact (cell_at (w := w.drew) hg j).trans (take_get ht j u hu)) (by rw [hfl, hsz]; omega) (fcells_get2 A)
  obtain ⟨W1, hW1⟩ : ∃ W1, W1 = w.drew.setRow g C1 := ⟨_, rfl⟩
  have hg1 : W1.heap[g]? = some (.cells C1 33 (0, 0)) := by rw [hW1]; exact setRow_heap w.drew g cur C1 33 (0, 0) hg
  have hv1 : W1.heap[vb]? = some (.cells #[.string n, .string v] 33 (0, 0)) := by rw [hW1, setRow_other _ _ _ _ hvg]; exact hv
  have hcp2 : ∀ ty dc, (Builtin.copy_ #[34, 34] ty #[.slice (some ⟨g, 0, none⟩) (A.length + 1) dc, .slice (some ⟨vb, 0, none⟩) 1 1]).run Tryd.prog W1 = .ok (goInt (Nat.min 1 (A.length + 1))) (W1.setRow g (C1.toList.take 0 ++ [Value.string n, Value.string v] ++ C1.toList.drop (0 + 2)).toArray) := fun ty dc =>
    run_copy_rowF W1 ty g 0 (A.length + 1) dc ⟨vb, 0, none⟩ 1 1 C1 33 [.string n, .string v] hg1 (by simp only [Nat.min_def]; split <;> simp; omega)
      (fun j u hu => by rw [addr_add, Nat.zero_add, cell_at hv1, ← hu]; simp) (by simp; omega) (fun u hu => by simp at hu; rcases hu with rfl | rfl <;> rfl)
  have HW1 := hide hW1
  have HD2 : Hid (C1.toList.drop 2 = fcells A ++ cur.toList.drop (2 + (fcells A).length)) := by
    have h2 : (cur.toList.take 2).length = 2 := by rw [List.length_take, Array.length_toList]; omega
    show C1.toList.drop 2 = _
    rw [hC1, List.append_assoc]
    show List.drop 2 (List.take 2 cur.toList ++ (fcells A ++ _)) = _
    rw [List.drop_append_of_le_length (by omega), List.drop_of_length_le (by omega), List.nil_append]
  have HG1 := hide hg1
  rw [← hW1] at hcp1
  have hA0 : ¬ ((0 : Int) = (A.length : Int)) := by omega
  have hw1 : IntKind.i64.wrap 1 = 1 := by decide
  have hb4 : (1 : Int) ≤ (A.length : Int) + 1 := by omega
  have hb5 : (0 : Int) ≤ (A.length : Int) + 1 := by omega
  have hb1 : ¬ (cap = 1) := by omega
  have hb2 : ¬ (cap = 0) := by omega
  have hb3 : (A.length : Int) + 1 ≤ (cap : Int) := by omega
  have hd : decide ((cap : Int) < (A.length : Int) + 1) = false := by simp; omega
  clear hW1 ht hC1 hg hv hg1 hv1
  go_enter Tryd.func35, Tryd.ntmps35
  go_wp2_with (simp only [hov])
  go_region_law (refine step_copy_runI rfl (.tmp 73) (.tmp 76) 34 34 rfl (.slice (some ⟨g, 2, none⟩) A.length (cap - 1)) (.slice (some ⟨g, 0, none⟩) (A.length + 1) cap) (by simp [Act.eval, Act.put]) (by simp [Act.eval, Act.put]) (hcp1 _ _ _) ?_)
  go_simp
  go_wp2_with (refine wpList_copy_runI _ rfl _ _ 34 34 rfl _ _ rfl rfl (hcp2 _ _) ?_)
  go_ret
  refine ⟨rfl, off_setRow (S := fun k => k = g) (by rw [HW1.out]; exact off_setRow (S := fun k => k = g) (Off.of_below ((Below.refl _ _).drew)) g rfl _) g rfl _, _, setRow_heap W1 g C1 _ 33 (0, 0) HG1.out, ?_, ?_⟩
  · simp only [List.size_toArray, List.length_cons, List.length_drop, Array.length_toList, hC1s]; omega
  · exact front_take n v A _ _ HD2.out
set_option maxRecDepth 100000 in
set_option maxHeartbeats 4000000 in
theorem ins_grow (n v : ByteArray) (vb g cap : Nat) (A : List (ByteArray × ByteArray)) (cur : Array Value) (w : World) (hv : w.heap[vb]? = some (.cells #[.string n, .string v] 33 (0, 0)))
    (hg : w.heap[g]? = some (.cells cur 33 (0, 0))) (ht : cur.toList.take (A.length * 2) = fcells A) (h0 : 0 < A.length) (hle : A.length ≤ cap) (hroom : cap < A.length + 1) (hbig : A.length ≤ 1048576) :
    Calls Tryd.prog 35 #[.slice (some ⟨g, 0, none⟩) A.length cap, .int .i64 0, .slice (some ⟨vb, 0, none⟩) 1 1] w fun e w' => Below w.heap.size w w' ∧ ∃ G : Nat, e = .returned (.slice (some ⟨w.heap.size, 0, none⟩) (A.length + 1) G) ∧ A.length + 1 ≤ G ∧ G ≤ maxLen ∧
      ∃ cur' : Array Value, w'.heap[w.heap.size]? = some (.cells cur' 33 (0, 0)) ∧ cur'.size = G * 2 ∧ cur'.toList.take ((A.length + 1) * 2) = fcells ((n, v) :: A) := by
  obtain ⟨i0, hi, hz0, hz1, hz2⟩ := info_parts infoFd
  have hgl := lt_of_heap hg
  have hvl := lt_of_heap hv
  obtain ⟨G, hG⟩ : ∃ G, G = grownCap w (A.length + 1) cap 33 := ⟨_, rfl⟩
  have hGn : A.length + 1 ≤ G := by rw [hG]; exact grownCap_ge w _ _ _
  have hGm : G ≤ maxLen := by rw [hG]; exact grownCap_le_maxLen w _ _ _ (by unfold maxLen; omega)
  obtain ⟨ROW, hROW⟩ : ∃ ROW : Array Value, ROW = ([] : List Value).toArray ++ Builtin.zeroCells (Value.agg #[.string ⟨#[]⟩, .string ⟨#[]⟩]).cells (A.length + 1) ++ Builtin.zeroCells (Value.agg #[.string ⟨#[]⟩, .string ⟨#[]⟩]).cells (G - (A.length + 1)) := ⟨_, rfl⟩
  have hRs : ROW.size = G * 2 := by rw [hROW]; simp [Builtin.zeroCells, Value.cells]; omega
  have hrz : ∀ ty, (Builtin.append_ #[34, 3] ty #[.slice (some ⟨g, 0, none⟩) 0 cap, .int .i64 ((A.length : Int) + 1)]).run Tryd.prog w = .ok (.slice (some ⟨w.heap.size, 0, none⟩) (A.length + 1) G) (w.drew.alloc (.cells ROW 33)) := fun ty => by
    have h := Lib.run_append_grow_zeros w 34 3 ty 33 i0 _ .i64 .i64 Tryd.underlying34 Tryd.underlying3 hi hz0 (some ⟨g, 0, none⟩) 0 cap [] (run_firstCells_some w.drew i0.size 0 ⟨g, 0, none⟩ 0 cap [] (by simp) (fun j v h => by simp at h)) (A.length + 1) (by omega) (by omega) (by omega) (by omega) (by rw [hz2]; omega) (by rw [hz2]; exact growslice_fits (by omega) (by omega))
    rw [Nat.zero_add, ← hG, ← hROW] at h
    exact h
  obtain ⟨W1, hW1⟩ : ∃ W1, W1 = w.drew.alloc (.cells ROW 33) := ⟨_, rfl⟩
  have hg1 : W1.heap[w.heap.size]? = some (.cells ROW 33 (0, 0)) := by rw [hW1]; exact heap_new w.drew _
  have hb1 : Below w.heap.size w W1 := by rw [hW1]; exact ((Below.refl _ w).drew).alloc (Nat.le_refl _) _
  have hgg1 : W1.heap[g]? = some (.cells cur 33 (0, 0)) := (hb1.block g hgl).trans hg
  have hvv1 : W1.heap[vb]? = some (.cells #[.string n, .string v] 33 (0, 0)) := (hb1.block vb hvl).trans hv
  have hfl := fcells_len A
  have hcp1 : ∀ ty dc, (Builtin.copy_ #[34, 34] ty #[.slice (some ⟨w.heap.size, 0, none⟩) (A.length + 1) dc, .slice (some ⟨vb, 0, none⟩) 1 1]).run Tryd.prog W1 = .ok (goInt (Nat.min 1 (A.length + 1))) (W1.setRow w.heap.size (ROW.toList.take 0 ++ [Value.string n, Value.string v] ++ ROW.toList.drop (0 + 2)).toArray) := fun ty dc =>
    run_copy_rowF W1 ty w.heap.size 0 (A.length + 1) dc ⟨vb, 0, none⟩ 1 1 ROW 33 [.string n, .string v] hg1 (by simp only [Nat.min_def]; split <;> simp; omega)
      (fun j u hu => by rw [addr_add, Nat.zero_add, cell_at hvv1, ← hu]; simp) (by simp; omega) (fun u hu => by simp at hu; rcases hu with rfl | rfl <;> rfl)
  obtain ⟨C1, hC1⟩ : ∃ C1, C1 = (ROW.toList.take 0 ++ [Value.string n, Value.string v] ++ ROW.toList.drop (0 + 2)).toArray := ⟨_, rfl⟩
  rw [← hC1] at hcp1
  have hC1s : C1.size = G * 2 := by rw [hC1]; simp; omega
  obtain ⟨W2, hW2⟩ : ∃ W2, W2 = W1.setRow w.heap.size C1 := ⟨_, rfl⟩
  rw [← hW2] at hcp1
  have hg2 : W2.heap[w.heap.size]? = some (.cells C1 33 (0, 0)) := by rw [hW2]; exact setRow_heap W1 _ ROW C1 33 (0, 0) hg1
  have hgg2 : W2.heap[g]? = some (.cells cur 33 (0, 0)) := by rw [hW2, setRow_other _ _ _ _ (by omega)]; exact hgg1
  have hcp2 : ∀ ty dc sc, (Builtin.copy_ #[34, 34] ty #[.slice (some ⟨w.heap.size, 2, none⟩) A.length dc, .slice (some ⟨g, 0, none⟩) A.length sc]).run Tryd.prog W2.drew = .ok (goInt (Nat.min A.length A.length)) (W2.drew.setRow w.heap.size (C1.toList.take 2 ++ fcells A ++ C1.toList.drop (2 + (fcells A).length)).toArray) := fun ty dc sc =>
    run_copy_rowF W2.drew ty w.heap.size 2 A.length dc ⟨g, 0, none⟩ A.length sc C1 33 (fcells A) hg2 (by rw [hfl]; simp only [Nat.min_def]; split <;> omega)
      (fun j u hu => by rw [addr_add, Nat.zero_add]; exact (cell_at (w := W2.drew) hgg2 j).trans (take_get ht j u hu)) (by rw [hfl, hC1s]; omega) (fcells_get2 A)
  obtain ⟨C2, hC2⟩ : ∃ C2, C2 = (C1.toList.take 2 ++ fcells A ++ C1.toList.drop (2 + (fcells A).length)).toArray := ⟨_, rfl⟩
  rw [← hC2] at hcp2
  have hC2s : C2.size = G * 2 := by rw [hC2, size_cells C1 2 (fcells A) (by rw [hfl, hC1s]; omega), hC1s]
  have hC2t : Hid (C2.toList.take ((A.length + 1) * 2) = fcells ((n, v) :: A)) := by
    show C2.toList.take ((A.length + 1) * 2) = _
    have e : C1.toList.take 2 = [Value.string n, Value.string v] := by rw [hC1]; simp
    rw [hC2, e]
    exact front_take n v A (fcells A ++ C1.toList.drop (2 + (fcells A).length)) _ rfl
  have hb2 : Below w.heap.size w W2 := by rw [hW2]; exact below_row hb1 (Nat.le_refl _) _
  have HB2 := hide hb2
  have HG2 := hide hg2
  have HGm := hide hGm
  rw [← hW1] at hrz
  unfold maxLen at hGm
  have hA0 : ¬ ((0 : Int) = (A.length : Int)) := by omega
  have hw1 : IntKind.i64.wrap 1 = 1 := by decide
  have hbb4 : (1 : Int) ≤ (A.length : Int) + 1 := by omega
  have hbb5 : (0 : Int) ≤ (A.length : Int) + 1 := by omega
  have hbb6 : (0 : Int) ≤ (A.length : Int) := by omega
  have hbb1 : ¬ (G = 1) := by omega
  have hbb2 : ¬ (G = 0) := by omega
  have hbb3 : ¬ (cap = 0) := by omega
  have hd : decide ((cap : Int) < (A.length : Int) + 1) = true := by simp; omega
  clear hW1 hW2 hROW hG hC1 hC2 hg hv hg1 hgg1 hvv1 hg2 hgg2 hb1 hb2 ht hRs hC1s
  go_enter Tryd.func35, Tryd.ntmps35
  go_wp2_with (first | (at_builtin; refine Lib.wpList_append_run _ rfl _ _ _ _ rfl _ _ rfl rfl _ _ (hrz _) ?_) | (refine wpList_copy_runI _ rfl _ _ 34 34 rfl _ _ rfl rfl (hcp1 _ _) ?_))
  go_simp
  go_region_law (refine step_copy_runI rfl (.tmp 50) (.tmp 53) 34 34 rfl (.slice (some ⟨w.heap.size, 2, none⟩) A.length (G - 1)) (.slice (some ⟨g, 0, none⟩) A.length cap) (by simp [Act.eval, Act.put]) (by simp [Act.eval, Act.put]) (hcp2 _ _ _) ?_)
  go_simp
  go_wp2
  go_ret
  exact ⟨below_row HB2.out.drew (Nat.le_refl _) _, G, rfl, hGn, HGm.out, C2, setRow_heap W2.drew _ C1 C2 33 (0, 0) HG2.out, hC2s, hC2t.out⟩
end Go.Proofs.YtkjfhgoddhigmacDoor
