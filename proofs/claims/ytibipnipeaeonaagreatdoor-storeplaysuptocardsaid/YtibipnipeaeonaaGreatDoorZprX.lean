/-
  WHAT WAS ANSWERED: the developers' Get and Put, at a time that is none. No claim by itself.
-/
import Derived.Test.YtibipnipeaeonaaGreatDoorZyh2X
namespace Go.Proofs.YtibipnipeaeonaaGreatDoor
open Go Go.RowKit
set_option maxRecDepth 100000
set_option maxHeartbeats 4000000 in
theorem zget_bad (sb : Nat) (q : RqM) (now : Int) (w : World) (hn : ¬ (0 ≤ now ∧ now ≤ 1000000)) :
    Calls Tryz.prog 10 #[.pointer (some ⟨sb, 0, none⟩), q.val, .int .i64 now] w fun e w' => e = .returned (.tuple #[.agg #[.int .i64 0, .slice none 0 0, .slice none 0 0], .int .i64 0, .iface 60 (.int .i64 1)]) ∧ Below w.heap.size w w' := by
  obtain ⟨W1, hW1⟩ : ∃ x, ((((w.alloc (.cells #[.string q.m, .string q.p, .string q.h, .slice q.fa q.fn q.fc, .slice q.ba q.bn q.bc] 36)).alloc (.cells #[.int .i64 now] 3)).alloc (.cells #[.int .i64 0, .slice none 0 0, .slice none 0 0] 38)).alloc (.cells #[.int .i64 0] 3)).alloc (.cells #[.nilIface] 41) = x := ⟨_, rfl⟩
  have hB1 : Below w.heap.size w W1 := by rw [← hW1]; exact (((((Below.refl _ w).alloc (Nat.le_refl _) _).alloc (by simp) _).alloc (by simp <;> omega) _).alloc (by simp <;> omega) _).alloc (by simp <;> omega) _
  have hs1 : W1.heap.size = w.heap.size + 5 := by rw [← hW1]; simp
  have al : ∀ (V : World) (o : Obj) (k : Nat) (x : Option Obj), k < V.heap.size → V.heap[k]? = x → (V.alloc o).heap[k]? = x := fun V o k x hk e => (Below.heap_alloc _ _ _ hk).trans e
  have k0 : W1.heap[w.heap.size]? = some (.cells #[.string q.m, .string q.p, .string q.h, .slice q.fa q.fn q.fc, .slice q.ba q.bn q.bc] 36 (0, 0)) := by
    rw [← hW1]; exact al _ _ _ _ (by simp <;> omega) (al _ _ _ _ (by simp <;> omega) (al _ _ _ _ (by simp <;> omega) (al _ _ _ _ (by simp) (heap_alloc_new w _))))
  have k1 : W1.heap[w.heap.size + 1]? = some (.cells #[.int .i64 now] 3 (0, 0)) := by
    rw [← hW1]
    have := heap_alloc_new (w.alloc (.cells #[.string q.m, .string q.p, .string q.h, .slice q.fa q.fn q.fc, .slice q.ba q.bn q.bc] 36)) (.cells #[.int .i64 now] 3 (0, 0))
    rw [World.size_alloc] at this
    exact al _ _ _ _ (by simp <;> omega) (al _ _ _ _ (by simp <;> omega) (al _ _ _ _ (by simp) this))
  have k2 : W1.heap[w.heap.size + 2]? = some (.cells #[.int .i64 0, .slice none 0 0, .slice none 0 0] 38 (0, 0)) := by
    rw [← hW1]
    have := heap_alloc_new ((w.alloc (.cells #[.string q.m, .string q.p, .string q.h, .slice q.fa q.fn q.fc, .slice q.ba q.bn q.bc] 36)).alloc (.cells #[.int .i64 now] 3)) (.cells #[.int .i64 0, .slice none 0 0, .slice none 0 0] 38 (0, 0))
    simp only [World.size_alloc] at this
    exact al _ _ _ _ (by simp <;> omega) (al _ _ _ _ (by simp) this)
  have k3 : W1.heap[w.heap.size + 3]? = some (.cells #[.int .i64 0] 3 (0, 0)) := by
    rw [← hW1]
    have := heap_alloc_new (((w.alloc (.cells #[.string q.m, .string q.p, .string q.h, .slice q.fa q.fn q.fc, .slice q.ba q.bn q.bc] 36)).alloc (.cells #[.int .i64 now] 3)).alloc (.cells #[.int .i64 0, .slice none 0 0, .slice none 0 0] 38)) (.cells #[.int .i64 0] 3 (0, 0))
    simp only [World.size_alloc] at this
    exact al _ _ _ _ (by simp) this
  have k4 : W1.heap[w.heap.size + 4]? = some (.cells #[.nilIface] 41 (0, 0)) := by
    rw [← hW1]
    have := heap_alloc_new ((((w.alloc (.cells #[.string q.m, .string q.p, .string q.h, .slice q.fa q.fn q.fc, .slice q.ba q.bn q.bc] 36)).alloc (.cells #[.int .i64 now] 3)).alloc (.cells #[.int .i64 0, .slice none 0 0, .slice none 0 0] 38)).alloc (.cells #[.int .i64 0] 3)) (.cells #[.nilIface] 41 (0, 0))
    simp only [World.size_alloc] at this
    exact this
  have c1 : W1.cell? ⟨w.heap.size + 1, 0, none⟩ = some (.int .i64 now) := by rw [cell_of_row _ _ _ _ _ _ k1]; rfl
  have c0 : W1.cell? ⟨w.heap.size, 0, none⟩ = some (.string q.m) := by rw [cell_of_row _ _ _ _ _ _ k0]; rfl
  have HIT := vl (zistime_any now W1)
  rw [decide_eq_false hn] at HIT
  have k2 : W1.heap[w.heap.size + 1 + 1]? = _ := k2
  have k3 : W1.heap[w.heap.size + 1 + 1 + 1]? = _ := k3
  have k4 : W1.heap[w.heap.size + 1 + 1 + 1 + 1]? = _ := k4
  have y20 : W1.cell? ⟨w.heap.size + 1 + 1, 0, none⟩ = some (.int .i64 0) := by rw [cell_of_row _ _ _ _ _ _ k2]; rfl
  have y21 : W1.cell? ⟨w.heap.size + 1 + 1, 1, none⟩ = some (.slice none 0 0) := by rw [cell_of_row _ _ _ _ _ _ k2]; rfl
  have y22 : W1.cell? ⟨w.heap.size + 1 + 1, 2, none⟩ = some (.slice none 0 0) := by rw [cell_of_row _ _ _ _ _ _ k2]; rfl
  have y3 : W1.cell? ⟨w.heap.size + 1 + 1 + 1, 0, none⟩ = some (.int .i64 0) := by rw [cell_of_row _ _ _ _ _ _ k3]; rfl
  have y4 : W1.cell? ⟨w.heap.size + 1 + 1 + 1 + 1, 0, none⟩ = some .nilIface := by rw [cell_of_row _ _ _ _ _ _ k4]; rfl
  have q2 : ∀ j, W1.frozen? ⟨w.heap.size + 1 + 1, j, none⟩ = false := fun j => frozen_of_row W1 _ j _ _ k2
  have q3 : ∀ j, W1.frozen? ⟨w.heap.size + 1 + 1 + 1, j, none⟩ = false := fun j => frozen_of_row W1 _ j _ _ k3
  have q4 : ∀ j, W1.frozen? ⟨w.heap.size + 1 + 1 + 1 + 1, j, none⟩ = false := fun j => frozen_of_row W1 _ j _ _ k4
  have HB1 := vl hB1
  have HK2 := vl k2
  have HK3 := vl k3
  have HK4 := vl k4
  show Calls Tryz.prog 10 #[.pointer (some ⟨sb, 0, none⟩), .agg #[.string q.m, .string q.p, .string q.h, .slice q.fa q.fn q.fc, .slice q.ba q.bn q.bc], .int .i64 now] w _
  clear al k0 k1 k2 k3 k4 hB1 hs1
  go_enter Tryz.func10, Tryz.ntmps10
  go_upto_region 1 with fail
  clear hW1
  go_wp2_with fail
  refine HIT.out.mono ?_
  rintro _ _ ⟨rfl, rfl⟩
  clear HIT
  go_wp2_with fail
  obtain ⟨X6, hX6⟩ : ∃ x, ((((W1.setCell ⟨w.heap.size + 1 + 1, 0, none⟩ (.int .i64 0)).setCell ⟨w.heap.size + 1 + 1, 1, none⟩ (.slice none 0 0)).setCell ⟨w.heap.size + 1 + 1, 2, none⟩ (.slice none 0 0)).setCell ⟨w.heap.size + 1 + 1 + 1, 0, none⟩ (.int .i64 0)).setCell ⟨w.heap.size + 1 + 1 + 1 + 1, 0, none⟩ (.iface 60 (.int .i64 1)) = x := ⟨_, rfl⟩
  have hT6 : Tn (fun k => w.heap.size + 2 ≤ k) W1 X6 := by rw [← hX6]; exact ((((tn_set (by show w.heap.size + 2 ≤ w.heap.size + 1 + 1; omega)).trans' (tn_set (by show w.heap.size + 2 ≤ w.heap.size + 1 + 1; omega))).trans' (tn_set (by show w.heap.size + 2 ≤ w.heap.size + 1 + 1; omega))).trans' (tn_set (by show w.heap.size + 2 ≤ w.heap.size + 1 + 1 + 1; omega))).trans' (tn_set (by show w.heap.size + 2 ≤ w.heap.size + 1 + 1 + 1 + 1; omega))
  have u2 : X6.heap[w.heap.size + 1 + 1]? = some (.cells #[.int .i64 0, .slice none 0 0, .slice none 0 0] 38 (0, 0)) := by
    rw [← hX6, heap_setCell_other _ _ _ _ (by show w.heap.size + 1 + 1 ≠ w.heap.size + 1 + 1 + 1 + 1; omega), heap_setCell_other _ _ _ _ (by show w.heap.size + 1 + 1 ≠ w.heap.size + 1 + 1 + 1; omega)]
    exact gbox_set3 HK2.out
  have u3 : X6.heap[w.heap.size + 1 + 1 + 1]? = some (.cells #[.int .i64 0] 3 (0, 0)) := by
    rw [← hX6, heap_setCell_other _ _ _ _ (by show w.heap.size + 1 + 1 + 1 ≠ w.heap.size + 1 + 1 + 1 + 1; omega)]
    refine gbox_set (u := .int .i64 0) ?_
    rw [heap_setCell_other _ _ _ _ (by show w.heap.size + 1 + 1 + 1 ≠ w.heap.size + 1 + 1; omega), heap_setCell_other _ _ _ _ (by show w.heap.size + 1 + 1 + 1 ≠ w.heap.size + 1 + 1; omega), heap_setCell_other _ _ _ _ (by show w.heap.size + 1 + 1 + 1 ≠ w.heap.size + 1 + 1; omega)]
    exact HK3.out
  have u4 : X6.heap[w.heap.size + 1 + 1 + 1 + 1]? = some (.cells #[.iface 60 (.int .i64 1)] 41 (0, 0)) := by
    rw [← hX6]
    refine gbox_set (u := .nilIface) ?_
    rw [heap_setCell_other _ _ _ _ (by show w.heap.size + 1 + 1 + 1 + 1 ≠ w.heap.size + 1 + 1 + 1; omega), heap_setCell_other _ _ _ _ (by show w.heap.size + 1 + 1 + 1 + 1 ≠ w.heap.size + 1 + 1; omega), heap_setCell_other _ _ _ _ (by show w.heap.size + 1 + 1 + 1 + 1 ≠ w.heap.size + 1 + 1; omega), heap_setCell_other _ _ _ _ (by show w.heap.size + 1 + 1 + 1 + 1 ≠ w.heap.size + 1 + 1; omega)]
    exact HK4.out
  try rw [hX6]
  have hb := HB1.out
  have hbw : Below w.heap.size w X6 := ⟨hT6.os.trans hb.os, hT6.tape.trans hb.tape, hT6.output.trans hb.output, Nat.le_trans hb.size hT6.size, fun k hk => (hT6.block k (Nat.lt_of_lt_of_le hk hb.size) (fun e => by have e' : w.heap.size + 2 ≤ k := e; omega)).trans (hb.block k hk)⟩
  have j20 : X6.cell? ⟨w.heap.size + 1 + 1, 0, none⟩ = some (.int .i64 0) := by rw [cell_of_row _ _ _ _ _ _ u2]; rfl
  have j21 : X6.cell? ⟨w.heap.size + 1 + 1, 1, none⟩ = some (.slice none 0 0) := by rw [cell_of_row _ _ _ _ _ _ u2]; rfl
  have j22 : X6.cell? ⟨w.heap.size + 1 + 1, 2, none⟩ = some (.slice none 0 0) := by rw [cell_of_row _ _ _ _ _ _ u2]; rfl
  have j3 : X6.cell? ⟨w.heap.size + 1 + 1 + 1, 0, none⟩ = some (.int .i64 0) := by rw [cell_of_row _ _ _ _ _ _ u3]; rfl
  have j4 : X6.cell? ⟨w.heap.size + 1 + 1 + 1 + 1, 0, none⟩ = some (.iface 60 (.int .i64 1)) := by rw [cell_of_row _ _ _ _ _ _ u4]; rfl
  refine bodyPost_ret (v := .tuple #[.agg #[.int .i64 0, .slice none 0 0, .slice none 0 0], .int .i64 0, .iface 60 (.int .i64 1)]) (by simp [results, Tryz.results10, go_sem, j20, j21, j22, j3, j4]) rfl ?_
  exact ⟨rfl, hbw⟩
set_option maxHeartbeats 4000000 in
theorem zput_bad (sb : Nat) (q : RqM) (a : RpM) (now : Int) (w : World) (hn : ¬ (0 ≤ now ∧ now ≤ 1000000)) :
    Calls Tryz.prog 6 #[.pointer (some ⟨sb, 0, none⟩), q.val, a.val, .int .i64 now] w fun e w' => e = .returned (.tuple #[.bool false, .iface 60 (.int .i64 1)]) ∧ Below w.heap.size w w' := by
  obtain ⟨W1, hW1⟩ : ∃ x, (w.alloc (.cells #[.string q.m, .string q.p, .string q.h, .slice q.fa q.fn q.fc, .slice q.ba q.bn q.bc] 36)).alloc (.cells #[.int .i64 a.code, .slice a.fa a.fn a.fc, .slice a.ba a.bn a.bc] 38) = x := ⟨_, rfl⟩
  have hB1 : Below w.heap.size w W1 := by rw [← hW1]; exact ((Below.refl _ w).alloc (Nat.le_refl _) _).alloc (by simp) _
  have HIT := vl (zistime_any now W1)
  rw [decide_eq_false hn] at HIT
  have HB1 := vl hB1
  show Calls Tryz.prog 6 #[.pointer (some ⟨sb, 0, none⟩), .agg #[.string q.m, .string q.p, .string q.h, .slice q.fa q.fn q.fc, .slice q.ba q.bn q.bc], .agg #[.int .i64 a.code, .slice a.fa a.fn a.fc, .slice a.ba a.bn a.bc], .int .i64 now] w _
  clear hB1
  go_enter Tryz.func6, Tryz.ntmps6
  go_wp2_with fail
  refine HIT.out.mono ?_
  rintro _ _ ⟨rfl, rfl⟩
  clear HIT hW1
  go_wp2_with fail
  go_ret2
  exact ⟨rfl, HB1.out⟩
end Go.Proofs.YtibipnipeaeonaaGreatDoor
