/-
  CONTRACT of the Go function slices.Delete at fields, where the last ones go. No claim by itself.
-/
import Derived.Test.YtkjfhgoddhigmacDoorDtab3
import Derived.Deep.RegionLaw
import Derived.Lib.SliceRun
namespace Go.Proofs.YtkjfhgoddhigmacDoor
open Go.RowKit
theorem zeroF : ∀ w, (zeroValue 33).run Tryd.prog w = .ok (.agg #[.string ⟨#[]⟩, .string ⟨#[]⟩]) w := by
  intro w
  obtain ⟨i0, hi, hz0, _, _⟩ := info_parts (show (Tryd.prog.info? 33).map (fun i => (i.zero, i.size, i.bytes)) = some (some (.agg #[.string ⟨#[]⟩, .string ⟨#[]⟩]), 2, 32) by kernel_rfl)
  simp [zeroValue, typeInfo, hi, hz0]
/-- 'clear(s)': its cells hold zero values. -/
theorem run_clear_rowF (w : World) (ty : TypeId) (g o n c : Nat) (cur : Array Value) (t : TypeId) (hg : w.heap[g]? = some (.cells cur t (0, 0))) (hn : 0 < n) (hfit : o + n * 2 ≤ cur.size) :
    ∃ zs : List Value, zs.length = n * 2 ∧ (Builtin.clear_ #[34] ty #[.slice (some ⟨g, o, none⟩) n c]).run Tryd.prog w = .ok (.tuple #[]) (w.setRow g (cur.toList.take o ++ zs ++ cur.toList.drop (o + zs.length)).toArray) := by
  obtain ⟨zs, hzs⟩ : ∃ zs, zs = (Builtin.zeroCells (Value.agg #[.string ⟨#[]⟩, .string ⟨#[]⟩]).cells n).toList := ⟨_, rfl⟩
  have hl : zs.length = n * 2 := by rw [hzs]; simp [Builtin.zeroCells, Value.cells]
  have h1 : ∀ v ∈ zs, v.oneCell' = true := by
    intro v hv
    rw [hzs] at hv
    simp [Builtin.zeroCells, Value.cells] at hv
    obtain ⟨i, _, rfl⟩ := hv
    rcases Nat.mod_two_eq_zero_or_one i with h | h <;> simp [h] <;> rfl
  have hst := run_storeCells_at Tryd.prog g o t zs 0 cur w hg (by omega) h1
  refine ⟨zs, hl, ?_⟩
  obtain ⟨m, rfl⟩ : ∃ m, n = m + 1 := ⟨n - 1, by omega⟩
  simp only [Nat.add_zero] at hst
  simp [Builtin.clear_, run_underlying Tryd.underlying34, ← hzs, hst]
theorem off_setRow {S : Nat → Prop} {w w' : World} (h : Off S w w') (g : Nat) (hg : S g) (cs : Array Value) : Off S w (w'.setRow g cs) :=
  ⟨h.os, h.tape, h.output, by simpa [World.setRow] using h.size, fun k hk hs => (setRow_other w' g k cs (fun e => hs (e ▸ hg))).trans (h.block k hk hs)⟩
set_option maxHeartbeats 4000000 in
set_option maxRecDepth 100000 in
theorem del_row (g cap N n : Nat) (cur : Array Value) (w : World) (hg : w.heap[g]? = some (.cells cur 33 (0, 0))) (hn : n ≤ N) (hN : N ≤ cap) (hcap : cap ≤ maxLen) (hsz : cur.size = cap * 2) :
    Calls Tryd.prog 39 #[.slice (some ⟨g, 0, none⟩) N cap, .int .i64 n, .int .i64 N] w fun e w' => e = .returned (.slice (some ⟨g, 0, none⟩) n cap) ∧ Off (fun k => k = g) w w' ∧ w'.heap.size = w.heap.size ∧
      ∃ cur' : Array Value, w'.heap[g]? = some (.cells cur' 33 (0, 0)) ∧ cur'.size = cap * 2 ∧ cur'.toList.take (n * 2) = cur.toList.take (n * 2) := by
  have hcp := hcap
  unfold maxLen at hcp
  by_cases heq : n = N
  · subst heq
    have h0 : Calls Tryd.prog 39 #[.slice (some ⟨g, 0, none⟩) n cap, .int .i64 n, .int .i64 n] w fun e w' => e = .returned (.slice (some ⟨g, 0, none⟩) n cap) ∧ w = w' := by
      clear hg
      go_enter Tryd.func39, Tryd.ntmps39
      go_wp2
      all_goals (go_ret; exact ⟨rfl, rfl⟩)
    refine h0.mono ?_
    rintro e w' ⟨rfl, rfl⟩
    exact ⟨rfl, Off.of_below (Below.refl _ _), rfl, cur, hg, hsz, rfl⟩
  · obtain ⟨i0, hi, hz0, hz1, hz2⟩ := info_parts (show (Tryd.prog.info? 33).map (fun i => (i.zero, i.size, i.bytes)) = some (some (.agg #[.string ⟨#[]⟩, .string ⟨#[]⟩]), 2, 32) by kernel_rfl)
    have hlt : n < N := by omega
    have hgd : w.drew.heap[g]? = some (.cells cur 33 (0, 0)) := hg
    obtain ⟨zs, hzl, hcl⟩ : ∃ zs : List Value, zs.length = (N - n) * 2 ∧ ∀ ty, (Builtin.clear_ #[34] ty #[.slice (some ⟨g, n * 2, none⟩) (N - n) (cap - n)]).run Tryd.prog w.drew = .ok (.tuple #[]) (w.drew.setRow g (cur.toList.take (n * 2) ++ zs ++ cur.toList.drop (n * 2 + zs.length)).toArray) := by
      obtain ⟨zs, h1, h2⟩ := run_clear_rowF w.drew 0 g (n * 2) (N - n) (cap - n) cur _ hgd (by omega) (by omega)
      exact ⟨zs, h1, fun ty => h2⟩
    obtain ⟨A, hA⟩ : ∃ A : Addr, (if cap = N then some (⟨g, 0, none⟩ : Addr) else some ⟨g, N * 2, none⟩) = some A := by
      by_cases h : cap = N
      · exact ⟨_, by rw [if_pos h]⟩
      · exact ⟨_, by rw [if_neg h]⟩
    have h1 : n ≤ cap := by omega
    have hcl2 : ∀ ty, (Builtin.clear_ #[34] ty #[.slice (some ⟨g, n * 2, none⟩) (N - n) (cap - n)]).run Tryd.prog (w.drew.setCells g (n * 2) []) = .ok (.tuple #[]) (w.drew.setRow g (cur.toList.take (n * 2) ++ zs ++ cur.toList.drop (n * 2 + zs.length)).toArray) := hcl
    clear hcl
    have HG := hide hg
    have hcn : ¬ (cap = n) := by omega
    clear hg hgd
    go_enter Tryd.func39, Tryd.ntmps39
    go_wp2_with fail
    go_region_law (refine step_append_room rfl (.tmp 22) (.tmp 25) 34 rfl 33 i0 2 Tryd.underlying34 hi hz1 g 0 n cap (by simp [Act.eval, Act.put]) A 0 (cap - N) [] (by simp [Act.eval, Act.put]) rfl (fun j u h => by simp at h) (fun u h => by simp at h) (by omega) (fun j h => by simp at h) ?_)
    go_simp
    go_wp2
    go_ret
    refine ⟨rfl, off_setRow (S := fun k => k = g) (Off.of_below ((Below.refl _ _).drew)) g rfl _, by simp [World.setRow], _, setRow_heap w.drew g cur _ 33 (0, 0) HG.out, ?_, ?_⟩
    · simp only [List.size_toArray, List.length_append, List.length_take, List.length_drop, Array.length_toList, hzl, hsz]; omega
    · show List.take (n * 2) (List.take (n * 2) cur.toList ++ _) = _
      rw [List.take_append_of_le_length (by rw [List.length_take, Array.length_toList]; omega), List.take_take, Nat.min_self]
theorem del_nil (w : World) : Calls Tryd.prog 39 #[.slice none 0 0, .int .i64 0, .int .i64 0] w fun e w' => e = .returned (.slice none 0 0) ∧ w = w' := by
  go_enter Tryd.func39, Tryd.ntmps39
  go_wp2
  go_ret
  exact ⟨rfl, rfl⟩
end Go.Proofs.YtkjfhgoddhigmacDoor
