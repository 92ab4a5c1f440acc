/-
  CONTRACTS of the Go function slices.Insert at fields, at the front, of one field. No claim by itself.
-/
import Derived.Test.YtkjfhgoddhigmacDoorDtab6
import Derived.Shelf.Spec.SlicesInsert
import Derived.Lib.AppendZerosOnto
import Derived.Lib.Overlaps
import Derived.Maps.AppendAt
import Derived.Laws.Externs
namespace Go.Proofs.YtkjfhgoddhigmacDoor
open Go.RowKit
theorem infoFd : (Tryd.prog.info? 33).map (fun i => (i.zero, i.size, i.bytes)) = some (some (.agg #[.string ⟨#[]⟩, .string ⟨#[]⟩]), 2, 32) := by kernel_rfl
theorem fcells_get2 (A : List (ByteArray × ByteArray)) : ∀ u ∈ fcells A, u.oneCell' = true := by
  intro u hu
  obtain ⟨f, _, hf⟩ := List.mem_flatMap.1 hu
  simp at hf
  rcases hf with rfl | rfl <;> rfl
theorem addr_add (g o j : Nat) : (⟨g, o, none⟩ : Addr).add j = ⟨g, o + j, none⟩ := by unfold Addr.add; split <;> simp_all
/-- 'copy(d, s)' at fields, into a row that is known whole. -/
theorem run_copy_rowF (w : World) (ty : TypeId) (g o dLen dCap : Nat) (a : Addr) (sLen sCap : Nat) (cur : Array Value) (t : TypeId) (cs : List Value)
    (hg : w.heap[g]? = some (.cells cur t (0, 0))) (hn : cs.length = Nat.min sLen dLen * 2)
    (hsrc : ∀ j v, cs[j]? = some v → w.cell? (a.add j) = some v) (hfit : o + cs.length ≤ cur.size) (h1 : ∀ v ∈ cs, v.oneCell' = true) :
    (Builtin.copy_ #[34, 34] ty #[.slice (some ⟨g, o, none⟩) dLen dCap, .slice (some a) sLen sCap]).run Tryd.prog w =
      .ok (goInt (Nat.min sLen dLen)) (w.setRow g (cur.toList.take o ++ cs ++ cur.toList.drop (o + cs.length)).toArray) := by
  have hl := run_loadCells_list (P := Tryd.prog) w a cs hsrc
  have hst := run_storeCells_at Tryd.prog g o t cs 0 cur w hg (by simpa using hfit) h1
  obtain ⟨i0, hi, _, hz1, _⟩ := info_parts infoFd
  simp [Builtin.copy_, run_underlying Tryd.underlying34, Builtin.lenOf, Builtin.firstCells, sizeOf, typeInfo, hi, hz1, ← hn, hl, hst]
set_option maxRecDepth 100000 in
set_option maxHeartbeats 4000000 in
theorem ins_nil (n v : ByteArray) (vb : Nat) (w : World) (hv : w.heap[vb]? = some (.cells #[.string n, .string v] 33 (0, 0))) :
    Calls Tryd.prog 35 #[.slice none 0 0, .int .i64 0, .slice (some ⟨vb, 0, none⟩) 1 1] w fun e w' => ∃ s', e = .returned s' ∧ w'.ownsRow 0 33 2 s' 1 (fcells [(n, v)]) ∧ w.grownBy w' none ∧ s' ≠ .slice none 0 0 ∧ s'.ownBlock = some w.heap.size := by
  obtain ⟨i0, hi, hz0, hz1, hz2⟩ := info_parts infoFd
  have HC : Hid (∀ j u, (fcells [(n, v)])[j]? = some u → w.cell? ((⟨vb, 0, none⟩ : Addr).add j) = some u) := fun j u hu => by
    rw [addr_add, Nat.zero_add, cell_at hv, ← hu]
    show #[Value.string n, Value.string v][j]? = [Value.string n, Value.string v][j]?
    simp
  have HO := hide (World.ownsRow_nil w 0 33 2)
  clear hv
  go_enter Tryd.func35, Tryd.ntmps35
  go_wp2_with (at_builtin; refine wpList_append_own_at _ rfl _ _ 34 rfl 0 33 i0 _ 2 32 Tryd.underlying34 hi hz0 hz1 hz2 rfl (by decide) _ _ _ rfl HO.out ⟨vb, 0, none⟩ 1 1 (fcells [(n, v)]) rfl rfl HC.out (fcells_get2 _) (by decide) (by decide) (Nat.zero_le _) ?_)
  intro v' w3 hown' hgrow hnil hat
  have hn' : v' ≠ .slice none 0 0 := hnil
  have ho' : v'.ownBlock = some w.heap.size := by
    rcases hat with h | h
    · exfalso
      obtain ⟨_, ⟨h2, _⟩ | ⟨g, cap, cur, h2, _⟩⟩ := hown'
      · exact hn' h2
      · rw [h2] at h; simp [Value.ownBlock] at h
    · exact h
  have P1 := hide hown'
  have P2 := hide hgrow
  have P3 := hide hn'
  have P4 := hide ho'
  clear hown' hgrow hnil hat hn' ho'
  go_wp2
  go_ret
  exact ⟨v', rfl, P1.out, P2.out, P3.out, P4.out⟩
set_option maxRecDepth 100000 in
set_option maxHeartbeats 4000000 in
theorem ins_end (n v : ByteArray) (vb g cap : Nat) (w : World) (hv : w.heap[vb]? = some (.cells #[.string n, .string v] 33 (0, 0))) (hcap : cap ≤ maxLen)
    (ho : w.ownsRow 0 33 2 (.slice (some ⟨g, 0, none⟩) 0 cap) 0 []) :
    Calls Tryd.prog 35 #[.slice (some ⟨g, 0, none⟩) 0 cap, .int .i64 0, .slice (some ⟨vb, 0, none⟩) 1 1] w fun e w' => ∃ s', e = .returned s' ∧ w'.ownsRow 0 33 2 s' 1 (fcells [(n, v)]) ∧ w.grownBy w' (some g) ∧ s' ≠ .slice none 0 0 ∧ (s'.ownBlock = some g ∨ s'.ownBlock = some w.heap.size) := by
  obtain ⟨i0, hi, hz0, hz1, hz2⟩ := info_parts infoFd
  have hcp := hcap
  unfold maxLen at hcp
  have HC : Hid (∀ j u, (fcells [(n, v)])[j]? = some u → w.cell? ((⟨vb, 0, none⟩ : Addr).add j) = some u) := fun j u hu => by
    rw [addr_add, Nat.zero_add, cell_at hv, ← hu]
    show #[Value.string n, Value.string v][j]? = [Value.string n, Value.string v][j]?
    simp
  have HO := hide ho
  clear hv ho
  go_enter Tryd.func35, Tryd.ntmps35
  go_wp2_with (at_builtin; refine wpList_append_own_at _ rfl _ _ 34 rfl 0 33 i0 _ 2 32 Tryd.underlying34 hi hz0 hz1 hz2 rfl (by decide) _ _ _ rfl HO.out ⟨vb, 0, none⟩ 1 1 (fcells [(n, v)]) rfl rfl HC.out (fcells_get2 _) (by decide) (by decide) (Nat.zero_le _) ?_)
  all_goals
    intro v' w3 hown' hgrow hnil hat
    have P1 := hide hown'
    have P2 := hide hgrow
    have P3 := hide (show v' ≠ .slice none 0 0 from hnil)
    have P4 := hide hat
    clear hown' hgrow hnil hat
    go_wp2
    go_ret
    exact ⟨v', rfl, P1.out, P2.out, P3.out, P4.out⟩
end Go.Proofs.YtkjfhgoddhigmacDoor
