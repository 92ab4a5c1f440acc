/-
  CONTRACT of the Go function bytes.Clone. No claim by itself.
-/
import Derived.Lib.AppendZerosOnto
import Derived.Lib.SliceRun
import Derived.Lib.Walk
import Derived.Test.YtglmppadhlkkgagGreatDoorG7
namespace Go.Proofs.YtglmppadhlkkgagGreatDoor
open Go Go.RowKit Go.Shelf
set_option maxRecDepth 100000
/-- Nothing is cloned as nothing. -/
theorem clone_none (n c : Nat) (w : World) :
    Calls Tryz.prog 52 #[.slice none n c] w fun e w' => e = .returned (.slice none 0 0) ∧ w = w' := by
  have q : ∀ (w : World) (a : Option Addr) (n c n' c' : Nat), (binOp .eql 23 (.slice a n c) (.slice none n' c')).run Tryz.prog w = .ok (.bool a.isNone) w := fun w a n c n' c' => Lib.run_eql_slice_nil w _ _ a n c n' c' Tryz.underlying23
  go_enter Tryz.func52, Tryz.ntmps52
  go_wp2
  go_ret
  exact ⟨rfl, rfl⟩
theorem info5 : (Tryz.prog.info? 5).map (fun i => (i.zero, i.size, i.bytes)) = some (some (.int .u8 0), 1, 1) := by kernel_rfl
set_option maxHeartbeats 2000000 in
theorem clone_some (a : Addr) (n c : Nat) (Z : List Int) (w : World) (hZ : Z.length = n) (hbig : n ≤ 140737488355328) (hc : n = 0 ∨ ∃ g off, a = ⟨g, off, none⟩ ∧ Row w g off n c Z) :
    Calls Tryz.prog 52 #[.slice (some a) n c] w fun e w' => ∃ g' c', e = .returned (.slice (some ⟨g', 0, none⟩) n c') ∧ w'.ownsRow w.heap.size 5 1 (.slice (some ⟨g', 0, none⟩) n c') n (Z.map (Value.int .u8)) ∧ Below w.heap.size w w' := by
  have q : ∀ (w : World) (a : Option Addr) (n c n' c' : Nat), (binOp .eql 23 (.slice a n c) (.slice none n' c')).run Tryz.prog w = .ok (.bool a.isNone) w := fun w a n c n' c' => Lib.run_eql_slice_nil w _ _ a n c n' c' Tryz.underlying23
  obtain ⟨i0, hi, hz0, hz1, hz2⟩ := info_parts info5
  have A : Vl (∀ j u, (Z.map (Value.int .u8))[j]? = some u → (w.alloc (.cells #[] 5)).cell? (a.add j) = some u) := by
    intro j u hj
    have hjn : j < Z.length := by
      have := (List.getElem?_eq_some_iff.1 hj).1
      simpa using this
    rcases hc with h0 | ⟨g, off, rfl, hr⟩
    · omega
    · have hb := hr.below ((Below.refl _ w).alloc (Nat.le_refl _) (.cells #[] 5))
      have hx := hb.hcell j (by omega)
      have e : (Z.map (Value.int .u8))[j]? = some (Value.int .u8 (Z.getD j 0)) := by simp [List.getD, List.getElem?_eq_getElem hjn]
      rw [e] at hj
      have hplain : (⟨g, off, none⟩ : Addr).add j = ⟨g, off + j, none⟩ := by unfold Addr.add; split <;> simp_all
      rw [hplain, hx]; exact hj
  clear hc
  go_enter Tryz.func52, Tryz.ntmps52
  go_wp2_with (at_builtin; refine wpList_append_own _ rfl _ _ 23 rfl w.heap.size 5 i0 (.int .u8 0) 1 1 Tryz.underlying23 hi hz0 hz1 hz2 rfl (by decide) _ _ _ rfl (World.ownsRow_made w #[] 0 (Nat.le_refl _) (Nat.zero_le _) rfl) a n c (Z.map (Value.int .u8)) rfl ?qc1 ?qc2 ?qc3 ?qc4 ?qc5 ?qc6 ?_)
  case qc1 => simp; omega
  case qc2 => exact A.out
  case qc3 => intro u hu; obtain ⟨x, _, rfl⟩ := List.mem_map.1 hu; rfl
  case qc4 => unfold maxLen; omega
  case qc5 => omega
  case qc6 => simp
  intro v' w1 hown hgrow hnil
  go_wp2
  go_ret
  have hnn : v' ≠ .slice none 0 0 := by
    first | exact hnil | (intro e; exact absurd (hnil.1 e).1 (by simp))
  have hB : Below w.heap.size w w1 := ((Below.refl _ w).alloc (Nat.le_refl _) _).grown hgrow (by simp) (by intro k hk; simp [Value.ownBlock] at hk; omega)
  have hown' : w1.ownsRow w.heap.size 5 1 v' n (Z.map (Value.int .u8)) := by simpa using hown
  obtain ⟨q1, ⟨q2, _⟩ | ⟨g', c', cur, rfl, q3⟩⟩ := hown'
  · exact absurd q2 hnn
  · exact ⟨g', c', rfl, ⟨q1, Or.inr ⟨g', c', cur, rfl, q3⟩⟩, hB⟩
/-- Bytes, cloned. -/
theorem clone_arg (a : Option Addr) (n c : Nat) (Z : List Int) (w : World) (hA : Arg w a n c Z) (hnil : a = none → n = 0) (hbig : n ≤ 140737488355328) :
    Calls Tryz.prog 52 #[.slice a n c] w fun e w' => ∃ v, e = .returned v ∧ UOwn w' w.heap.size v Z ∧ Below w.heap.size w w' := by
  have hz := hA.len
  match a with
  | none =>
    have hn := hnil rfl
    refine (clone_none n c w).mono ?_
    rintro e w' ⟨rfl, rfl⟩
    exact ⟨_, rfl, Or.inl ⟨rfl, List.eq_nil_of_length_eq_zero (by omega)⟩, Below.refl _ _⟩
  | some x =>
    refine (clone_some x n c Z w hz hbig ?_).mono ?_
    · rcases hA with ⟨h0, _⟩ | ⟨g, off, he, hr⟩
      · exact Or.inl h0
      · cases he
        exact Or.inr ⟨g, off, rfl, hr⟩
    · rintro e w' ⟨g', c', rfl, ho, hb⟩
      refine ⟨_, rfl, UOwn.of (by rw [hz]; exact ho), hb⟩
end Go.Proofs.YtglmppadhlkkgagGreatDoor
