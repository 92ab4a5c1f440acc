/-
  CONTRACTS of the methods shrink (whatever the table holds) and Resize of the developers' table. No claim by itself.
-/
import Derived.Test.YtkjfhgoddhigmacDoorDtab5
namespace Go.Proofs.YtkjfhgoddhigmacDoor
open Go.RowKit
theorem shrink_nil (tb : Nat) (max room : Int) (w : World) (hb : w.heap[tb]? = some (.cells #[.int .i64 max, .int .i64 0, .slice none 0 0] 55 (0, 0))) (h0 : 0 ≤ room) :
    Calls Tryd.prog 30 #[.pointer (some ⟨tb, 0, none⟩), .int .i64 room] w fun e w' => e = .returned (.tuple #[]) ∧ Off (fun k => k = tb) w w' ∧ w'.heap[tb]? = some (.cells #[.int .i64 max, .int .i64 0, .slice none 0 0] 55 (0, 0)) := by
  have c1 : w.cell? ⟨tb, 1, none⟩ = some (.int .i64 0) := by rw [cell_at hb]; rfl
  have c2 : w.cell? ⟨tb, 2, none⟩ = some (.slice none 0 0) := by rw [cell_at hb]; rfl
  have f2 : w.frozen? ⟨tb, 2, none⟩ = false := frozen_at hb 2
  have hd : decide (room < 0) = false := by simp; omega
  have HB := hide hb
  clear hb
  go_enter Tryd.func30, Tryd.ntmps30
  go_wp2_with fail
  refine wp_loop_rounds 1 ?_
  rw [rounds_succ]
  go_wp2_with fail
  go_region_with (go_at_call 39; refine (del_nil _).mono ?_; rintro e w' ⟨rfl, rfl⟩)
  all_goals
    go_wp2
    go_end0
    exact ⟨rfl, ((Off.of_below (S := fun k => k = tb) (Below.refl _ w)).setCell tb 2 rfl _).trans (Off.of_below ((Below.refl _ _).drew)), by show (w.setCell ⟨tb, 2, none⟩ (.slice none 0 0)).heap[tb]? = _; rw [heap_set HB.out]; rfl⟩

/-- shrink, whatever the table holds: the newest stay, as many as are at most room. -/
theorem shrink_any (tb : Nat) (max room : Int) (A : List (ByteArray × ByteArray)) (S : Nat → Prop) (w : World) (hD : TabP w tb max A S) (hw : weight A ≤ 4096) (h0 : 0 ≤ room) :
    Calls Tryd.prog 30 #[.pointer (some ⟨tb, 0, none⟩), .int .i64 room] w fun e w' => e = .returned (.tuple #[]) ∧ Off S w w' ∧ TabP w' tb max (A.take (keepN A room A.length)) S := by
  obtain ⟨hal, v, hb, hl, hS⟩ := hD
  have hat : 0 ≠ tb := hal.ne (i := (weight A : Int)) (k := .i64) (by rw [cell_at hb]; rfl)
  rcases hl with ⟨rfl, rfl⟩ | ⟨g, cap, cur, rfl, a1, a2, hg, q1, q2, q3, q4⟩
  · refine (shrink_nil tb max room w hb h0).mono ?_
    rintro e w' ⟨rfl, hoff, hb'⟩
    refine ⟨rfl, hoff.mono (fun k hk => (hS k).2 (Or.inl hk)), hal.kept (hoff.block _ hal.pos hat), _, hb', Or.inl ⟨rfl, by simp⟩, hS⟩
  · refine (shrink_row tb g cap max room A cur w hb a2 hg q1 q2 q3 q4 hw h0).mono ?_
    rintro e w' ⟨rfl, hoff, hb', cur', hg', hc', ht'⟩
    have hk := keepN_le A room A.length
    have hlk : (A.take (keepN A room A.length)).length = keepN A room A.length := by rw [List.length_take]; omega
    refine ⟨rfl, hoff.mono (fun k hk => (hS k).2 (by rcases hk with h | h; exact Or.inl h; exact Or.inr (by rw [h]; rfl))), hal.kept (hoff.block _ hal.pos (fun h => by rcases h with h | h; exact hat h; exact a1 h)), _, hb', Or.inr ⟨g, cap, cur', by rw [hlk], a1, a2, hg', by rw [hlk]; omega, q2, hc', by rw [hlk]; exact ht'⟩, hS⟩
/-- A table whose greatest size is set. -/
theorem TabP.setMax {w : World} {tb : Nat} {max : Int} {A : List (ByteArray × ByteArray)} {S : Nat → Prop} (h : TabP w tb max A S) (m : Int) : TabP (w.setCell ⟨tb, 0, none⟩ (.int .i64 m)) tb m A S := by
  obtain ⟨hal, v, hb, hl, hS⟩ := h
  have hat : 0 ≠ tb := hal.ne (i := (weight A : Int)) (k := .i64) (by rw [cell_at hb]; rfl)
  refine ⟨hal.kept (Below.heap_setCell w ⟨tb, 0, none⟩ _ _ hat), v, by rw [heap_set hb]; rfl, ?_, hS⟩
  rcases hl with hl | ⟨g, cap, cur, rfl, a1, a2, hg, q⟩
  · exact Or.inl hl
  · exact Or.inr ⟨g, cap, cur, rfl, a1, a2, (Below.heap_setCell w ⟨tb, 0, none⟩ _ g a2).trans hg, q⟩
theorem tresize : TResizeSaid TabP := by
  intro tb max A S m w hD hF
  unfold tval
  by_cases hm : 0 ≤ m ∧ m ≤ 4096
  · have hm' := hm
    obtain ⟨m0, m1⟩ := hm'
    have hw : weight A ≤ 4096 := by have h1 := hF.h1; have h2 := hF.h2; omega
    have hsh := shrink_any tb m m A S _ (hD.setMax m) hw m0
    have HO : Hid (Off S w (w.setCell ⟨tb, 0, none⟩ (.int .i64 m))) := (Off.of_below (Below.refl _ w)).setCell tb 0 ((hD.row.choose_spec.2.2 tb).2 (Or.inl rfl)) _
    obtain ⟨_, v, hb, _, _⟩ := hD
    have c0 : w.cell? ⟨tb, 0, none⟩ = some (.int .i64 max) := by rw [cell_at hb]; rfl
    have f0 : w.frozen? ⟨tb, 0, none⟩ = false := frozen_at hb 0
    clear hb
    go_enter Tryd.func18, Tryd.ntmps18
    go_wp2_with fail
    refine (maymax_yes m w m0 m1).mono ?_
    rintro e w' ⟨rfl, rfl⟩
    go_wp2_with fail
    refine hsh.mono ?_
    rintro e w2 ⟨rfl, hoff, hD2⟩
    clear hsh
    go_wp2
    go_ret
    exact ⟨HO.out.trans hoff, S, fun k hk => Or.inl hk, Or.inl ⟨m0, m1, rfl, hD2⟩⟩
  · have HD := hide hD
    clear hD
    go_enter Tryd.func18, Tryd.ntmps18
    go_wp2_with fail
    refine (maymax_no m w hm).mono ?_
    rintro e w' ⟨rfl, rfl⟩
    go_wp2
    go_ret
    exact ⟨Off.of_below (Below.refl _ _), S, fun k hk => Or.inl hk, Or.inr ⟨hm, rfl, HD.out⟩⟩
end Go.Proofs.YtkjfhgoddhigmacDoor
