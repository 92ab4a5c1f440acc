/-
  A WINDOW, as the developers keep it: one number behind a pointer. No claim by itself.
-/
import Derived.Test.YtjkjeegmfhaidadDoorWspec
namespace Go.Proofs.YtjkjeegmfhaidadDoor
open Go.RowKit
set_option maxRecDepth 100000
def WinP (w : World) (wb : Nat) (n : Int) (S : Nat → Prop) : Prop := w.cell? ⟨wb, 0, none⟩ = some (.int .i64 n) ∧ w.frozen? ⟨wb, 0, none⟩ = false ∧ ∀ k, S k ↔ k = wb
theorem winKeeps : WinKeeps WinP where
  lt := fun h k hk => by rw [(h.2.2 k).1 hk]; exact blk_of_cell h.1
  frame := fun {w w' wb n S} h hb => ⟨(World.cell?_of_block (a := ⟨wb, 0, none⟩) (hb wb ((h.2.2 wb).2 rfl))).trans h.1, (World.frozen?_of_block (a := ⟨wb, 0, none⟩) (hb wb ((h.2.2 wb).2 rfl))).trans h.2.1, h.2.2⟩
theorem WinP.set {w : World} {wb : Nat} {n : Int} {S : Nat → Prop} (h : WinP w wb n S) (m : Int) : WinP (w.setCell ⟨wb, 0, none⟩ (.int .i64 m)) wb m S ∧ Tn S w (w.setCell ⟨wb, 0, none⟩ (.int .i64 m)) :=
  ⟨⟨World.cell?_setCell_same _ _ _ h.1, by rw [World.frozen?_setCell]; exact h.2.1, h.2.2⟩, tn_set ((h.2.2 wb).2 rfl)⟩
theorem fits_any (n : Int) (w : World) : Calls Tryd.prog 19 #[.int .i64 n] w fun e w' => e = .returned (.bool (decide (0 ≤ n) && decide (n ≤ 2147483647))) ∧ w = w' := by
  by_cases h1 : 0 ≤ n <;> by_cases h2 : n ≤ 2147483647 <;> simp only [h1, h2, decide_true, decide_false, Bool.and_true, Bool.and_false] <;>
  (go_enter Tryd.func19, Tryd.ntmps19; go_wp2; go_ret; exact ⟨rfl, rfl⟩)
theorem fits_yes {n : Int} (h1 : 0 ≤ n) (h2 : n ≤ 2147483647) (w : World) : Calls Tryd.prog 19 #[.int .i64 n] w fun e w' => e = .returned (.bool true) ∧ w = w' := by
  have h := fits_any n w
  rwa [show (decide (0 ≤ n) && decide (n ≤ 2147483647)) = true by simp [h1, h2]] at h
theorem fits_no {n : Int} (h1 : ¬ (0 ≤ n ∧ n ≤ 2147483647)) (w : World) : Calls Tryd.prog 19 #[.int .i64 n] w fun e w' => e = .returned (.bool false) ∧ w = w' := by
  have h := fits_any n w
  rwa [show (decide (0 ≤ n) && decide (n ≤ 2147483647)) = false by simp; omega] at h
theorem wnew_any : WNewSaid WinP := by
  intro n w
  by_cases h : 0 ≤ n ∧ n ≤ 2147483647
  · have HM := vl (fits_yes h.1 h.2 w)
    have hx : (w.alloc (.cells #[.int .i64 n] 47)).heap[w.heap.size]? = some (.cells #[.int .i64 n] 47 (0, 0)) := heap_alloc_new w _
    have HW : Vl (WinP (w.alloc (.cells #[.int .i64 n] 47)) w.heap.size n (fun k => k = w.heap.size)) := ⟨by simp only [World.cell?, hx]; rfl, by simp only [World.frozen?, hx]; rfl, fun k => Iff.rfl⟩
    have HB : Vl (Below w.heap.size w (w.alloc (.cells #[.int .i64 n] 47))) := (Below.refl _ w).alloc (Nat.le_refl _) _
    have HH := vl h
    clear h hx
    go_enter Tryd.func10, Tryd.ntmps10
    go_wp2_with fail
    refine HM.out.mono ?_
    rintro r w' ⟨rfl, rfl⟩
    go_wp2
    go_ret2
    exact ⟨HB.out, Or.inl ⟨HH.out.1, HH.out.2, _, _, rfl, HW.out, fun k hk => by omega⟩⟩
  · have HM := vl (fits_no h w)
    have HH := vl h
    clear h
    go_enter Tryd.func10, Tryd.ntmps10
    go_wp2_with fail
    refine HM.out.mono ?_
    rintro r w' ⟨rfl, rfl⟩
    go_wp2
    go_ret2
    exact ⟨Below.refl _ _, Or.inr ⟨HH.out, _, rfl⟩⟩
theorem wleft_any : WLeftSaid WinP := by
  intro wb n S w h
  have c0 := h.1
  clear h
  unfold wptr
  go_enter Tryd.func14, Tryd.ntmps14
  go_wp2
  go_ret
  exact ⟨rfl, rfl⟩
theorem wtake_any : WTakeSaid WinP := by
  intro wb n S a w h hm
  have c0 := h.1
  have f0 := h.2.1
  have HP := vl h
  have HS := vl (h.set (n - a))
  obtain ⟨m1, m2⟩ := hm
  clear h
  unfold wptr takeF
  by_cases h1 : a < 0
  · rw [if_pos h1]
    simp only [errW, show ¬ ((1 : Int) = 0) by decide, if_false]
    go_enter Tryd.func11, Tryd.ntmps11
    go_wp2
    go_ret
    exact ⟨rfl, HP.out, Tn.refl _ _⟩
  rw [if_neg h1]
  have h1' : 0 ≤ a := by omega
  by_cases h2 : n < a
  · rw [if_pos h2]
    simp only [errW, show ¬ ((9 : Int) = 0) by decide, if_false]
    go_enter Tryd.func11, Tryd.ntmps11
    go_wp2
    go_ret
    exact ⟨rfl, HP.out, Tn.refl _ _⟩
  · rw [if_neg h2]
    simp only [errW, if_true]
    have h2' : a ≤ n := by omega
    go_enter Tryd.func11, Tryd.ntmps11
    go_wp2
    go_ret
    exact ⟨rfl, HS.out.1, HS.out.2⟩
def growF (n a : Int) : Int × Int := if 2147483647 < n + a then (10, n) else (0, n + a)
theorem grow_any {wb : Nat} {n : Int} {S : Nat → Prop} {a : Int} {w : World} (h : WinP w wb n S) (hm : Mild n) (ha : -2147483647 ≤ a) (hb : a ≤ 2147483647) :
    Calls Tryd.prog 20 #[wptr wb, .int .i64 a] w fun e w' => e = .returned (errW (growF n a).1) ∧ WinP w' wb (growF n a).2 S ∧ Tn S w w' := by
  have c0 := h.1
  have f0 := h.2.1
  have HP := vl h
  have HS := vl (h.set (n + a))
  obtain ⟨m1, m2⟩ := hm
  clear h
  unfold wptr growF
  by_cases h1 : 2147483647 < n + a
  · rw [if_pos h1]
    simp only [errW, show ¬ ((10 : Int) = 0) by decide, if_false]
    go_enter Tryd.func20, Tryd.ntmps20
    go_wp2
    go_ret
    exact ⟨rfl, HP.out, Tn.refl _ _⟩
  · rw [if_neg h1]
    simp only [errW, if_true]
    go_enter Tryd.func20, Tryd.ntmps20
    go_wp2
    go_ret
    exact ⟨rfl, HS.out.1, HS.out.2⟩
theorem wgive_any : WGiveSaid WinP := by
  intro wb n S a w h hm
  have HP := vl h
  unfold giveF
  by_cases h1 : a < 1 ∨ 2147483647 < a
  · rw [if_pos h1]
    simp only [errW, show ¬ ((1 : Int) = 0) by decide, if_false]
    by_cases h0 : a = 0
    · subst h0
      clear h1 h hm
      unfold wptr
      go_enter Tryd.func12, Tryd.ntmps12
      go_wp2
      go_ret
      exact ⟨rfl, HP.out, Tn.refl _ _⟩
    · have HM := vl (fits_no (n := a) (by omega) w)
      have h0' : (a == 0) = false := beq_eq_false_iff_ne.2 h0
      clear h1 h hm
      unfold wptr
      go_enter Tryd.func12, Tryd.ntmps12
      go_wp2_with fail
      refine HM.out.mono ?_
      rintro r w' ⟨rfl, rfl⟩
      go_wp2
      go_ret
      exact ⟨rfl, HP.out, Tn.refl _ _⟩
  rw [if_neg h1]
  have h0' : (a == 0) = false := beq_eq_false_iff_ne.2 (by omega)
  have HM := vl (fits_yes (n := a) (by omega) (by omega) w)
  have HG := vl (grow_any h hm (a := a) (by omega) (by omega))
  rw [show (if 2147483647 < n + a then ((10, n) : Int × Int) else (0, n + a)) = growF n a from rfl]
  clear h1 h hm
  unfold wptr at HG ⊢
  go_enter Tryd.func12, Tryd.ntmps12
  go_wp2_with fail
  refine HM.out.mono ?_
  rintro r w' ⟨rfl, rfl⟩
  go_wp2_with fail
  refine HG.out.mono ?_
  rintro r w' ⟨rfl, g1, g2⟩
  go_wp2
  go_ret
  exact ⟨rfl, g1, g2⟩
theorem wshift_any : WShiftSaid WinP := by
  intro wb n S a b w h hm
  have HP := vl h
  unfold shiftF
  by_cases h1 : a < 0 ∨ 2147483647 < a ∨ b < 0 ∨ 2147483647 < b
  · rw [if_pos h1]
    simp only [errW, show ¬ ((1 : Int) = 0) by decide, if_false]
    by_cases h0 : 0 ≤ a ∧ a ≤ 2147483647
    · have HA := vl (fits_yes h0.1 h0.2 w)
      have HM := vl (fits_no (n := b) (by omega) w)
      clear h1 h hm h0
      unfold wptr
      go_enter Tryd.func13, Tryd.ntmps13
      go_wp2_with fail
      refine HA.out.mono ?_
      rintro r w' ⟨rfl, rfl⟩
      go_wp2_with fail
      refine HM.out.mono ?_
      rintro r w' ⟨rfl, rfl⟩
      go_wp2
      go_ret
      exact ⟨rfl, HP.out, Tn.refl _ _⟩
    · have HM := vl (fits_no h0 w)
      clear h1 h hm h0
      unfold wptr
      go_enter Tryd.func13, Tryd.ntmps13
      go_wp2_with fail
      refine HM.out.mono ?_
      rintro r w' ⟨rfl, rfl⟩
      go_wp2
      go_ret
      exact ⟨rfl, HP.out, Tn.refl _ _⟩
  rw [if_neg h1]
  have HA := vl (fits_yes (n := a) (by omega) (by omega) w)
  have HM := vl (fits_yes (n := b) (by omega) (by omega) w)
  have HG := vl (grow_any h hm (a := b - a) (by omega) (by omega))
  rw [show (if 2147483647 < n + b - a then ((10, n) : Int × Int) else (0, n + b - a)) = growF n (b - a) by unfold growF; rw [show n + (b - a) = n + b - a by omega]]
  have r1 : -2147483647 ≤ b - a := by omega
  have r2 : b - a ≤ 2147483647 := by omega
  clear h1 h hm
  unfold wptr at HG ⊢
  go_enter Tryd.func13, Tryd.ntmps13
  go_wp2_with fail
  refine HA.out.mono ?_
  rintro r w' ⟨rfl, rfl⟩
  go_wp2_with fail
  refine HM.out.mono ?_
  rintro r w' ⟨rfl, rfl⟩
  go_wp2_with fail
  refine HG.out.mono ?_
  rintro r w' ⟨rfl, g1, g2⟩
  go_wp2
  go_ret
  exact ⟨rfl, g1, g2⟩
end Go.Proofs.YtjkjeegmfhaidadDoor
