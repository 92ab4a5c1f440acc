/-
  CONTRACTS of the Go functions tollref1.pow and tollref1.Put. No claim by itself.
-/
import Derived.Test.YtkjfhgoddhigmabDoorPut
import Derived.Test.YtkjfhgoddhigmabDoorPow
namespace Go.Proofs.YtkjfhgoddhigmabDoor
open Go.RowKit
set_option maxRecDepth 100000
theorem rput_no (n b f : Int) (w : World) (h : ¬ putOk n b f) :
    Calls Tryd.prog 34 #[.int .i64 n, .int .i64 b, .int .i64 f] w fun e w' => e = .returned (.tuple #[.slice none 0 0, .int .i64 1]) ∧ w = w' := by
  have h : ¬ (0 ≤ n ∧ n ≤ 2147483647 ∧ 1 ≤ b ∧ b ≤ 8 ∧ 0 ≤ f ∧ f ≤ 255 ∧ f % (gr b + 1) = 0) := h
  by_cases c1 : b < 1
  · clear h
    go_enter Tryd.func34, Tryd.ntmps34
    go_wp2
    go_ret2
    exact ⟨rfl, rfl⟩
  · have h1 : 1 ≤ b := by omega
    by_cases c2 : 8 < b
    · clear h
      go_enter Tryd.func34, Tryd.ntmps34
      go_wp2
      go_ret2
      exact ⟨rfl, rfl⟩
    · have h2 : b ≤ 8 := by omega
      by_cases c3 : n < 0
      · clear h
        go_enter Tryd.func34, Tryd.ntmps34
        go_wp2
        go_ret2
        exact ⟨rfl, rfl⟩
      · have c3' : 0 ≤ n := by omega
        by_cases c4 : 2147483647 < n
        · clear h
          go_enter Tryd.func34, Tryd.ntmps34
          go_wp2
          go_ret2
          exact ⟨rfl, rfl⟩
        · have c4' : n ≤ 2147483647 := by omega
          by_cases c5 : f < 0
          · clear h
            go_enter Tryd.func34, Tryd.ntmps34
            go_wp2
            go_ret2
            exact ⟨rfl, rfl⟩
          · have h3 : 0 ≤ f := by omega
            by_cases c6 : 255 < f
            · clear h
              go_enter Tryd.func34, Tryd.ntmps34
              go_wp2
              go_ret2
              exact ⟨rfl, rfl⟩
            · have h4 : f ≤ 255 := by omega
              have c7 : (f % (gr b + 1) == 0) = false := by
                rw [beq_eq_false_iff_ne]; intro h0; exact h ⟨c3', c4', h1, h2, h3, h4, h0⟩
              have c8 : ¬ (f % (gr b + 1) = 0) := fun h0 => h ⟨c3', c4', h1, h2, h3, h4, h0⟩
              have gb := gr_bd b h1 h2
              clear h
              go_enter Tryd.func34, Tryd.ntmps34
              go_wp2_with (go_at_call 47; refine (pow_any _ _ (by omega) (by omega)).mono ?_; rintro e w' ⟨rfl, rfl⟩)
              go_ret2
              exact ⟨rfl, rfl⟩
theorem rput_one (n b f : Int) (w : World) (hok : putOk n b f) (hlt : n < gr b) :
    Calls Tryd.prog 34 #[.int .i64 n, .int .i64 b, .int .i64 f] w fun e w' => e = .returned (.tuple #[.slice (some ⟨w.heap.size, 0, none⟩) 1 1, .int .i64 0]) ∧ w' = w.alloc (.cells #[.int .u8 (f + n)] 5) := by
  obtain ⟨c1, c2, h1, h2, h3, h4, h5⟩ := hok
  have Jb := join_bd b f h1 h2 h3 h4 h5
  have gb := gr_bd b h1 h2
  have c7 : (f % (gr b + 1) == 0) = true := beq_iff_eq.2 h5
  go_enter Tryd.func34, Tryd.ntmps34
  go_wp2_with (go_at_call 47; refine (pow_any _ _ (by omega) (by omega)).mono ?_; rintro e w' ⟨rfl, rfl⟩)
  go_ret2
  exact ⟨rfl, rfl⟩
set_option maxHeartbeats 1000000 in
theorem rput_more (n b f : Int) (w : World) (hok : putOk n b f) (hge : gr b ≤ n) :
    Calls Tryd.prog 34 #[.int .i64 n, .int .i64 b, .int .i64 f] w fun e w' => ∃ v, e = .returned (.tuple #[v, .int .i64 0]) ∧ w'.ownsRow w.heap.size 5 1 v (putL n b f).length ((putL n b f).map (Value.int .u8)) ∧ Below w.heap.size w w' := by
  obtain ⟨c1, c2, h1, h2, h3, h4, h5⟩ := hok
  have c7 : (f % (gr b + 1) == 0) = true := beq_iff_eq.2 h5
  have c8 : (f % (gr b + 1) != 0) = false := by simp [h5]
  have gb := gr_bd b h1 h2
  have Jb := join_bd b f h1 h2 h3 h4 h5
  have P0 : Hid (putL n b f = [f + gr b] ++ rest 5 (n - gr b)) := putL_big n b f hge
  have d1 : decide (n < 0) = false := by simp; omega
  have d2 : decide (2147483647 < n) = false := by simp; omega
  have d3 : decide (n < gr b) = false := by simp; omega
  have d4 : decide (b < 1) = false := by simp; omega
  have d5 : decide (8 < b) = false := by simp; omega
  have d6 : decide (f < 0) = false := by simp; omega
  have d7 : decide (255 < f) = false := by simp; omega
  have H5 : Hid (f % (gr b + 1) = 0) := h5
  clear h5
  obtain ⟨i0, hi, hz0, hz1, hz2⟩ := info_parts info5w
  go_enter Tryd.func34, Tryd.ntmps34
  go_wp2_with (go_at_call 47; refine (pow_any _ _ (by omega) (by omega)).mono ?_; rintro e w' ⟨rfl, rfl⟩)
  rw [show f + (gr b + 1) - 1 = f + gr b from by omega]
  go_loopw [0, 9] (fun i v wr => ∃ (pre : List Int) (k : Nat) (r : Int), i = .int .i64 r ∧ 0 ≤ r ∧ r ≤ 2147483647 ∧ fits k r ∧ pre.length + k ≤ 6 ∧ Hid (putL n b f = pre ++ rest k r) ∧ wr.ownsRow w.heap.size 5 1 v pre.length (pre.map (Value.int .u8)) ∧ Below w.heap.size w wr) (fun i _ _ => (intOf i).toNat)
  case atStart => exact ⟨[f + gr b], 5, n - gr b, rfl, by omega, by omega, ⟨by decide, by omega⟩, Nat.le_refl _, P0, World.ownsRow_lit w #[.int .u8 (f + gr b)] 1 (Nat.le_refl _) (by decide) rfl, (Below.refl _ _).alloc (Nat.le_refl _) _⟩
  case round =>
    obtain ⟨pre, k, r, rfl, r0, r1, hf, hk, HP, hown, hbel⟩ := hrel
    have hsz := hbel.size
    by_cases hlt : r < 128
    · have HL : Hid (putL n b f = pre ++ [r]) := by
        show putL n b f = pre ++ [r]
        rw [HP.out, rest_last k r hf hlt]
      have hm : pre.length + 1 ≤ 7 := by omega
      clear HP hf hk
      go_wp2_with (at_builtin; refine wpList_append_own _ rfl _ _ 50 rfl w.heap.size 5 i0 (.int .u8 0) 1 1 Tryd.underlying50 hi hz0 hz1 hz2 rfl (by decide) _ _ _ rfl (hown.alloc _) ⟨wr.heap.size, 0, none⟩ 1 1 [.int .u8 r] rfl rfl ?c1 ?c2 ?c3 ?c4 ?c5 ?_)
      case c1 => exact cell_one_new _ _ _
      case c2 => intro u hu; simp at hu; subst hu; rfl
      case c3 => unfold maxLen; omega
      case c4 => omega
      case c5 => simp; omega
      intro v' w1 hown' hgrow _
      have hb1 : Below w.heap.size w w1 := (hbel.alloc hsz _).grown hgrow (by simp; omega) (fun k hk => (hown.lt k hk).1)
      have hfin : w1.ownsRow w.heap.size 5 1 v' (putL n b f).length ((putL n b f).map (Value.int .u8)) := by
        rw [HL.out]; simpa using hown'
      have Hfin : Hid (w1.ownsRow w.heap.size 5 1 v' (putL n b f).length ((putL n b f).map (Value.int .u8))) := hfin
      clear hfin hown' hgrow hown
      go_wp2
      go_ret2
      exact ⟨_, rfl, Hfin.out, hb1⟩
    · obtain ⟨j, rfl, hj, hs⟩ := rest_step k r hf (by omega)
      have HL : Hid (putL n b f = (pre ++ [r % 128 + 128]) ++ rest j (r / 128)) := by
        show putL n b f = (pre ++ [r % 128 + 128]) ++ rest j (r / 128)
        rw [HP.out, hs]; simp
      have hm : pre.length + 1 ≤ 7 := by omega
      clear HP hf hs
      go_wp2_with (at_builtin; refine wpList_append_own _ rfl _ _ 50 rfl w.heap.size 5 i0 (.int .u8 0) 1 1 Tryd.underlying50 hi hz0 hz1 hz2 rfl (by decide) _ _ _ rfl (hown.alloc _) ⟨wr.heap.size, 0, none⟩ 1 1 [.int .u8 (r % 128 + 128)] rfl rfl ?d1 ?d2 ?d3 ?d4 ?d5 ?_)
      case d2 => rfl
      case d3 => unfold maxLen; omega
      case d4 => omega
      case d5 => omega
      intro v' w1 hown' hgrow _
      have hb1 : Below w.heap.size w w1 := (hbel.alloc hsz _).grown hgrow (by simp; omega) (fun k hk => (hown.lt k hk).1)
      have hfin : w1.ownsRow w.heap.size 5 1 v' (pre ++ [r % 128 + 128]).length ((pre ++ [r % 128 + 128]).map (Value.int .u8)) := by
        simpa using hown'
      have Hfin : Hid (w1.ownsRow w.heap.size 5 1 v' (pre ++ [r % 128 + 128]).length ((pre ++ [r % 128 + 128]).map (Value.int .u8))) := hfin
      clear hfin hown' hgrow hown
      go_wp2
      go_roundw
      case rel => exact ⟨_, j, r / 128, rfl, by omega, by omega, hj, by simp; omega, HL, Hfin.out, hb1⟩
      case measure => simp [intOf]; omega
theorem rput_yes (n b f : Int) (w : World) (hok : putOk n b f) :
    Calls Tryd.prog 34 #[.int .i64 n, .int .i64 b, .int .i64 f] w fun e w' => ∃ g cap, e = .returned (.tuple #[.slice (some ⟨g, 0, none⟩) (putL n b f).length cap, .int .i64 0]) ∧ w'.ownsRow w.heap.size 5 1 (.slice (some ⟨g, 0, none⟩) (putL n b f).length cap) (putL n b f).length ((putL n b f).map (Value.int .u8)) ∧ Below w.heap.size w w' := by
  by_cases h : n < gr b
  · refine (rput_one n b f w hok h).mono ?_
    rintro e w' ⟨rfl, rfl⟩
    refine ⟨w.heap.size, 1, ?_, ?_, (Below.refl _ _).alloc (Nat.le_refl _) _⟩
    · rw [putL_small n b f h]; rfl
    · rw [putL_small n b f h]
      exact World.ownsRow_lit w #[.int .u8 (f + n)] 1 (Nat.le_refl _) (by decide) rfl
  · refine (rput_more n b f w hok (by omega)).mono ?_
    rintro e w' ⟨v, rfl, ho, hb⟩
    obtain ⟨g, cap, rfl, _, _⟩ := shape ho (putL_len n b f).1
    exact ⟨g, cap, rfl, ho, hb⟩
end Go.Proofs.YtkjfhgoddhigmabDoor
