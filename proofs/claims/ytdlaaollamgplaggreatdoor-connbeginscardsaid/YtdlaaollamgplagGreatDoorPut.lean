/-
  CONTRACTS of the Go functions wire.greatest, wire.mayBits, wire.mayFirst and wire.Put, each by a walk over its text: what it returns, and what becomes of memory. No claim by itself.
-/
import Derived.Test.YtdlaaollamgplagGreatDoorProg
import Derived.Test.YtdlaaollamgplagGreatDoorMath
import Derived.WalkKit
import Derived.WalkLawsBesides
import Derived.WalkSpells
namespace Go.Proofs.YtdlaaollamgplagGreatDoor
open Go.RowKit
set_option maxRecDepth 100000
theorem great (b : Int) (w : World) (h1 : 1 ≤ b) (h2 : b ≤ 32) :
    Calls Tryz.prog 185 #[.int .i64 b] w fun e w' => e = .returned (.int .i64 (gr b)) ∧ w = w' := by
  have hp : (2 : Int) ^ b.toNat ≤ 2 ^ 32 := by
    have : (2 : Nat) ^ b.toNat ≤ 2 ^ 32 := Nat.pow_le_pow_right (by decide) (by omega)
    exact_mod_cast this
  have hp0 : (0 : Int) < 2 ^ b.toNat := by
    have : (0 : Nat) < 2 ^ b.toNat := Nat.pos_of_ne_zero (by simp)
    exact_mod_cast this
  have e : wrap64 (wrap64 (2 ^ b.toNat) - 1) = gr b := by unfold gr wrap64; omega
  have E : Hid (wrap64 (wrap64 (2 ^ b.toNat) - 1) = gr b) := e
  clear e hp hp0
  go_enter Tryz.func185, Tryz.ntmps185
  go_wp2
  rw [E.out]
  go_ret
  exact ⟨rfl, rfl⟩
theorem mayBits_yes (b : Int) (w : World) (h1 : 1 ≤ b) (h2 : b ≤ 8) :
    Calls Tryz.prog 239 #[.int .i64 b] w fun e w' => e = .returned (.bool true) ∧ w = w' := by
  go_enter Tryz.func239, Tryz.ntmps239
  go_wp2
  go_ret
  exact ⟨rfl, rfl⟩
theorem mayBits_no (b : Int) (w : World) (h : b < 1 ∨ 8 < b) :
    Calls Tryz.prog 239 #[.int .i64 b] w fun e w' => e = .returned (.bool false) ∧ w = w' := by
  rcases h with h | h
  · go_enter Tryz.func239, Tryz.ntmps239
    go_wp2
    go_ret
    exact ⟨rfl, rfl⟩
  · have h0 : 1 ≤ b := by omega
    have hd : decide (b ≤ 8) = false := by simp; omega
    go_enter Tryz.func239, Tryz.ntmps239
    go_wp2
    go_ret
    exact ⟨rfl, rfl⟩
theorem mayFirst_in (f b : Int) (w : World) (h1 : 1 ≤ b) (h2 : b ≤ 8) (h3 : 0 ≤ f) (h4 : f ≤ 255) :
    Calls Tryz.prog 240 #[.int .i64 f, .int .i64 b] w fun e w' => e = .returned (.bool (f % (gr b + 1) == 0)) ∧ w = w' := by
  have e : Hid (bits .and .i64 f (gr b) = f % (gr b + 1)) := free_and b f h1 h2 h3 h4
  go_enter Tryz.func240, Tryz.ntmps240
  go_wp2_with (go_at_call 185; refine (great _ _ h1 (by omega)).mono ?_; rintro e w' ⟨rfl, rfl⟩)
  rw [e.out]
  go_ret
  exact ⟨rfl, rfl⟩
theorem mayFirst_out (f b : Int) (w : World) (h : f < 0 ∨ 255 < f) :
    Calls Tryz.prog 240 #[.int .i64 f, .int .i64 b] w fun e w' => e = .returned (.bool false) ∧ w = w' := by
  rcases h with h | h
  · go_enter Tryz.func240, Tryz.ntmps240
    go_wp2
    go_ret
    exact ⟨rfl, rfl⟩
  · have h0 : 0 ≤ f := by omega
    go_enter Tryz.func240, Tryz.ntmps240
    go_wp2
    go_ret
    exact ⟨rfl, rfl⟩

theorem info5w : (Tryz.prog.info? 5).map (fun i => (i.zero, i.size, i.bytes)) = some (some (.int .u8 0), 1, 1) := by kernel_rfl
theorem put_no (n b f : Int) (w : World) (h : ¬ putOk n b f) :
    Calls Tryz.prog 203 #[.int .i64 n, .int .i64 b, .int .i64 f] w fun e w' => e = .returned (.tuple #[.slice none 0 0, .iface 88 (.int .i64 1)]) ∧ w = w' := by
  have h : ¬ (0 ≤ n ∧ n ≤ 2147483647 ∧ 1 ≤ b ∧ b ≤ 8 ∧ 0 ≤ f ∧ f ≤ 255 ∧ f % (gr b + 1) = 0) := h
  by_cases c1 : n < 0
  · clear h
    go_enter Tryz.func203, Tryz.ntmps203
    go_wp2
    go_ret2
    exact ⟨rfl, rfl⟩
  · have c1' : 0 ≤ n := by omega
    by_cases c2 : 2147483647 < n
    · clear h
      go_enter Tryz.func203, Tryz.ntmps203
      go_wp2
      go_ret2
      exact ⟨rfl, rfl⟩
    · have c2' : n ≤ 2147483647 := by omega
      by_cases c3 : b < 1 ∨ 8 < b
      · clear h
        go_enter Tryz.func203, Tryz.ntmps203
        go_wp2_with (go_at_call 239; refine (mayBits_no _ _ c3).mono ?_; rintro e w' ⟨rfl, rfl⟩)
        go_ret2
        exact ⟨rfl, rfl⟩
      · have h1 : 1 ≤ b := by omega
        have h2 : b ≤ 8 := by omega
        by_cases c4 : f < 0 ∨ 255 < f
        · clear h
          go_enter Tryz.func203, Tryz.ntmps203
          go_wp2_with (first | (go_at_call 239; refine (mayBits_yes _ _ h1 h2).mono ?_; rintro e w' ⟨rfl, rfl⟩) | (go_at_call 240; refine (mayFirst_out _ _ _ c4).mono ?_; rintro e w' ⟨rfl, rfl⟩))
          go_ret2
          exact ⟨rfl, rfl⟩
        · have h3 : 0 ≤ f := by omega
          have h4 : f ≤ 255 := by omega
          have c5 : (f % (gr b + 1) == 0) = false := by
            rw [beq_eq_false_iff_ne]; intro h0; exact h ⟨c1', c2', h1, h2, h3, h4, h0⟩
          clear h c3 c4
          go_enter Tryz.func203, Tryz.ntmps203
          go_wp2_with (first | (go_at_call 239; refine (mayBits_yes _ _ h1 h2).mono ?_; rintro e w' ⟨rfl, rfl⟩) | (go_at_call 240; refine (mayFirst_in _ _ _ h1 h2 h3 h4).mono ?_; rintro e w' ⟨rfl, rfl⟩; rw [c5]))
          go_ret2
          exact ⟨rfl, rfl⟩
theorem put_one (n b f : Int) (w : World) (hok : putOk n b f) (hlt : n < gr b) :
    Calls Tryz.prog 203 #[.int .i64 n, .int .i64 b, .int .i64 f] w fun e w' => e = .returned (.tuple #[.slice (some ⟨w.heap.size, 0, none⟩) 1 1, .nilIface]) ∧ w' = w.alloc (.cells #[.int .u8 (f + n)] 5) := by
  obtain ⟨c1, c2, h1, h2, h3, h4, h5⟩ := hok
  have c5 : (f % (gr b + 1) == 0) = true := beq_iff_eq.2 h5
  have Jb := join_bd b f h1 h2 h3 h4 h5
  have J : Hid (bits .or .i64 f n % 256 = f + n) := by
    show bits .or .i64 f n % 256 = f + n
    rw [join_or b f n h1 h2 h3 h4 h5 c1 (by omega)]; omega
  clear h5 Jb
  go_enter Tryz.func203, Tryz.ntmps203
  go_wp2_with (first | (go_at_call 239; refine (mayBits_yes _ _ h1 h2).mono ?_; rintro e w' ⟨rfl, rfl⟩) | (go_at_call 240; refine (mayFirst_in _ _ _ h1 h2 h3 h4).mono ?_; rintro e w' ⟨rfl, rfl⟩; rw [c5]) | (go_at_call 185; refine (great _ _ h1 (by omega)).mono ?_; rintro e w' ⟨rfl, rfl⟩))
  rw [J.out]
  go_ret2
  exact ⟨rfl, rfl⟩
set_option maxHeartbeats 1000000 in
theorem put_more (n b f : Int) (w : World) (hok : putOk n b f) (hge : gr b ≤ n) :
    Calls Tryz.prog 203 #[.int .i64 n, .int .i64 b, .int .i64 f] w fun e w' => ∃ v, e = .returned (.tuple #[v, .nilIface]) ∧ w'.ownsRow w.heap.size 5 1 v (putL n b f).length ((putL n b f).map (Value.int .u8)) ∧ Below w.heap.size w w' := by
  obtain ⟨c1, c2, h1, h2, h3, h4, h5⟩ := hok
  have c5 : (f % (gr b + 1) == 0) = true := beq_iff_eq.2 h5
  have gb := gr_bd b h1 h2
  have Jb := join_bd b f h1 h2 h3 h4 h5
  have J : Hid (bits .or .i64 f (gr b) % 256 = f + gr b) := by
    show bits .or .i64 f (gr b) % 256 = f + gr b
    rw [join_or b f (gr b) h1 h2 h3 h4 h5 (by omega) (by omega)]; omega
  have P0 : Hid (putL n b f = [f + gr b] ++ rest 5 (n - gr b)) := putL_big n b f hge
  have d1 : decide (n < 0) = false := by simp; omega
  have d2 : decide (2147483647 < n) = false := by simp; omega
  have d3 : decide (n < gr b) = false := by simp; omega
  clear h5
  obtain ⟨i0, hi, hz0, hz1, hz2⟩ := info_parts info5w
  go_enter Tryz.func203, Tryz.ntmps203
  go_wp2_with (first | (go_at_call 239; refine (mayBits_yes _ _ h1 h2).mono ?_; rintro e w' ⟨rfl, rfl⟩) | (go_at_call 240; refine (mayFirst_in _ _ _ h1 h2 h3 h4).mono ?_; rintro e w' ⟨rfl, rfl⟩; rw [c5]) | (go_at_call 185; refine (great _ _ h1 (by omega)).mono ?_; rintro e w' ⟨rfl, rfl⟩))
  rw [J.out]
  go_loopw [9, 10] (fun v i wr => ∃ (pre : List Int) (k : Nat) (r : Int), i = .int .i64 r ∧ 0 ≤ r ∧ r ≤ 2147483647 ∧ fits k r ∧ pre.length + k ≤ 6 ∧ Hid (putL n b f = pre ++ rest k r) ∧ wr.ownsRow w.heap.size 5 1 v pre.length (pre.map (Value.int .u8)) ∧ Below w.heap.size w wr) (fun _ i _ => (intOf i).toNat)
  case atStart => exact ⟨[f + gr b], 5, n - gr b, rfl, by omega, by omega, ⟨by decide, by omega⟩, Nat.le_refl _, P0, World.ownsRow_lit w #[.int .u8 (f + gr b)] 1 (Nat.le_refl _) (by decide) rfl, (Below.refl _ _).alloc (Nat.le_refl _) _⟩
  case round =>
    obtain ⟨pre, k, r, rfl, r0, r1, hf, hk, HP, hown, hbel⟩ := hrel
    have hsz := hbel.size
    by_cases hlt : r < 128
    · have HL : Hid (putL n b f = pre ++ [r]) := by
        show putL n b f = pre ++ [r]
        rw [HP.out, rest_last k r hf hlt]
      have hm : pre.length + 1 ≤ 7 := by omega
      clear HP hf hk
      go_wp2_with (at_builtin; refine wpList_append_own _ rfl _ _ 23 rfl w.heap.size 5 i0 (.int .u8 0) 1 1 Tryz.underlying23 hi hz0 hz1 hz2 rfl (by decide) _ _ _ rfl (hown.alloc _) ⟨wr.heap.size, 0, none⟩ 1 1 [.int .u8 r] rfl rfl ?c1 ?c2 ?c3 ?c4 ?c5 ?_)
      case c1 => exact cell_one_new _ _ _
      case c2 => intro u hu; simp at hu; subst hu; rfl
      case c3 => unfold maxLen; omega
      case c4 => omega
      case c5 => simp; omega
      intro v' w1 hown' hgrow _
      have hb1 : Below w.heap.size w w1 := (hbel.alloc hsz _).grown hgrow (by simp; omega) (fun k hk => (hown.lt k hk).1)
      have hfin : w1.ownsRow w.heap.size 5 1 v' (putL n b f).length ((putL n b f).map (Value.int .u8)) := by
        rw [HL.out]; simpa using hown'
      have Hfin : Hid (w1.ownsRow w.heap.size 5 1 v' (putL n b f).length ((putL n b f).map (Value.int .u8))) := hfin
      clear hfin hown' hgrow hown
      go_wp2
      go_ret2
      exact ⟨_, rfl, Hfin.out, hb1⟩
    · obtain ⟨j, rfl, hj, hs⟩ := rest_step k r hf (by omega)
      have HL : Hid (putL n b f = (pre ++ [r % 128 + 128]) ++ rest j (r / 128)) := by
        show putL n b f = (pre ++ [r % 128 + 128]) ++ rest j (r / 128)
        rw [HP.out, hs]; simp
      have M : Hid (bits .or .i64 (bits .and .i64 r 127) 128 % 256 = r % 128 + 128) := by
        show bits .or .i64 (bits .and .i64 r 127) 128 % 256 = r % 128 + 128
        rw [more_or r r0 (by omega)]; omega
      have hm : pre.length + 1 ≤ 7 := by omega
      clear HP hf hs
      go_wp2_with (at_builtin; refine wpList_append_own _ rfl _ _ 23 rfl w.heap.size 5 i0 (.int .u8 0) 1 1 Tryz.underlying23 hi hz0 hz1 hz2 rfl (by decide) _ _ _ rfl (hown.alloc _) ⟨wr.heap.size, 0, none⟩ 1 1 [.int .u8 (bits .or .i64 (bits .and .i64 r 127) 128 % 256)] rfl rfl ?d1 ?d2 ?d3 ?d4 ?d5 ?_)
      case d2 => rfl
      case d3 => unfold maxLen; omega
      case d4 => omega
      case d5 => omega
      intro v' w1 hown' hgrow _
      have hb1 : Below w.heap.size w w1 := (hbel.alloc hsz _).grown hgrow (by simp; omega) (fun k hk => (hown.lt k hk).1)
      rw [M.out] at hown'
      have hfin : w1.ownsRow w.heap.size 5 1 v' (pre ++ [r % 128 + 128]).length ((pre ++ [r % 128 + 128]).map (Value.int .u8)) := by
        simpa using hown'
      have Hfin : Hid (w1.ownsRow w.heap.size 5 1 v' (pre ++ [r % 128 + 128]).length ((pre ++ [r % 128 + 128]).map (Value.int .u8))) := hfin
      clear hfin hown' hgrow hown
      go_wp2
      go_roundw
      case rel => exact ⟨_, j, r / 128, rfl, by omega, by omega, hj, by simp; omega, HL, Hfin.out, hb1⟩
      case measure => simp [intOf]; omega
theorem shape {w : World} {base : Nat} {v : Value} {L : List Int} (h : w.ownsRow base 5 1 v L.length (L.map (Value.int .u8))) (hn : 1 ≤ L.length) : ∃ g cap, v = .slice (some ⟨g, 0, none⟩) L.length cap ∧ base ≤ g ∧ L.length ≤ cap := by
  obtain ⟨_, ⟨_, h0⟩ | ⟨g, cap, cur, hv, hb, _, hc, _⟩⟩ := h
  · omega
  · exact ⟨g, cap, hv, hb, hc⟩
theorem put_yes (n b f : Int) (w : World) (hok : putOk n b f) :
    Calls Tryz.prog 203 #[.int .i64 n, .int .i64 b, .int .i64 f] w fun e w' => ∃ g cap, e = .returned (.tuple #[.slice (some ⟨g, 0, none⟩) (putL n b f).length cap, .nilIface]) ∧ w'.ownsRow w.heap.size 5 1 (.slice (some ⟨g, 0, none⟩) (putL n b f).length cap) (putL n b f).length ((putL n b f).map (Value.int .u8)) ∧ Below w.heap.size w w' := by
  by_cases h : n < gr b
  · refine (put_one n b f w hok h).mono ?_
    rintro e w' ⟨rfl, rfl⟩
    refine ⟨w.heap.size, 1, ?_, ?_, (Below.refl _ _).alloc (Nat.le_refl _) _⟩
    · rw [putL_small n b f h]; rfl
    · rw [putL_small n b f h]
      exact World.ownsRow_lit w #[.int .u8 (f + n)] 1 (Nat.le_refl _) (by decide) rfl
  · refine (put_more n b f w hok (by omega)).mono ?_
    rintro e w' ⟨v, rfl, ho, hb⟩
    obtain ⟨g, cap, rfl, _, _⟩ := shape ho (putL_len n b f).1
    exact ⟨g, cap, rfl, ho, hb⟩
end Go.Proofs.YtdlaaollamgplagGreatDoor
