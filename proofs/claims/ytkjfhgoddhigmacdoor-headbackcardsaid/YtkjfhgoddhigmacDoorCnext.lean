/-
  CONTRACT of the Go function code.next. No claim by itself.
-/
import Derived.Test.YtkjfhgoddhigmacDoorCfill
namespace Go.Proofs.YtkjfhgoddhigmacDoor
open Go.RowKit
/-- The byte that bits begin with, and how many bits it has; none: (0, 0). -/
def nextF : List Int → Int × Nat
  | [] => (0, 0)
  | y :: r => if y = 1 then (if r.length < 8 then (0, 0) else if 0 ≤ oidx (val (r.take 8)) then (0, 0) else (val (r.take 8), 9))
      else (if r.length < 5 then (0, 0) else (oft.getD (val (r.take 5)).toNat 0, 6))
theorem dec_none (l : List Int) (hb : ∀ y ∈ l, y = 0 ∨ y = 1) (hf : ¬ Fills l) (h : (nextF l).2 = 0) : dec l = none := by
  match l, hb, hf, h with
  | [], _, hf, _ => exact absurd ⟨by simp, by simp⟩ hf
  | y :: r, hb, hf, h =>
    unfold nextF at h
    rcases hb y List.mem_cons_self with rfl | rfl
    · simp only [show ¬ ((0 : Int) = 1) by decide, if_false] at h
      by_cases h5 : r.length < 5
      · rw [dec_end 0 r (by omega) (by omega), if_pos (Or.inr List.mem_cons_self)]
      · rw [if_neg h5] at h; cases h
    · simp only [if_true] at h
      by_cases h8 : r.length < 8
      · rw [dec_end 1 r (by omega) (by omega), if_pos]
        by_cases h0 : (0 : Int) ∈ 1 :: r
        · exact Or.inr h0
        · refine Or.inl ?_
          rcases Nat.lt_or_ge 7 (1 :: r).length with h7 | h7
          · exact h7
          · exact absurd ⟨by omega, h0⟩ hf
      · rw [if_neg h8] at h
        by_cases ho : 0 ≤ oidx (val (r.take 8))
        · exact dec_wrong 1 r ⟨rfl, by omega⟩ ho
        · rw [if_neg ho] at h; cases h
theorem dec_more (l : List Int) (hb : ∀ y ∈ l, y = 0 ∨ y = 1) (h : (nextF l).2 ≠ 0) :
    dec l = (dec (l.drop (nextF l).2)).map ((nextF l).1 :: ·) ∧ (nextF l).2 ≤ l.length ∧ 6 ≤ (nextF l).2 ∧ 0 ≤ (nextF l).1 ∧ (nextF l).1 < 256 := by
  match l, hb, h with
  | [], _, h => exact absurd rfl h
  | y :: r, hb, h =>
    have hbr : ∀ z ∈ r, z = 0 ∨ z = 1 := fun z hz => hb z (List.mem_cons_of_mem _ hz)
    unfold nextF at h ⊢
    rcases hb y List.mem_cons_self with rfl | rfl
    · simp only [show ¬ ((0 : Int) = 1) by decide, if_false] at h ⊢
      by_cases h5 : r.length < 5
      · rw [if_pos h5] at h; exact absurd rfl h
      · simp only [if_neg h5]
        have hl : (r.take 5).length = 5 := by rw [List.length_take]; omega
        have hv := val_bd (r.take 5) (fun z hz => hbr z (List.take_subset _ _ hz))
        rw [hl] at hv
        have hv2 : val (r.take 5) < 32 := by simpa using hv.2
        refine ⟨dec_often 0 r ⟨rfl, by omega⟩, by simp; omega, by simp, ?_⟩
        have ho : ∀ j : Fin 32, 0 ≤ oft.getD j.val 0 ∧ oft.getD j.val 0 < 256 := by decide
        exact ho ⟨(val (r.take 5)).toNat, by omega⟩
    · simp only [if_true] at h ⊢
      by_cases h8 : r.length < 8
      · rw [if_pos h8] at h; exact absurd rfl h
      · rw [if_neg h8] at h
        by_cases ho : 0 ≤ oidx (val (r.take 8))
        · rw [if_pos ho] at h; exact absurd rfl h
        · simp only [if_neg h8, if_neg ho]
          have hl : (r.take 8).length = 8 := by rw [List.length_take]; omega
          have hv := val_bd (r.take 8) (fun z hz => hbr z (List.take_subset _ _ hz))
          rw [hl] at hv
          have hv2 : val (r.take 8) < 256 := by simpa using hv.2
          exact ⟨dec_rare 1 r ⟨rfl, by omega⟩ ho, by simp; omega, by simp, hv.1, hv2⟩
theorem next_at (Z : List Int) (at_ : Nat) (h : at_ < 8 * Z.length) : (some_ Z at_ 1 = 0 ∨ some_ Z at_ 1 = 1) ∧ nextF ((unpack Z).drop at_) =
    if some_ Z at_ 1 = 1 then (if 8 * Z.length < at_ + 9 then (0, 0) else if 0 ≤ oidx (some_ Z (at_ + 1) 8) then (0, 0) else (some_ Z (at_ + 1) 8, 9))
      else (if 8 * Z.length < at_ + 6 then (0, 0) else (oft.getD (some_ Z (at_ + 1) 5).toNat 0, 6)) := by
  have hl := drop_len Z at_
  have hb : ∀ y ∈ (unpack Z).drop at_, y = 0 ∨ y = 1 := fun y hy => unpack_bit Z y (List.drop_subset _ _ hy)
  have e1 : (unpack Z).drop (at_ + 1) = ((unpack Z).drop at_).drop 1 := by rw [List.drop_drop]
  unfold some_
  rw [e1]
  generalize (unpack Z).drop at_ = l at *
  match l, hl, hb with
  | [], hl, _ => simp at hl; omega
  | y :: r, hl, hb =>
    have hy := hb y List.mem_cons_self
    have ev : val ((y :: r).take 1) = y := by simp [val]
    rw [ev, List.drop_one, List.tail_cons]
    refine ⟨hy, ?_⟩
    simp at hl
    unfold nextF
    simp only [show (8 * Z.length < at_ + 9) = (r.length < 8) from by apply propext; omega, show (8 * Z.length < at_ + 6) = (r.length < 5) from by apply propext; omega]
theorem oftB_at (k : Nat) (hlt : k < 32) : ∀ h, (((oftB[k]'h).toNat : Nat) : Int) = oft.getD k 0 := by
  have h : ∀ j : Fin 32, ∀ h, (((oftB[j.val]'h).toNat : Nat) : Int) = oft.getD j.val 0 := by decide +kernel
  exact h ⟨k, hlt⟩
set_option maxHeartbeats 2000000 in
theorem next_any (a : Option Addr) (len cap : Nat) (Z : List Int) (w : World) (hA : Arg w a len cap Z) (hZ : Z.length = len) (hl : len ≤ 158329674399744) (at_ : Nat) (hat : at_ < 8 * len) :
    Calls Tryd.prog 64 #[.slice a len cap, .int .i64 at_] w fun e w' => e = .returned (.tuple #[.int .u8 (nextF ((unpack Z).drop at_)).1, .int .i64 (nextF ((unpack Z).drop at_)).2]) ∧ w = w' := by
  obtain ⟨hy, hN⟩ := next_at Z at_ (by omega)
  have HN : Hid (nextF ((unpack Z).drop at_) = if some_ Z at_ 1 = 1 then (if 8 * Z.length < at_ + 9 then (0, 0) else if 0 ≤ oidx (some_ Z (at_ + 1) 8) then (0, 0) else (some_ Z (at_ + 1) 8, 9))
      else (if 8 * Z.length < at_ + 6 then (0, 0) else (oft.getD (some_ Z (at_ + 1) 5).toNat 0, 6))) := hN
  clear hN
  generalize nextF ((unpack Z).drop at_) = X at *
  rw [hZ] at HN
  have hc1 := cbits_any a len cap Z w hA hl at_ 1 (by omega) (by omega)
  rcases hy with hy | hy
  · rw [hy] at HN hc1
    have HX : Hid (X = if 8 * len < at_ + 6 then (0, 0) else (oft.getD (some_ Z (at_ + 1) 5).toNat 0, 6)) := HN.out
    clear HN
    by_cases h6 : 8 * len < at_ + 6
    · have hd : decide (8 * (len : Int) < (at_ : Int) + 6) = true := by simp; omega
      have HX2 : Hid (X = (0, 0)) := by have := HX.out; rw [if_pos h6] at this; exact this
      clear HX
      go_enter Tryd.func64, Tryd.ntmps64
      go_wp2_with fail
      refine hc1.mono ?_
      rintro _ _ ⟨rfl, rfl⟩
      go_wp2
      go_ret2
      exact ⟨by rw [HX2.out]; rfl, rfl⟩
    · have hd : decide (8 * (len : Int) < (at_ : Int) + 6) = false := by simp; omega
      have hc2 := cbits_any a len cap Z w hA hl (at_ + 1) 5 (by omega) (by omega)
      have hb5 : 0 ≤ some_ Z (at_ + 1) 5 ∧ some_ Z (at_ + 1) 5 < 32 := by
        have h := val_bd (((unpack Z).drop (at_ + 1)).take 5) (fun y hy => unpack_bit Z y (List.drop_subset _ _ (List.take_subset _ _ hy)))
        have hl5 : (((unpack Z).drop (at_ + 1)).take 5).length = 5 := by rw [List.length_take, drop_len, hZ]; omega
        rw [hl5] at h
        exact ⟨h.1, by have := h.2; unfold some_; simpa using this⟩
      have HX2 : Hid (X = (oft.getD (some_ Z (at_ + 1) 5).toNat 0, 6)) := by have := HX.out; rw [if_neg h6] at this; exact this
      clear HX
      generalize some_ Z (at_ + 1) 5 = m at *
      obtain ⟨k, rfl⟩ := Int.eq_ofNat_of_zero_le hb5.1
      have hk : k < 32 := by omega
      have hix := oftB_at k hk
      unfold oftB at hix
      have HX3 : Hid (X = (oft.getD k 0, 6)) := HX2.out
      clear HX2
      generalize oft.getD k 0 = o at *
      go_enter Tryd.func64, Tryd.ntmps64
      go_wp2_with fail
      refine hc1.mono ?_
      rintro _ _ ⟨rfl, rfl⟩
      go_wp2_with fail
      refine hc2.mono ?_
      rintro _ _ ⟨rfl, rfl⟩
      go_wp2
      go_ret2
      exact ⟨by rw [HX3.out]; rfl, rfl⟩
  · rw [hy] at HN hc1
    have HX : Hid (X = if 8 * len < at_ + 9 then (0, 0) else if 0 ≤ oidx (some_ Z (at_ + 1) 8) then (0, 0) else (some_ Z (at_ + 1) 8, 9)) := HN.out
    clear HN
    by_cases h6 : 8 * len < at_ + 9
    · have hd : decide (8 * (len : Int) < (at_ : Int) + 9) = true := by simp; omega
      have HX2 : Hid (X = (0, 0)) := by have := HX.out; rw [if_pos h6] at this; exact this
      clear HX
      go_enter Tryd.func64, Tryd.ntmps64
      go_wp2_with fail
      refine hc1.mono ?_
      rintro _ _ ⟨rfl, rfl⟩
      go_wp2
      go_ret2
      exact ⟨by rw [HX2.out]; rfl, rfl⟩
    · have hd : decide (8 * (len : Int) < (at_ : Int) + 9) = false := by simp; omega
      have hc2 := cbits_any a len cap Z w hA hl (at_ + 1) 8 (by omega) (by omega)
      obtain ⟨m0, m1⟩ := some_bd Z (at_ + 1) 8 (Nat.le_refl _)
      have HX2 : Hid (X = if 0 ≤ oidx (some_ Z (at_ + 1) 8) then (0, 0) else (some_ Z (at_ + 1) 8, 9)) := by have := HX.out; rw [if_neg h6] at this; exact this
      clear HX
      generalize some_ Z (at_ + 1) 8 = m at *
      have hi := idx_any m m0 m1
      have ob := oidx_bd m
      by_cases ho : 0 ≤ oidx m
      · have HX3 : Hid (X = (0, 0)) := by have := HX2.out; rw [if_pos ho] at this; exact this
        clear HX2
        have hd2 : decide (0 ≤ oidx m) = true := by simp; omega
        generalize oidx m = o at *
        go_enter Tryd.func64, Tryd.ntmps64
        go_wp2_with fail
        refine hc1.mono ?_
        rintro _ _ ⟨rfl, rfl⟩
        go_wp2_with fail
        refine hc2.mono ?_
        rintro _ _ ⟨rfl, rfl⟩
        go_wp2_with fail
        refine (hi _).mono ?_
        rintro _ _ ⟨rfl, rfl⟩
        go_wp2
        go_ret2
        exact ⟨by rw [HX3.out]; rfl, rfl⟩
      · have HX3 : Hid (X = (m, 9)) := by have := HX2.out; rw [if_neg ho] at this; exact this
        clear HX2
        have hd2 : decide (0 ≤ oidx m) = false := by simp; omega
        generalize oidx m = o at *
        go_enter Tryd.func64, Tryd.ntmps64
        go_wp2_with fail
        refine hc1.mono ?_
        rintro _ _ ⟨rfl, rfl⟩
        go_wp2_with fail
        refine hc2.mono ?_
        rintro _ _ ⟨rfl, rfl⟩
        go_wp2_with fail
        refine (hi _).mono ?_
        rintro _ _ ⟨rfl, rfl⟩
        go_wp2
        go_ret2
        exact ⟨by rw [HX3.out]; rfl, rfl⟩
end Go.Proofs.YtkjfhgoddhigmacDoor
