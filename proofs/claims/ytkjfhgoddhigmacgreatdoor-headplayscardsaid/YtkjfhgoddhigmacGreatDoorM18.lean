/-
  CONTRACT of the Go function code.bits. No claim by itself.
-/
import Derived.Deep.QuietTactic
import Derived.BigQuiet
import Derived.Test.YtkjfhgoddhigmacGreatDoorM15
namespace Go.Proofs.YtkjfhgoddhigmacGreatDoor
open Go.RowKit
theorem bin_getD : ∀ (k : Nat) (x : Int) (t : Nat), t < k → (bin k x).getD t 0 = x / 2 ^ (k - 1 - t) % 2
  | 0, _, _, h => by omega
  | k + 1, x, 0, _ => by simp [bin]
  | k + 1, x, t + 1, h => by
    have ih := bin_getD k x t (by omega)
    show ((x / 2 ^ k % 2) :: bin k x).getD (t + 1) 0 = _
    rw [List.getD_cons_succ, ih, show k + 1 - 1 - (t + 1) = k - 1 - t from by omega]
theorem unpack_getD : ∀ (Z : List Int) (k : Nat), k < 8 * Z.length → (unpack Z).getD k 0 = Z.getD (k / 8) 0 / 2 ^ (7 - k % 8) % 2
  | [], k, h => by simp at h
  | c :: Z, k, h => by
    show (bin 8 c ++ unpack Z).getD k 0 = _
    by_cases hk : k < 8
    · have e1 : (bin 8 c ++ unpack Z).getD k 0 = (bin 8 c).getD k 0 := by
        simp [List.getD, List.getElem?_append, bin_len, hk]
      rw [e1, bin_getD 8 c k hk, Nat.div_eq_of_lt hk, Nat.mod_eq_of_lt hk]
      rfl
    · have ih := unpack_getD Z (k - 8) (by simp at h; omega)
      have e1 : (bin 8 c ++ unpack Z).getD k 0 = (unpack Z).getD (k - 8) 0 := by
        simp [List.getD, List.getElem?_append, bin_len, hk]
      have e2 : k / 8 = (k - 8) / 8 + 1 := by omega
      rw [e1, ih, e2, List.getD_cons_succ, show (k - 8) % 8 = k % 8 from by omega]
/-- The number of some bits of bytes. -/
def some_ (Z : List Int) (at_ n : Nat) : Int := val (((unpack Z).drop at_).take n)
theorem some_step (Z : List Int) (a j : Nat) (h : a + j < 8 * Z.length) : some_ Z a (j + 1) = some_ Z a j * 2 + (Z.getD ((a + j) / 8) 0 / 2 ^ (7 - (a + j) % 8) % 2) := by
  unfold some_
  have e : ((unpack Z).drop a).getD j 0 = (unpack Z).getD (a + j) 0 := by simp [List.getD]
  exact val_take ((unpack Z).drop a) j _ (by rw [List.length_drop, unpack_len]; omega) (by rw [e, unpack_getD Z _ h])
theorem some_bd (Z : List Int) (a j : Nat) (hj : j ≤ 8) : 0 ≤ some_ Z a j ∧ some_ Z a j < 256 := by
  unfold some_
  have h := val_bd (((unpack Z).drop a).take j) (fun y hy => unpack_bit Z y (List.drop_subset _ _ (List.take_subset _ _ hy)))
  have hl : (((unpack Z).drop a).take j).length ≤ 8 := by rw [List.length_take]; omega
  have hp : (2 : Nat) ^ (((unpack Z).drop a).take j).length ≤ 2 ^ 8 := Nat.pow_le_pow_right (by decide) hl
  have e : ((2 ^ (((unpack Z).drop a).take j).length : Nat) : Int) = (2 : Int) ^ (((unpack Z).drop a).take j).length := by simp
  omega
theorem bit_step (m c : Int) (p : Nat) (h0 : 0 ≤ m) (h1 : m < 256) (c0 : 0 ≤ c) (c1 : c < 256) : bits .or .i64 (m * 2) (wrap64 (bits .and .u8 (c / 2 ^ p) 1)) = m * 2 + c / 2 ^ p % 2 := by
  have hp := two_pos p
  have d0 : 0 ≤ c / 2 ^ p := Int.ediv_nonneg c0 (by omega)
  have d1 : c / 2 ^ p ≤ c := Int.ediv_le_self _ c0
  generalize c / 2 ^ p = d at *
  have e1 : bits .and .u8 d 1 = d % 2 := by
    rw [u8_and d 1 d0 (by omega) (by decide) (by decide), show (1 : Int).toNat = 1 from rfl, nat_mask1]; omega
  have e2 : wrap64 (d % 2) = d % 2 := by unfold wrap64; omega
  rw [e1, e2]
  exact i64_or_join 1 (m * 2) (d % 2) (by omega) (by omega) (by omega) (by omega) (by omega) (by omega)
set_option maxHeartbeats 2000000 in
theorem cbits_any (a : Option Addr) (len cap : Nat) (Z : List Int) (w : World) (hA : Arg w a len cap Z) (hl : len ≤ 158329674399744) (at_ n : Nat) (hn : n ≤ 8) (han : at_ + n ≤ 8 * len) :
    Calls Tryz.prog 96 #[.slice a len cap, .int .i64 at_, .int .i64 n] w fun e w' => e = .returned (.int .i64 (some_ Z at_ n)) ∧ w = w' := by
  have HS : Hid (∀ j, at_ + j < 8 * Z.length → some_ Z at_ (j + 1) = some_ Z at_ j * 2 + (Z.getD ((at_ + j) / 8) 0 / 2 ^ (7 - (at_ + j) % 8) % 2)) := some_step Z at_
  have HB : Hid (∀ j, j ≤ 8 → 0 ≤ some_ Z at_ j ∧ some_ Z at_ j < 256) := some_bd Z at_
  have H0 : Hid (some_ Z at_ 0 = 0) := by show some_ Z at_ 0 = 0; unfold some_; simp [val]
  have HR : Hid (Arg w a len cap Z) := hA
  clear hA
  generalize some_ Z at_ = S at *
  go_enter Tryz.func96, Tryz.ntmps96
  go_wp2
  go_loop [7, 11] (fun x i => ∃ k : Nat, i = .int .i64 k ∧ k ≤ n ∧ x = .int .i64 (S k)) (fun _ i => n - (intOf i).toNat)
  case atStart => exact ⟨0, rfl, by omega, by rw [H0.out]⟩
  case round =>
    obtain ⟨k, rfl, hk, rfl⟩ := hrel
    by_cases hlt : k < n
    · obtain ⟨h0, h1⟩ := HB.out k (by omega)
      rcases HR.out with ⟨hx, _⟩ | ⟨g, off, rfl, hr⟩
      · omega
      have hq : (at_ + k) / 8 < len := by omega
      have hE := HS.out k (by rw [hr.hlen]; omega)
      have hcell := hr.hcell _ hq
      have hby := hr.hbyte ((at_ + k) / 8)
      have hcap := hr.hcap
      have hmax := hr.hmax
      generalize Z.getD ((at_ + k) / 8) 0 = c at *
      generalize S k = m at *
      have hbs := bit_step m c (7 - (at_ + k) % 8) h0 h1 hby.1 hby.2
      clear HR hr
      go_wp2
      go_round
      case rel => exact ⟨k + 1, by go_num, by omega, by rw [hE]⟩
      case measure => simp [intOf]; omega
    · have e : k = n := by omega
      subst e
      go_wp2
      go_ret
      exact ⟨rfl, rfl⟩
end Go.Proofs.YtkjfhgoddhigmacGreatDoor
/-
  CONTRACT of the Go function code.filled. No claim by itself.
-/
namespace Go.Proofs.YtkjfhgoddhigmacGreatDoor
open Go.RowKit
theorem drewN_bel {B : Nat} {w w' : World} (h : Below B w w') : ∀ n, Below B w (w'.drewN n)
  | 0 => h
  | n + 1 => by
    have := drewN_bel h n
    exact ⟨this.os, this.tape, this.output, this.size, this.block⟩
theorem val_ones : ∀ (l : List Int), (∀ y ∈ l, y = 0 ∨ y = 1) → (val l = 2 ^ l.length - 1 ↔ (0 : Int) ∉ l)
  | [], _ => by simp [val]
  | y :: l, h => by
    have ih := val_ones l (fun z hz => h z (List.mem_cons_of_mem _ hz))
    have hb := val_bd l (fun z hz => h z (List.mem_cons_of_mem _ hz))
    have hp := two_pos l.length
    rw [val_cons, List.length_cons, Int.pow_succ, List.mem_cons]
    generalize val l = v at *
    generalize (2 : Int) ^ l.length = p at *
    rcases h y List.mem_cons_self with rfl | rfl
    · constructor
      · intro h1; omega
      · intro h1; exact absurd (Or.inl rfl) h1
    · constructor
      · intro h1 h2
        rcases h2 with h2 | h2
        · omega
        · exact (ih.1 (by omega)) h2
      · intro h1
        have := ih.2 (fun h2 => h1 (Or.inr h2))
        omega
/-- What is left only fills up. -/
def Fills (l : List Int) : Prop := l.length < 8 ∧ (0 : Int) ∉ l
theorem drop_len (Z : List Int) (at_ : Nat) : ((unpack Z).drop at_).length = 8 * Z.length - at_ := by rw [List.length_drop, unpack_len]
theorem some_all (Z : List Int) (at_ : Nat) : (some_ Z at_ (8 * Z.length - at_) = 2 ^ (8 * Z.length - at_) - 1 ↔ (0 : Int) ∉ (unpack Z).drop at_) := by
  have h := val_ones ((unpack Z).drop at_) (fun y hy => unpack_bit Z y (List.drop_subset _ _ hy))
  have e : ((unpack Z).drop at_).take (8 * Z.length - at_) = (unpack Z).drop at_ := List.take_of_length_le (by rw [drop_len]; exact Nat.le_refl _)
  rw [drop_len] at h
  unfold some_
  rw [e]
  exact h
theorem pow_bd8 (k : Nat) (h : k < 8) : 1 ≤ (2 : Int) ^ k ∧ (2 : Int) ^ k ≤ 128 := by
  have h1 : (2 : Nat) ^ k ≤ 2 ^ 7 := Nat.pow_le_pow_right (by decide) (by omega)
  have h2 : (0 : Nat) < 2 ^ k := Nat.pos_of_ne_zero (by simp)
  have e : ((2 ^ k : Nat) : Int) = (2 : Int) ^ k := by simp
  omega
set_option maxHeartbeats 2000000 in
theorem filled_any (a : Option Addr) (len cap : Nat) (Z : List Int) (w : World) (hA : Arg w a len cap Z) (hZ : Z.length = len) (hl : len ≤ 158329674399744) (at_ : Nat) (hat : at_ ≤ 8 * len) :
    Calls Tryz.prog 94 #[.slice a len cap, .int .i64 at_] w fun e w' => ∃ v, e = .returned (.bool v) ∧ (v = true ↔ Fills ((unpack Z).drop at_)) ∧ Below w.heap.size w w' := by
  have HA : Hid (∀ n, Arg (w.drewN n) a len cap Z) := fun n => hA.below (drewN_bel (Below.refl _ _) n)
  have HF : Hid (Fills ((unpack Z).drop at_) ↔ 8 * len - at_ < 8 ∧ some_ Z at_ (8 * len - at_) = 2 ^ (8 * len - at_) - 1) := by
    show _ ↔ _
    have h1 := some_all Z at_
    rw [hZ] at h1
    unfold Fills
    rw [drop_len, hZ, h1]
  clear hA
  obtain ⟨left, hleft⟩ : ∃ left : Nat, 8 * len - at_ = left := ⟨_, rfl⟩
  have hw1 : wrap64 (8 * (len : Int) - at_) = (left : Int) := by unfold wrap64; omega
  have e1 : (8 * (len : Int) - at_) = left := by omega
  rw [hleft] at HF
  by_cases h8 : left < 8
  · have hd : decide ((left : Int) < 8) = true := by simp; omega
    have hc : ∀ n, Calls Tryz.prog 96 #[.slice a len cap, .int .i64 at_, .int .i64 left] (w.drewN n) fun e w' => e = .returned (.int .i64 (some_ Z at_ left)) ∧ w' = w.drewN n := fun n =>
      (cbits_any a len cap Z _ (HA.out n) hl at_ left (by omega) (by omega)).mono fun _ _ h => ⟨h.1, h.2.symm⟩
    have hpb := pow_bd8 left h8
    generalize some_ Z at_ left = m at *
    obtain ⟨p, hp⟩ : ∃ p : Int, 2 ^ left = p := ⟨_, rfl⟩
    rw [hp] at hpb
    have hsh : wrap64 (2 ^ left) = p := by rw [hp]; unfold wrap64; omega
    obtain ⟨v, hv⟩ : ∃ v : Bool, (m == p - 1) = v := ⟨_, rfl⟩
    have HV : Hid (v = true ↔ Fills ((unpack Z).drop at_)) := by
      show _ ↔ _
      rw [HF.out, ← hv, beq_iff_eq, ← hp]
      exact ⟨fun h => ⟨h8, h⟩, fun h => h.2⟩
    clear HF
    go_enter Tryz.func94, Tryz.ntmps94
    go_wp2_with fail
    go_quiet ((go_at_call 96; exact Calls.quiet_of_same (hc _)))
    go_wp2
    go_ret
    refine ⟨v, ?_, HV.out, drewN_bel (Below.refl _ _) _⟩
    simp
  · have hd : decide ((left : Int) < 8) = false := by simp; omega
    have HV : Hid (¬ Fills ((unpack Z).drop at_)) := by
      show ¬ _
      rw [HF.out]; intro h; exact h8 h.1
    clear HF HA
    go_enter Tryz.func94, Tryz.ntmps94
    go_wp2_with fail
    go_quiet (fail)
    go_wp2
    go_ret
    exact ⟨false, rfl, by simp [HV.out], drewN_bel (Below.refl _ _) _⟩
end Go.Proofs.YtkjfhgoddhigmacGreatDoor
/-
  CONTRACT of the Go function code.next. No claim by itself.
-/
namespace Go.Proofs.YtkjfhgoddhigmacGreatDoor
open Go.RowKit
/-- The byte that bits begin with, and how many bits it has; none: (0, 0). -/
def nextF : List Int → Int × Nat
  | [] => (0, 0)
  | y :: r => if y = 1 then (if r.length < 8 then (0, 0) else if 0 ≤ oidx (val (r.take 8)) then (0, 0) else (val (r.take 8), 9))
      else (if r.length < 5 then (0, 0) else (oft.getD (val (r.take 5)).toNat 0, 6))
theorem dec_none (l : List Int) (hb : ∀ y ∈ l, y = 0 ∨ y = 1) (hf : ¬ Fills l) (h : (nextF l).2 = 0) : dec l = none := by
  match l, hb, hf, h with
  | [], _, hf, _ => exact absurd ⟨by simp, by simp⟩ hf
  | y :: r, hb, hf, h =>
    unfold nextF at h
    rcases hb y List.mem_cons_self with rfl | rfl
    · simp only [show ¬ ((0 : Int) = 1) by decide, if_false] at h
      by_cases h5 : r.length < 5
      · rw [dec_end 0 r (by omega) (by omega), if_pos (Or.inr List.mem_cons_self)]
      · rw [if_neg h5] at h; cases h
    · simp only [if_true] at h
      by_cases h8 : r.length < 8
      · rw [dec_end 1 r (by omega) (by omega), if_pos]
        by_cases h0 : (0 : Int) ∈ 1 :: r
        · exact Or.inr h0
        · refine Or.inl ?_
          rcases Nat.lt_or_ge 7 (1 :: r).length with h7 | h7
          · exact h7
          · exact absurd ⟨by omega, h0⟩ hf
      · rw [if_neg h8] at h
        by_cases ho : 0 ≤ oidx (val (r.take 8))
        · exact dec_wrong 1 r ⟨rfl, by omega⟩ ho
        · rw [if_neg ho] at h; cases h
theorem dec_more (l : List Int) (hb : ∀ y ∈ l, y = 0 ∨ y = 1) (h : (nextF l).2 ≠ 0) :
    dec l = (dec (l.drop (nextF l).2)).map ((nextF l).1 :: ·) ∧ (nextF l).2 ≤ l.length ∧ 6 ≤ (nextF l).2 ∧ 0 ≤ (nextF l).1 ∧ (nextF l).1 < 256 := by
  match l, hb, h with
  | [], _, h => exact absurd rfl h
  | y :: r, hb, h =>
    have hbr : ∀ z ∈ r, z = 0 ∨ z = 1 := fun z hz => hb z (List.mem_cons_of_mem _ hz)
    unfold nextF at h ⊢
    rcases hb y List.mem_cons_self with rfl | rfl
    · simp only [show ¬ ((0 : Int) = 1) by decide, if_false] at h ⊢
      by_cases h5 : r.length < 5
      · rw [if_pos h5] at h; exact absurd rfl h
      · simp only [if_neg h5]
        have hl : (r.take 5).length = 5 := by rw [List.length_take]; omega
        have hv := val_bd (r.take 5) (fun z hz => hbr z (List.take_subset _ _ hz))
        rw [hl] at hv
        have hv2 : val (r.take 5) < 32 := by simpa using hv.2
        refine ⟨dec_often 0 r ⟨rfl, by omega⟩, by simp; omega, by simp, ?_⟩
        have ho : ∀ j : Fin 32, 0 ≤ oft.getD j.val 0 ∧ oft.getD j.val 0 < 256 := by decide
        exact ho ⟨(val (r.take 5)).toNat, by omega⟩
    · simp only [if_true] at h ⊢
      by_cases h8 : r.length < 8
      · rw [if_pos h8] at h; exact absurd rfl h
      · rw [if_neg h8] at h
        by_cases ho : 0 ≤ oidx (val (r.take 8))
        · rw [if_pos ho] at h; exact absurd rfl h
        · simp only [if_neg h8, if_neg ho]
          have hl : (r.take 8).length = 8 := by rw [List.length_take]; omega
          have hv := val_bd (r.take 8) (fun z hz => hbr z (List.take_subset _ _ hz))
          rw [hl] at hv
          have hv2 : val (r.take 8) < 256 := by simpa using hv.2
          exact ⟨dec_rare 1 r ⟨rfl, by omega⟩ ho, by simp; omega, by simp, hv.1, hv2⟩
theorem next_at (Z : List Int) (at_ : Nat) (h : at_ < 8 * Z.length) : (some_ Z at_ 1 = 0 ∨ some_ Z at_ 1 = 1) ∧ nextF ((unpack Z).drop at_) =
    if some_ Z at_ 1 = 1 then (if 8 * Z.length < at_ + 9 then (0, 0) else if 0 ≤ oidx (some_ Z (at_ + 1) 8) then (0, 0) else (some_ Z (at_ + 1) 8, 9))
      else (if 8 * Z.length < at_ + 6 then (0, 0) else (oft.getD (some_ Z (at_ + 1) 5).toNat 0, 6)) := by
  have hl := drop_len Z at_
  have hb : ∀ y ∈ (unpack Z).drop at_, y = 0 ∨ y = 1 := fun y hy => unpack_bit Z y (List.drop_subset _ _ hy)
  have e1 : (unpack Z).drop (at_ + 1) = ((unpack Z).drop at_).drop 1 := by rw [List.drop_drop]
  unfold some_
  rw [e1]
  generalize (unpack Z).drop at_ = l at *
  match l, hl, hb with
  | [], hl, _ => simp at hl; omega
  | y :: r, hl, hb =>
    have hy := hb y List.mem_cons_self
    have ev : val ((y :: r).take 1) = y := by simp [val]
    rw [ev, List.drop_one, List.tail_cons]
    refine ⟨hy, ?_⟩
    simp at hl
    unfold nextF
    simp only [show (8 * Z.length < at_ + 9) = (r.length < 8) from by apply propext; omega, show (8 * Z.length < at_ + 6) = (r.length < 5) from by apply propext; omega]
theorem oftB_at (k : Nat) (hlt : k < 32) : ∀ h, (((oftB[k]'h).toNat : Nat) : Int) = oft.getD k 0 := by
  have h : ∀ j : Fin 32, ∀ h, (((oftB[j.val]'h).toNat : Nat) : Int) = oft.getD j.val 0 := by decide +kernel
  exact h ⟨k, hlt⟩
set_option maxHeartbeats 2000000 in
theorem next_any (a : Option Addr) (len cap : Nat) (Z : List Int) (w : World) (hA : Arg w a len cap Z) (hZ : Z.length = len) (hl : len ≤ 158329674399744) (at_ : Nat) (hat : at_ < 8 * len) :
    Calls Tryz.prog 95 #[.slice a len cap, .int .i64 at_] w fun e w' => e = .returned (.tuple #[.int .u8 (nextF ((unpack Z).drop at_)).1, .int .i64 (nextF ((unpack Z).drop at_)).2]) ∧ w = w' := by
  obtain ⟨hy, hN⟩ := next_at Z at_ (by omega)
  have HN : Hid (nextF ((unpack Z).drop at_) = if some_ Z at_ 1 = 1 then (if 8 * Z.length < at_ + 9 then (0, 0) else if 0 ≤ oidx (some_ Z (at_ + 1) 8) then (0, 0) else (some_ Z (at_ + 1) 8, 9))
      else (if 8 * Z.length < at_ + 6 then (0, 0) else (oft.getD (some_ Z (at_ + 1) 5).toNat 0, 6))) := hN
  clear hN
  generalize nextF ((unpack Z).drop at_) = X at *
  rw [hZ] at HN
  have hc1 := cbits_any a len cap Z w hA hl at_ 1 (by omega) (by omega)
  rcases hy with hy | hy
  · rw [hy] at HN hc1
    have HX : Hid (X = if 8 * len < at_ + 6 then (0, 0) else (oft.getD (some_ Z (at_ + 1) 5).toNat 0, 6)) := HN.out
    clear HN
    by_cases h6 : 8 * len < at_ + 6
    · have hd : decide (8 * (len : Int) < (at_ : Int) + 6) = true := by simp; omega
      have HX2 : Hid (X = (0, 0)) := by have := HX.out; rw [if_pos h6] at this; exact this
      clear HX
      go_enter Tryz.func95, Tryz.ntmps95
      go_wp2_with fail
      refine hc1.mono ?_
      rintro _ _ ⟨rfl, rfl⟩
      go_wp2
      go_ret2
      exact ⟨by rw [HX2.out]; rfl, rfl⟩
    · have hd : decide (8 * (len : Int) < (at_ : Int) + 6) = false := by simp; omega
      have hc2 := cbits_any a len cap Z w hA hl (at_ + 1) 5 (by omega) (by omega)
      have hb5 : 0 ≤ some_ Z (at_ + 1) 5 ∧ some_ Z (at_ + 1) 5 < 32 := by
        have h := val_bd (((unpack Z).drop (at_ + 1)).take 5) (fun y hy => unpack_bit Z y (List.drop_subset _ _ (List.take_subset _ _ hy)))
        have hl5 : (((unpack Z).drop (at_ + 1)).take 5).length = 5 := by rw [List.length_take, drop_len, hZ]; omega
        rw [hl5] at h
        exact ⟨h.1, by have := h.2; unfold some_; simpa using this⟩
      have HX2 : Hid (X = (oft.getD (some_ Z (at_ + 1) 5).toNat 0, 6)) := by have := HX.out; rw [if_neg h6] at this; exact this
      clear HX
      generalize some_ Z (at_ + 1) 5 = m at *
      obtain ⟨k, rfl⟩ := Int.eq_ofNat_of_zero_le hb5.1
      have hk : k < 32 := by omega
      have hix := oftB_at k hk
      unfold oftB at hix
      have HX3 : Hid (X = (oft.getD k 0, 6)) := HX2.out
      clear HX2
      generalize oft.getD k 0 = o at *
      go_enter Tryz.func95, Tryz.ntmps95
      go_wp2_with fail
      refine hc1.mono ?_
      rintro _ _ ⟨rfl, rfl⟩
      go_wp2_with fail
      refine hc2.mono ?_
      rintro _ _ ⟨rfl, rfl⟩
      go_wp2
      go_ret2
      exact ⟨by rw [HX3.out]; rfl, rfl⟩
  · rw [hy] at HN hc1
    have HX : Hid (X = if 8 * len < at_ + 9 then (0, 0) else if 0 ≤ oidx (some_ Z (at_ + 1) 8) then (0, 0) else (some_ Z (at_ + 1) 8, 9)) := HN.out
    clear HN
    by_cases h6 : 8 * len < at_ + 9
    · have hd : decide (8 * (len : Int) < (at_ : Int) + 9) = true := by simp; omega
      have HX2 : Hid (X = (0, 0)) := by have := HX.out; rw [if_pos h6] at this; exact this
      clear HX
      go_enter Tryz.func95, Tryz.ntmps95
      go_wp2_with fail
      refine hc1.mono ?_
      rintro _ _ ⟨rfl, rfl⟩
      go_wp2
      go_ret2
      exact ⟨by rw [HX2.out]; rfl, rfl⟩
    · have hd : decide (8 * (len : Int) < (at_ : Int) + 9) = false := by simp; omega
      have hc2 := cbits_any a len cap Z w hA hl (at_ + 1) 8 (by omega) (by omega)
      obtain ⟨m0, m1⟩ := some_bd Z (at_ + 1) 8 (Nat.le_refl _)
      have HX2 : Hid (X = if 0 ≤ oidx (some_ Z (at_ + 1) 8) then (0, 0) else (some_ Z (at_ + 1) 8, 9)) := by have := HX.out; rw [if_neg h6] at this; exact this
      clear HX
      generalize some_ Z (at_ + 1) 8 = m at *
      have hi := idx_any m m0 m1
      have ob := oidx_bd m
      by_cases ho : 0 ≤ oidx m
      · have HX3 : Hid (X = (0, 0)) := by have := HX2.out; rw [if_pos ho] at this; exact this
        clear HX2
        have hd2 : decide (0 ≤ oidx m) = true := by simp; omega
        generalize oidx m = o at *
        go_enter Tryz.func95, Tryz.ntmps95
        go_wp2_with fail
        refine hc1.mono ?_
        rintro _ _ ⟨rfl, rfl⟩
        go_wp2_with fail
        refine hc2.mono ?_
        rintro _ _ ⟨rfl, rfl⟩
        go_wp2_with fail
        refine (hi _).mono ?_
        rintro _ _ ⟨rfl, rfl⟩
        go_wp2
        go_ret2
        exact ⟨by rw [HX3.out]; rfl, rfl⟩
      · have HX3 : Hid (X = (m, 9)) := by have := HX2.out; rw [if_neg ho] at this; exact this
        clear HX2
        have hd2 : decide (0 ≤ oidx m) = false := by simp; omega
        generalize oidx m = o at *
        go_enter Tryz.func95, Tryz.ntmps95
        go_wp2_with fail
        refine hc1.mono ?_
        rintro _ _ ⟨rfl, rfl⟩
        go_wp2_with fail
        refine hc2.mono ?_
        rintro _ _ ⟨rfl, rfl⟩
        go_wp2_with fail
        refine (hi _).mono ?_
        rintro _ _ ⟨rfl, rfl⟩
        go_wp2
        go_ret2
        exact ⟨by rw [HX3.out]; rfl, rfl⟩
end Go.Proofs.YtkjfhgoddhigmacGreatDoor
