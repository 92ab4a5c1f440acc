/-
  CONTRACTS of the Go functions strings.IndexByte and code.spell at the bytes that are often. No claim by itself.
-/
import Derived.Laws.Externs
import Derived.Laws.StandIn
import Derived.Test.YtkjfhgoddhigmacDoorM10
import Derived.Test.YtkjfhgoddhigmacDoorM08
namespace Go.Proofs.YtkjfhgoddhigmacDoor
open Go.RowKit
/-- The bytes that are often, as the program's text has them. -/
def oftB : ByteArray := ⟨#[101, 116, 97, 111, 105, 110, 115, 104, 114, 100, 108, 117, 99, 109, 102, 119, 121, 112, 118, 98, 103, 107, 120, 106, 113, 122, 45, 47, 46, 58, 48, 32]⟩
theorem first_fin : ∀ c : Fin 256, firstIdx oftB ((c.val : Int)).toNat.toUInt8 = oidx (c.val : Int) := by decide +kernel
theorem first_oft (c : Int) (h0 : 0 ≤ c) (h1 : c < 256) : firstIdx oftB c.toNat.toUInt8 = oidx c := by
  have h := first_fin ⟨c.toNat, by omega⟩
  have e : ((c.toNat : Nat) : Int) = c := by omega
  simp only [e] at h
  exact h
theorem isl_any (c : Int) (h0 : 0 ≤ c) (h1 : c < 256) (w : World) :
    Calls Tryd.prog 59 #[.string oftB, .int .u8 c] w fun e w' => e = .returned (.int .i64 (oidx c)) ∧ w = w' := by
  go_enter Tryd.func59, Tryd.ntmps59
  have hx := @run_callFunc_indexByte Tryd.prog 62 _ Tryd.func62 (by kernel_rfl) (by kernel_rfl) (by kernel_rfl) (by kernel_rfl)
  have hr : ∀ W : World, (Extern.BytealgIndexByte.indexByte #[.string oftB, .int .u8 c]).run Tryd.prog W = .ok (.int .i64 (oidx c)) W := fun W => by rw [run_indexByte_string, first_oft c h0 h1]
  go_wp2_with fail
  go_ret
  exact ⟨rfl, rfl⟩
theorem idx_any (c : Int) (h0 : 0 ≤ c) (h1 : c < 256) (w : World) :
    Calls Tryd.prog 53 #[.string oftB, .int .u8 c] w fun e w' => e = .returned (.int .i64 (oidx c)) ∧ w = w' := by
  go_enter Tryd.func53, Tryd.ntmps53
  go_wp2_with fail
  refine (isl_any c h0 h1 _).mono ?_
  rintro _ _ ⟨rfl, rfl⟩
  go_wp2
  go_ret
  exact ⟨rfl, rfl⟩
end Go.Proofs.YtkjfhgoddhigmacDoor
/-
  CONTRACTS of the Go functions code.spell and code.Bits. No claim by itself.
-/
namespace Go.Proofs.YtkjfhgoddhigmacDoor
open Go.RowKit
/-- The bits of a byte, as a number. -/
def word (c : Int) : Int := if 0 ≤ oidx c then oidx c else 256 + c
theorem word_code (c : Int) (h0 : 0 ≤ c) (h1 : c < 256) : bin (code1 c).length (word c) = code1 c := by
  have ob := oidx_bd c
  rw [code1_len]
  unfold word code1
  by_cases h : 0 ≤ oidx c
  · simp only [if_pos h]
    show (oidx c / 2 ^ 5 % 2) :: bin 5 (oidx c) = _
    rw [show oidx c / 2 ^ 5 % 2 = 0 from by have : (2 : Int) ^ 5 = 32 := by decide
                                            rw [this]; omega]
  · simp only [if_neg h]
    show ((256 + c) / 2 ^ 8 % 2) :: bin 8 (256 + c) = _
    rw [show (256 + c) / 2 ^ 8 % 2 = 1 from by have : (2 : Int) ^ 8 = 256 := by decide
                                               rw [this]; omega]
    have e := bin_add 8 8 1 c (Nat.le_refl _)
    rw [show (1 : Int) * 2 ^ 8 + c = 256 + c from by have : (2 : Int) ^ 8 = 256 := by decide
                                                     rw [this]; omega] at e
    rw [e]
theorem word_bd (c : Int) (h0 : 0 ≤ c) (h1 : c < 256) : 0 ≤ word c ∧ word c < 512 := by
  have ob := oidx_bd c
  unfold word; split <;> omega
theorem s_len (s : ByteArray) : (nums s).length = s.size := by simp [nums]
theorem s_at (s : ByteArray) (k : Nat) (h : k < s.size) : ∀ h, ((s[k]'h).toNat : Int) = (nums s).getD k 0 := by
  intro h'
  have hk : k < s.data.toList.length := by simpa using h
  simp only [nums, List.getD, List.getElem?_map, List.getElem?_eq_getElem hk, Option.map_some, Option.getD_some]
  rfl
theorem s_byte (s : ByteArray) (k : Nat) : 0 ≤ (nums s).getD k 0 ∧ (nums s).getD k 0 < 256 := by
  by_cases h : k < s.data.toList.length
  · simp only [nums, List.getD, List.getElem?_map, List.getElem?_eq_getElem h, Option.map_some, Option.getD_some]
    have := (s.data.toList[k]).toNat_lt
    omega
  · simp only [nums, List.getD, List.getElem?_map, List.getElem?_eq_none (Nat.le_of_not_lt h), Option.map_none, Option.getD_none]
    omega
set_option maxHeartbeats 2000000 in
theorem spell_any (c : Int) (h0 : 0 ≤ c) (h1 : c < 256) (w : World) :
    Calls Tryd.prog 45 #[.int .u8 c] w fun e w' => e = .returned (.tuple #[.int .i64 (word c), .int .i64 (code1 c).length]) ∧ w = w' := by
  have ob := oidx_bd c
  have HL : Hid ((code1 c).length = if 0 ≤ oidx c then 6 else 9) := code1_len c
  by_cases hc : 0 ≤ oidx c
  · have E1 : Hid (word c = oidx c) := by show word c = _; unfold word; rw [if_pos hc]
    have E2 : Hid ((code1 c).length = 6) := by show (code1 c).length = 6; rw [HL.out, if_pos hc]
    clear HL
    obtain ⟨ob1, ob2⟩ := ob
    go_enter Tryd.func45, Tryd.ntmps45
    go_wp2_with fail
    refine (idx_any c h0 h1 _).mono ?_
    rintro _ _ ⟨rfl, rfl⟩
    go_wp2
    go_ret2
    exact ⟨by rw [E1.out, E2.out]; rfl, rfl⟩
  · have E1 : Hid (word c = 256 + c) := by show word c = _; unfold word; rw [if_neg hc]
    have E2 : Hid ((code1 c).length = 9) := by show (code1 c).length = 9; rw [HL.out, if_neg hc]
    have hd : decide (0 ≤ oidx c) = false := by simp; omega
    have hor : bits .or .i64 256 c = 256 + c := i64_or_join 8 256 c (by decide) (by decide) (by decide) h0 (by simpa using h1) (by omega)
    clear HL
    obtain ⟨ob1, ob2⟩ := ob
    go_enter Tryd.func45, Tryd.ntmps45
    go_wp2_with fail
    refine (idx_any c h0 h1 _).mono ?_
    rintro _ _ ⟨rfl, rfl⟩
    go_wp2
    go_ret2
    exact ⟨by rw [E1.out, E2.out]; rfl, rfl⟩
set_option maxHeartbeats 2000000 in
theorem bits_any : BitsSaid := by
  intro s w hs
  have HN : Hid (∀ k, k < s.size → ∀ h, ((s[k]'h).toNat : Int) = (nums s).getD k 0) := s_at s
  have HB : Hid (∀ k, 0 ≤ (nums s).getD k 0 ∧ (nums s).getD k 0 < 256) := s_byte s
  have HLn : Hid ((nums s).length = s.size) := s_len s
  generalize nums s = Z at *
  go_enter Tryd.func44, Tryd.ntmps44
  go_wp2
  go_loop [3, 9] (fun n i => ∃ k : Nat, i = .int .i64 k ∧ k ≤ s.size ∧ n = .int .i64 ((bitsL (Z.take k)).length : Nat)) (fun _ i => s.size - (intOf i).toNat)
  case atStart => exact ⟨0, rfl, by omega, rfl⟩
  case round =>
    obtain ⟨k, rfl, hk, rfl⟩ := hrel
    by_cases hlt : k < s.size
    · have hix := HN.out k hlt
      have hby := HB.out k
      have HT : Hid ((bitsL (Z.take (k + 1))).length = (bitsL (Z.take k)).length + (code1 (Z.getD k 0)).length) := by
        show _ = _
        rw [bitsL_take Z k _ (by rw [HLn.out]; exact hlt) rfl, List.length_append]
      have hPl := (bitsL_len (Z.take k)).2
      have hPk : (bitsL (Z.take k)).length ≤ 9 * k := by
        have : (Z.take k).length ≤ k := List.length_take_le _ _
        omega
      have hCl : (code1 (Z.getD k 0)).length ≤ 9 := by rw [code1_len]; split <;> omega
      generalize Z.getD k 0 = c at *
      generalize (bitsL (Z.take k)).length = P at *
      obtain ⟨c0, c1⟩ := hby
      clear hPl
      have hsp := fun W => spell_any c c0 c1 W
      generalize (code1 c).length = L at *
      go_wp2_with fail
      refine (hsp _).mono ?_
      rintro _ _ ⟨rfl, rfl⟩
      go_wp2
      go_round
      case rel => exact ⟨k + 1, by go_num, by omega, by rw [HT.out]; go_num⟩
      case measure => simp [intOf]; omega
    · have e : k = s.size := by omega
      subst e
      have E : Hid ((bitsL (Z.take s.size)).length = (bitsL Z).length) := by
        show _ = _
        rw [List.take_of_length_le (by rw [HLn.out]; omega)]
      go_wp2
      go_ret
      exact ⟨by rw [← E.out]; rfl, Below.refl _ _⟩
end Go.Proofs.YtkjfhgoddhigmacDoor
