/-
  CONTRACTS of the Go functions tollref1.bits and tollref1.Bits, for texts of at most 2097152 bytes. No claim by itself.
-/
import Derived.Test.YtkjfhgoddhigmabDoorOften
import Derived.Test.YtkjfhgoddhigmabDoorCspec
namespace Go.Proofs.YtkjfhgoddhigmabDoor
open Go.RowKit
theorem nums_len (s : ByteArray) : (nums s).length = s.size := by simp [nums]
theorem nums_at (s : ByteArray) (k : Nat) (h : k < s.size) : ∀ h, ((s[k]'h).toNat : Int) = (nums s).getD k 0 := by
  intro h'
  have hk : k < s.data.toList.length := by simpa using h
  simp only [nums, List.getD, List.getElem?_map, List.getElem?_eq_getElem hk, Option.map_some, Option.getD_some]
  rfl
theorem nums_byte (s : ByteArray) (k : Nat) : 0 ≤ (nums s).getD k 0 ∧ (nums s).getD k 0 < 256 := by
  by_cases h : k < s.data.toList.length
  · simp only [nums, List.getD, List.getElem?_map, List.getElem?_eq_getElem h, Option.map_some, Option.getD_some]
    have := (s.data.toList[k]).toNat_lt
    omega
  · simp only [nums, List.getD, List.getElem?_map, List.getElem?_eq_none (Nat.le_of_not_lt h), Option.map_none, Option.getD_none]
    omega
theorem info5 : (Tryd.prog.info? 5).map (fun i => (i.zero, i.size, i.bytes)) = some (some (.int .u8 0), 1, 1) := by kernel_rfl
theorem pow2_bd (k : Nat) (h : k ≤ 8) : 1 ≤ (2 : Int) ^ k ∧ (2 : Int) ^ k ≤ 256 := by
  have h1 : (2 : Nat) ^ k ≤ 2 ^ 8 := Nat.pow_le_pow_right (by decide) h
  have h2 : (0 : Nat) < 2 ^ k := Nat.pos_of_ne_zero (by simp)
  have e : ((2 ^ k : Nat) : Int) = (2 : Int) ^ k := by simp
  omega
theorem gr_pow (j : Nat) : gr (j : Int) + 1 = 2 ^ j := by rw [← gr_p2]; unfold p2; simp
set_option maxHeartbeats 4000000 in
theorem rbits_any (s : ByteArray) (w : World) (hs : s.size ≤ 2097152) :
    Calls Tryd.prog 46 #[.string s] w fun e w' => ∃ v, e = .returned v ∧ w'.ownsRow w.heap.size 5 1 v (bitsL (nums s)).length ((bitsL (nums s)).map (Value.int .u8)) ∧ Below w.heap.size w w' := by
  obtain ⟨i0, hi, hz0, hz1, hz2⟩ := info_parts info5
  have HN : Hid (∀ k, k < s.size → ∀ h, ((s[k]'h).toNat : Int) = (nums s).getD k 0) := nums_at s
  have HB : Hid (∀ k, 0 ≤ (nums s).getD k 0 ∧ (nums s).getD k 0 < 256) := nums_byte s
  have HLn : Hid ((nums s).length = s.size) := nums_len s
  generalize nums s = Z at *
  go_enter Tryd.func46, Tryd.ntmps46
  go_wp2
  go_loopw [3, 4] (fun v i wr => ∃ k : Nat, i = .int .i64 k ∧ k ≤ s.size ∧ wr.ownsRow w.heap.size 5 1 v (bitsL (Z.take k)).length ((bitsL (Z.take k)).map (Value.int .u8)) ∧ Below w.heap.size w wr) (fun _ i _ => s.size - (intOf i).toNat)
  case atStart => exact ⟨0, rfl, by omega, World.ownsRow_nil _ _ _ _, Below.refl _ _⟩
  case round =>
    obtain ⟨k, rfl, hk, hown, hbel⟩ := hrel
    have hsz := hbel.size
    by_cases hlt : k < s.size
    · have hix := HN.out k hlt
      have hby := HB.out k
      have HT : Hid (bitsL (Z.take (k + 1)) = bitsL (Z.take k) ++ code1 (Z.getD k 0)) := bitsL_take Z k _ (by rw [HLn.out]; exact hlt) rfl
      have hPl := (bitsL_len (Z.take k)).2
      have hPk : (bitsL (Z.take k)).length ≤ 9 * k := by
        have : (Z.take k).length ≤ k := List.length_take_le _ _
        omega
      generalize Z.getD k 0 = c at *
      generalize bitsL (Z.take k) = P at *
      obtain ⟨c0, c1⟩ := hby
      have ob := oidx_bd c
      clear hPl
      by_cases hc : 0 ≤ oidx c
      · have HC1 : Hid (code1 c = 0 :: bin 5 (oidx c)) := by show code1 c = _; unfold code1; rw [if_pos hc]
        obtain ⟨ob1, ob2⟩ := ob
        have hd : decide (oidx c < 0) = false := by simp; omega
        go_wp2_with fail
        refine (often_any _ _).mono ?_
        rintro e w' ⟨rfl, rfl⟩
        generalize oidx c = x at *
        have hx0 : 0 ≤ x := hc
        go_wp2_with (at_builtin; refine wpList_append_own _ rfl _ _ 50 rfl w.heap.size 5 i0 (.int .u8 0) 1 1 Tryd.underlying50 hi hz0 hz1 hz2 rfl (by decide) _ _ _ rfl (hown.alloc _) ⟨wr.heap.size, 0, none⟩ 1 1 [.int .u8 0] rfl rfl ?a15 ?a25 ?a35 ?a45 ?a55 ?_)
        case a15 => exact cell_one_new _ _ _
        case a25 => intro u hu; simp at hu; subst hu; rfl
        case a35 => unfold maxLen; omega
        case a45 => omega
        case a55 => simp; omega
        intro v1 w1 hown1 hgrow1 _
        have hb1 : Below w.heap.size w w1 := (hbel.alloc hsz _).grown hgrow1 (by simp; omega) (fun k hk => (hown.lt k hk).1)
        have hown2 : w1.ownsRow w.heap.size 5 1 v1 (P ++ [0]).length ((P ++ [0]).map (Value.int .u8)) := by simpa using hown1
        have hP2 : (P ++ [0]).length + 5 ≤ 9 * (k + 1) := by simp; omega
        have HP : Hid (bitsL (Z.take (k + 1)) = (P ++ [0]) ++ bin 5 x) := by
          show bitsL (Z.take (k + 1)) = (P ++ [0]) ++ bin 5 x
          rw [HT.out, HC1.out, List.append_assoc]; rfl
        clear hown1 hgrow1 hown
        generalize P ++ [0] = Q at *
        go_wp2_with fail
        go_loopw [3, 9] (fun v j wi => ∃ (pre : List Int) (m : Nat), j = .int .i64 ((m : Int) - 1) ∧ m ≤ 5 ∧ pre.length + m ≤ 9 * (k + 1) ∧ Hid (bitsL (Z.take (k + 1)) = pre ++ bin m x) ∧ wi.ownsRow w.heap.size 5 1 v pre.length (pre.map (Value.int .u8)) ∧ Below w.heap.size w wi) (fun _ j _ => (intOf j + 1).toNat)
        case atStart => exact ⟨Q, 5, rfl, by omega, hP2, HP, hown2, hb1⟩
        case round =>
          clear HP hP2 hown2 hb1
          obtain ⟨pre, m, rfl, hm, hpm, HQ, howni, hbeli⟩ := hrel
          have hszi := hbeli.size
          by_cases hm0 : m = 0
          · subst hm0
            have HL : Hid (bitsL (Z.take (k + 1)) = pre) := by
              show bitsL (Z.take (k + 1)) = pre
              rw [HQ.out]; simp [bin]
            clear HQ
            go_wp2
            go_roundw
            case rel => exact ⟨k + 1, by go_num, by omega, by rw [HL.out]; exact howni, hbeli⟩
            case measure => simp [intOf]; omega
          · obtain ⟨j, rfl⟩ : ∃ j, m = j + 1 := ⟨m - 1, by omega⟩
            have HL : Hid (bitsL (Z.take (k + 1)) = (pre ++ [x / 2 ^ j % 2]) ++ bin j x) := by
              show bitsL (Z.take (k + 1)) = (pre ++ [x / 2 ^ j % 2]) ++ bin j x
              rw [HQ.out]; simp [bin]
            have ej : (((j + 1 : Nat) : Int) - 1) = (j : Int) := by omega
            rw [ej]
            have hp := pow2_bd j (by omega)
            have G2 : Hid (gr (j : Int) + 1 = 2 ^ j) := gr_pow j
            have hq0 : 0 ≤ x / 2 ^ j := Int.ediv_nonneg hx0 (by omega)
            have hq1 : x / 2 ^ j ≤ x := Int.ediv_le_self _ hx0
            generalize (2 : Int) ^ j = p at *
            clear HQ
            go_wp2_with fail
            refine (pow_any _ _ (by omega) (by omega)).mono ?_
            rintro e w' ⟨rfl, rfl⟩
            rw [G2.out]
            go_wp2_with (at_builtin; refine wpList_append_own _ rfl _ _ 50 rfl w.heap.size 5 i0 (.int .u8 0) 1 1 Tryd.underlying50 hi hz0 hz1 hz2 rfl (by decide) _ _ _ rfl (howni.alloc _) ⟨_, 0, none⟩ 1 1 [.int .u8 (x / p % 2)] rfl rfl ?d15 ?d25 ?d35 ?d45 ?d55 ?_)
            case d15 => exact cell_one_new _ _ _
            case d25 => intro u hu; simp at hu; subst hu; rfl
            case d35 => unfold maxLen; omega
            case d45 => omega
            case d55 => simp; omega
            intro v' w3 hown' hgrow _
            have hb3 : Below w.heap.size w w3 := (hbeli.alloc hszi _).grown hgrow (by simp; omega) (fun k hk => (howni.lt k hk).1)
            have hfin : w3.ownsRow w.heap.size 5 1 v' (pre ++ [x / p % 2]).length ((pre ++ [x / p % 2]).map (Value.int .u8)) := by
              simpa using hown'
            have Hfin : Hid (w3.ownsRow w.heap.size 5 1 v' (pre ++ [x / p % 2]).length ((pre ++ [x / p % 2]).map (Value.int .u8))) := hfin
            clear hfin hown' hgrow howni
            go_wp2
            go_roundw
            case rel => exact ⟨_, j, rfl, by omega, by simp; omega, HL, Hfin.out, hb3⟩
            case measure => simp [intOf]
      · have HC1 : Hid (code1 c = 1 :: bin 8 c) := by show code1 c = _; unfold code1; rw [if_neg hc]
        have hc' : oidx c < 0 := by omega
        have hd : decide (oidx c < 0) = true := by simp; omega
        go_wp2_with fail
        refine (often_any _ _).mono ?_
        rintro e w' ⟨rfl, rfl⟩
        generalize oidx c = o at *
        have hx0 : 0 ≤ c := c0
        go_wp2_with (at_builtin; refine wpList_append_own _ rfl _ _ 50 rfl w.heap.size 5 i0 (.int .u8 0) 1 1 Tryd.underlying50 hi hz0 hz1 hz2 rfl (by decide) _ _ _ rfl (hown.alloc _) ⟨wr.heap.size, 0, none⟩ 1 1 [.int .u8 1] rfl rfl ?a18 ?a28 ?a38 ?a48 ?a58 ?_)
        case a18 => exact cell_one_new _ _ _
        case a28 => intro u hu; simp at hu; subst hu; rfl
        case a38 => unfold maxLen; omega
        case a48 => omega
        case a58 => simp; omega
        intro v1 w1 hown1 hgrow1 _
        have hb1 : Below w.heap.size w w1 := (hbel.alloc hsz _).grown hgrow1 (by simp; omega) (fun k hk => (hown.lt k hk).1)
        have hown2 : w1.ownsRow w.heap.size 5 1 v1 (P ++ [1]).length ((P ++ [1]).map (Value.int .u8)) := by simpa using hown1
        have hP2 : (P ++ [1]).length + 8 ≤ 9 * (k + 1) := by simp; omega
        have HP : Hid (bitsL (Z.take (k + 1)) = (P ++ [1]) ++ bin 8 c) := by
          show bitsL (Z.take (k + 1)) = (P ++ [1]) ++ bin 8 c
          rw [HT.out, HC1.out, List.append_assoc]; rfl
        clear hown1 hgrow1 hown
        generalize P ++ [1] = Q at *
        go_wp2_with fail
        go_loopw [3, 9] (fun v j wi => ∃ (pre : List Int) (m : Nat), j = .int .i64 ((m : Int) - 1) ∧ m ≤ 8 ∧ pre.length + m ≤ 9 * (k + 1) ∧ Hid (bitsL (Z.take (k + 1)) = pre ++ bin m c) ∧ wi.ownsRow w.heap.size 5 1 v pre.length (pre.map (Value.int .u8)) ∧ Below w.heap.size w wi) (fun _ j _ => (intOf j + 1).toNat)
        case atStart => exact ⟨Q, 8, rfl, by omega, hP2, HP, hown2, hb1⟩
        case round =>
          clear HP hP2 hown2 hb1
          obtain ⟨pre, m, rfl, hm, hpm, HQ, howni, hbeli⟩ := hrel
          have hszi := hbeli.size
          by_cases hm0 : m = 0
          · subst hm0
            have HL : Hid (bitsL (Z.take (k + 1)) = pre) := by
              show bitsL (Z.take (k + 1)) = pre
              rw [HQ.out]; simp [bin]
            clear HQ
            go_wp2
            go_roundw
            case rel => exact ⟨k + 1, by go_num, by omega, by rw [HL.out]; exact howni, hbeli⟩
            case measure => simp [intOf]; omega
          · obtain ⟨j, rfl⟩ : ∃ j, m = j + 1 := ⟨m - 1, by omega⟩
            have HL : Hid (bitsL (Z.take (k + 1)) = (pre ++ [c / 2 ^ j % 2]) ++ bin j c) := by
              show bitsL (Z.take (k + 1)) = (pre ++ [c / 2 ^ j % 2]) ++ bin j c
              rw [HQ.out]; simp [bin]
            have ej : (((j + 1 : Nat) : Int) - 1) = (j : Int) := by omega
            rw [ej]
            have hp := pow2_bd j (by omega)
            have G2 : Hid (gr (j : Int) + 1 = 2 ^ j) := gr_pow j
            have hq0 : 0 ≤ c / 2 ^ j := Int.ediv_nonneg hx0 (by omega)
            have hq1 : c / 2 ^ j ≤ c := Int.ediv_le_self _ hx0
            generalize (2 : Int) ^ j = p at *
            clear HQ
            go_wp2_with fail
            refine (pow_any _ _ (by omega) (by omega)).mono ?_
            rintro e w' ⟨rfl, rfl⟩
            rw [G2.out]
            go_wp2_with (at_builtin; refine wpList_append_own _ rfl _ _ 50 rfl w.heap.size 5 i0 (.int .u8 0) 1 1 Tryd.underlying50 hi hz0 hz1 hz2 rfl (by decide) _ _ _ rfl (howni.alloc _) ⟨_, 0, none⟩ 1 1 [.int .u8 (c / p % 2)] rfl rfl ?d18 ?d28 ?d38 ?d48 ?d58 ?_)
            case d18 => exact cell_one_new _ _ _
            case d28 => intro u hu; simp at hu; subst hu; rfl
            case d38 => unfold maxLen; omega
            case d48 => omega
            case d58 => simp; omega
            intro v' w3 hown' hgrow _
            have hb3 : Below w.heap.size w w3 := (hbeli.alloc hszi _).grown hgrow (by simp; omega) (fun k hk => (howni.lt k hk).1)
            have hfin : w3.ownsRow w.heap.size 5 1 v' (pre ++ [c / p % 2]).length ((pre ++ [c / p % 2]).map (Value.int .u8)) := by
              simpa using hown'
            have Hfin : Hid (w3.ownsRow w.heap.size 5 1 v' (pre ++ [c / p % 2]).length ((pre ++ [c / p % 2]).map (Value.int .u8))) := hfin
            clear hfin hown' hgrow howni
            go_wp2
            go_roundw
            case rel => exact ⟨_, j, rfl, by omega, by simp; omega, HL, Hfin.out, hb3⟩
            case measure => simp [intOf]
    · have ek : Z.take k = Z := List.take_of_length_le (by rw [HLn.out]; omega)
      rw [ek] at hown
      go_wp2
      go_ret
      exact ⟨_, rfl, hown, hbel⟩
end Go.Proofs.YtkjfhgoddhigmabDoor
