/-
  CONTRACT of the Go function tollref1.Often. No claim by itself.
-/
import Derived.Test.YtkjfhgoddhigmacGreatDoorM11
import Derived.Test.YtkjfhgoddhigmacGreatDoorM05
import Derived.Test.YtkjfhgoddhigmacGreatDoorM07
import Derived.Test.YtkjfhgoddhigmacGreatDoorM06
namespace Go.Proofs.YtkjfhgoddhigmacGreatDoor
open Go.RowKit
/-- The byte at a place of the constant text. -/
theorem oft_at (k : Nat) (hlt : k < 32) : ∀ h, ((((⟨#[101, 116, 97, 111, 105, 110, 115, 104, 114, 100, 108, 117, 99, 109, 102, 119, 121, 112, 118, 98, 103, 107, 120, 106, 113, 122, 45, 47, 46, 58, 48, 32]⟩ : ByteArray)[k]'h).toNat : Nat) : Int) = oft.getD k 0 := by
  obtain rfl | rfl | rfl | rfl | rfl | rfl | rfl | rfl | rfl | rfl | rfl | rfl | rfl | rfl | rfl | rfl | rfl | rfl | rfl | rfl | rfl | rfl | rfl | rfl | rfl | rfl | rfl | rfl | rfl | rfl | rfl | rfl : k = 0 ∨ k = 1 ∨ k = 2 ∨ k = 3 ∨ k = 4 ∨ k = 5 ∨ k = 6 ∨ k = 7 ∨ k = 8 ∨ k = 9 ∨ k = 10 ∨ k = 11 ∨ k = 12 ∨ k = 13 ∨ k = 14 ∨ k = 15 ∨ k = 16 ∨ k = 17 ∨ k = 18 ∨ k = 19 ∨ k = 20 ∨ k = 21 ∨ k = 22 ∨ k = 23 ∨ k = 24 ∨ k = 25 ∨ k = 26 ∨ k = 27 ∨ k = 28 ∨ k = 29 ∨ k = 30 ∨ k = 31 := by omega
  all_goals (intro h; rfl)
set_option maxHeartbeats 2000000 in
theorem often_any (c : Int) (w : World) :
    Calls Tryz.prog 69 #[.int .u8 c] w fun e w' => e = .returned (.int .i64 (oidx c)) ∧ w = w' := by
  go_enter Tryz.func69, Tryz.ntmps69
  go_wp2
  go_loop [3] (fun i => ∃ k : Nat, i = .int .i64 k ∧ k ≤ 32 ∧ Hid (oidx c = oidxFrom (oft.drop k) k c)) (fun i => 32 - (intOf i).toNat)
  case atStart => exact ⟨0, rfl, by omega, rfl⟩
  case round =>
    obtain ⟨k, rfl, hk, HR⟩ := hrel
    by_cases hlt : k < 32
    · have hstep : oidxFrom (oft.drop k) k c = if oft.getD k 0 = c then (k : Int) else oidxFrom (oft.drop (k + 1)) ((k : Int) + 1) c := by
        rw [drop_at oft k _ (by exact hlt) rfl]; rfl
      have HR2 : Hid (oidx c = if oft.getD k 0 = c then (k : Int) else oidxFrom (oft.drop (k + 1)) ((k : Int) + 1) c) := HR.out.trans hstep
      have hix := oft_at k hlt
      generalize oft.getD k 0 = o at *
      clear HR hstep
      by_cases hc : o = c
      · have e := HR2.out
        rw [if_pos hc] at e
        have E : Hid (oidx c = (k : Int)) := e
        have hcb : (o == c) = true := by rw [beq_iff_eq]; exact hc
        clear e HR2 hc
        go_wp2
        go_ret
        exact ⟨by rw [E.out]; rfl, rfl⟩
      · have e := HR2.out
        rw [if_neg hc] at e
        have E : Hid (oidx c = oidxFrom (oft.drop (k + 1)) ((k : Int) + 1) c) := e
        have hcb : (o == c) = false := by rw [beq_eq_false_iff_ne]; exact hc
        clear e HR2 hc
        go_wp2
        go_round
        case rel => exact ⟨k + 1, by go_num, by omega, E⟩
        case measure => simp [intOf]; omega
    · have E : Hid (oidx c = -1) := by
        show oidx c = -1
        have e : k = 32 := by omega
        have h := HR.out
        rw [e] at h
        exact h
      have hge : 32 ≤ (k : Int) := by omega
      go_wp2
      go_ret
      exact ⟨by rw [E.out]; rfl, rfl⟩
end Go.Proofs.YtkjfhgoddhigmacGreatDoor
/-
  CONTRACTS of the Go functions tollref1.bits and tollref1.Bits, for texts of at most 2097152 bytes. No claim by itself.
-/
namespace Go.Proofs.YtkjfhgoddhigmacGreatDoor
open Go.RowKit
theorem nums_len (s : ByteArray) : (nums s).length = s.size := by simp [nums]
theorem nums_at (s : ByteArray) (k : Nat) (h : k < s.size) : ∀ h, ((s[k]'h).toNat : Int) = (nums s).getD k 0 := by
  intro h'
  have hk : k < s.data.toList.length := by simpa using h
  simp only [nums, List.getD, List.getElem?_map, List.getElem?_eq_getElem hk, Option.map_some, Option.getD_some]
  rfl
theorem nums_byte (s : ByteArray) (k : Nat) : 0 ≤ (nums s).getD k 0 ∧ (nums s).getD k 0 < 256 := by
  by_cases h : k < s.data.toList.length
  · simp only [nums, List.getD, List.getElem?_map, List.getElem?_eq_getElem h, Option.map_some, Option.getD_some]
    have := (s.data.toList[k]).toNat_lt
    omega
  · simp only [nums, List.getD, List.getElem?_map, List.getElem?_eq_none (Nat.le_of_not_lt h), Option.map_none, Option.getD_none]
    omega
theorem info5 : (Tryz.prog.info? 5).map (fun i => (i.zero, i.size, i.bytes)) = some (some (.int .u8 0), 1, 1) := by kernel_rfl
theorem pow2_bd (k : Nat) (h : k ≤ 8) : 1 ≤ (2 : Int) ^ k ∧ (2 : Int) ^ k ≤ 256 := by
  have h1 : (2 : Nat) ^ k ≤ 2 ^ 8 := Nat.pow_le_pow_right (by decide) h
  have h2 : (0 : Nat) < 2 ^ k := Nat.pos_of_ne_zero (by simp)
  have e : ((2 ^ k : Nat) : Int) = (2 : Int) ^ k := by simp
  omega
theorem gr_pow (j : Nat) : gr (j : Int) + 1 = 2 ^ j := by rw [← gr_p2]; unfold p2; simp
set_option maxHeartbeats 4000000 in
theorem rbits_any (s : ByteArray) (w : World) (hs : s.size ≤ 2097152) :
    Calls Tryz.prog 56 #[.string s] w fun e w' => ∃ v, e = .returned v ∧ w'.ownsRow w.heap.size 5 1 v (bitsL (nums s)).length ((bitsL (nums s)).map (Value.int .u8)) ∧ Below w.heap.size w w' := by
  obtain ⟨i0, hi, hz0, hz1, hz2⟩ := info_parts info5
  have HN : Hid (∀ k, k < s.size → ∀ h, ((s[k]'h).toNat : Int) = (nums s).getD k 0) := nums_at s
  have HB : Hid (∀ k, 0 ≤ (nums s).getD k 0 ∧ (nums s).getD k 0 < 256) := nums_byte s
  have HLn : Hid ((nums s).length = s.size) := nums_len s
  generalize nums s = Z at *
  go_enter Tryz.func56, Tryz.ntmps56
  go_wp2
  go_loopw [3, 4] (fun v i wr => ∃ k : Nat, i = .int .i64 k ∧ k ≤ s.size ∧ wr.ownsRow w.heap.size 5 1 v (bitsL (Z.take k)).length ((bitsL (Z.take k)).map (Value.int .u8)) ∧ Below w.heap.size w wr) (fun _ i _ => s.size - (intOf i).toNat)
  case atStart => exact ⟨0, rfl, by omega, World.ownsRow_nil _ _ _ _, Below.refl _ _⟩
  case round =>
    obtain ⟨k, rfl, hk, hown, hbel⟩ := hrel
    have hsz := hbel.size
    by_cases hlt : k < s.size
    · have hix := HN.out k hlt
      have hby := HB.out k
      have HT : Hid (bitsL (Z.take (k + 1)) = bitsL (Z.take k) ++ code1 (Z.getD k 0)) := bitsL_take Z k _ (by rw [HLn.out]; exact hlt) rfl
      have hPl := (bitsL_len (Z.take k)).2
      have hPk : (bitsL (Z.take k)).length ≤ 9 * k := by
        have : (Z.take k).length ≤ k := List.length_take_le _ _
        omega
      generalize Z.getD k 0 = c at *
      generalize bitsL (Z.take k) = P at *
      obtain ⟨c0, c1⟩ := hby
      have ob := oidx_bd c
      clear hPl
      by_cases hc : 0 ≤ oidx c
      · have HC1 : Hid (code1 c = 0 :: bin 5 (oidx c)) := by show code1 c = _; unfold code1; rw [if_pos hc]
        obtain ⟨ob1, ob2⟩ := ob
        have hd : decide (oidx c < 0) = false := by simp; omega
        go_wp2_with fail
        refine (often_any _ _).mono ?_
        rintro e w' ⟨rfl, rfl⟩
        generalize oidx c = x at *
        have hx0 : 0 ≤ x := hc
        go_wp2_with (at_builtin; refine wpList_append_own _ rfl _ _ 35 rfl w.heap.size 5 i0 (.int .u8 0) 1 1 Tryz.underlying35 hi hz0 hz1 hz2 rfl (by decide) _ _ _ rfl (hown.alloc _) ⟨wr.heap.size, 0, none⟩ 1 1 [.int .u8 0] rfl rfl ?a15 ?a25 ?a35 ?a45 ?a55 ?_)
        case a15 => exact cell_one_new _ _ _
        case a25 => intro u hu; simp at hu; subst hu; rfl
        case a35 => unfold maxLen; omega
        case a45 => omega
        case a55 => simp; omega
        intro v1 w1 hown1 hgrow1 _
        have hb1 : Below w.heap.size w w1 := (hbel.alloc hsz _).grown hgrow1 (by simp; omega) (fun k hk => (hown.lt k hk).1)
        have hown2 : w1.ownsRow w.heap.size 5 1 v1 (P ++ [0]).length ((P ++ [0]).map (Value.int .u8)) := by simpa using hown1
        have hP2 : (P ++ [0]).length + 5 ≤ 9 * (k + 1) := by simp; omega
        have HP : Hid (bitsL (Z.take (k + 1)) = (P ++ [0]) ++ bin 5 x) := by
          show bitsL (Z.take (k + 1)) = (P ++ [0]) ++ bin 5 x
          rw [HT.out, HC1.out, List.append_assoc]; rfl
        clear hown1 hgrow1 hown
        generalize P ++ [0] = Q at *
        go_wp2_with fail
        go_loopw [3, 9] (fun v j wi => ∃ (pre : List Int) (m : Nat), j = .int .i64 ((m : Int) - 1) ∧ m ≤ 5 ∧ pre.length + m ≤ 9 * (k + 1) ∧ Hid (bitsL (Z.take (k + 1)) = pre ++ bin m x) ∧ wi.ownsRow w.heap.size 5 1 v pre.length (pre.map (Value.int .u8)) ∧ Below w.heap.size w wi) (fun _ j _ => (intOf j + 1).toNat)
        case atStart => exact ⟨Q, 5, rfl, by omega, hP2, HP, hown2, hb1⟩
        case round =>
          clear HP hP2 hown2 hb1
          obtain ⟨pre, m, rfl, hm, hpm, HQ, howni, hbeli⟩ := hrel
          have hszi := hbeli.size
          by_cases hm0 : m = 0
          · subst hm0
            have HL : Hid (bitsL (Z.take (k + 1)) = pre) := by
              show bitsL (Z.take (k + 1)) = pre
              rw [HQ.out]; simp [bin]
            clear HQ
            go_wp2
            go_roundw
            case rel => exact ⟨k + 1, by go_num, by omega, by rw [HL.out]; exact howni, hbeli⟩
            case measure => simp [intOf]; omega
          · obtain ⟨j, rfl⟩ : ∃ j, m = j + 1 := ⟨m - 1, by omega⟩
            have HL : Hid (bitsL (Z.take (k + 1)) = (pre ++ [x / 2 ^ j % 2]) ++ bin j x) := by
              show bitsL (Z.take (k + 1)) = (pre ++ [x / 2 ^ j % 2]) ++ bin j x
              rw [HQ.out]; simp [bin]
            have ej : (((j + 1 : Nat) : Int) - 1) = (j : Int) := by omega
            rw [ej]
            have hp := pow2_bd j (by omega)
            have G2 : Hid (gr (j : Int) + 1 = 2 ^ j) := gr_pow j
            have hq0 : 0 ≤ x / 2 ^ j := Int.ediv_nonneg hx0 (by omega)
            have hq1 : x / 2 ^ j ≤ x := Int.ediv_le_self _ hx0
            generalize (2 : Int) ^ j = p at *
            clear HQ
            go_wp2_with fail
            refine (pow_any _ _ (by omega) (by omega)).mono ?_
            rintro e w' ⟨rfl, rfl⟩
            rw [G2.out]
            go_wp2_with (at_builtin; refine wpList_append_own _ rfl _ _ 35 rfl w.heap.size 5 i0 (.int .u8 0) 1 1 Tryz.underlying35 hi hz0 hz1 hz2 rfl (by decide) _ _ _ rfl (howni.alloc _) ⟨_, 0, none⟩ 1 1 [.int .u8 (x / p % 2)] rfl rfl ?d15 ?d25 ?d35 ?d45 ?d55 ?_)
            case d15 => exact cell_one_new _ _ _
            case d25 => intro u hu; simp at hu; subst hu; rfl
            case d35 => unfold maxLen; omega
            case d45 => omega
            case d55 => simp; omega
            intro v' w3 hown' hgrow _
            have hb3 : Below w.heap.size w w3 := (hbeli.alloc hszi _).grown hgrow (by simp; omega) (fun k hk => (howni.lt k hk).1)
            have hfin : w3.ownsRow w.heap.size 5 1 v' (pre ++ [x / p % 2]).length ((pre ++ [x / p % 2]).map (Value.int .u8)) := by
              simpa using hown'
            have Hfin : Hid (w3.ownsRow w.heap.size 5 1 v' (pre ++ [x / p % 2]).length ((pre ++ [x / p % 2]).map (Value.int .u8))) := hfin
            clear hfin hown' hgrow howni
            go_wp2
            go_roundw
            case rel => exact ⟨_, j, rfl, by omega, by simp; omega, HL, Hfin.out, hb3⟩
            case measure => simp [intOf]
      · have HC1 : Hid (code1 c = 1 :: bin 8 c) := by show code1 c = _; unfold code1; rw [if_neg hc]
        have hc' : oidx c < 0 := by omega
        have hd : decide (oidx c < 0) = true := by simp; omega
        go_wp2_with fail
        refine (often_any _ _).mono ?_
        rintro e w' ⟨rfl, rfl⟩
        generalize oidx c = o at *
        have hx0 : 0 ≤ c := c0
        go_wp2_with (at_builtin; refine wpList_append_own _ rfl _ _ 35 rfl w.heap.size 5 i0 (.int .u8 0) 1 1 Tryz.underlying35 hi hz0 hz1 hz2 rfl (by decide) _ _ _ rfl (hown.alloc _) ⟨wr.heap.size, 0, none⟩ 1 1 [.int .u8 1] rfl rfl ?a18 ?a28 ?a38 ?a48 ?a58 ?_)
        case a18 => exact cell_one_new _ _ _
        case a28 => intro u hu; simp at hu; subst hu; rfl
        case a38 => unfold maxLen; omega
        case a48 => omega
        case a58 => simp; omega
        intro v1 w1 hown1 hgrow1 _
        have hb1 : Below w.heap.size w w1 := (hbel.alloc hsz _).grown hgrow1 (by simp; omega) (fun k hk => (hown.lt k hk).1)
        have hown2 : w1.ownsRow w.heap.size 5 1 v1 (P ++ [1]).length ((P ++ [1]).map (Value.int .u8)) := by simpa using hown1
        have hP2 : (P ++ [1]).length + 8 ≤ 9 * (k + 1) := by simp; omega
        have HP : Hid (bitsL (Z.take (k + 1)) = (P ++ [1]) ++ bin 8 c) := by
          show bitsL (Z.take (k + 1)) = (P ++ [1]) ++ bin 8 c
          rw [HT.out, HC1.out, List.append_assoc]; rfl
        clear hown1 hgrow1 hown
        generalize P ++ [1] = Q at *
        go_wp2_with fail
        go_loopw [3, 9] (fun v j wi => ∃ (pre : List Int) (m : Nat), j = .int .i64 ((m : Int) - 1) ∧ m ≤ 8 ∧ pre.length + m ≤ 9 * (k + 1) ∧ Hid (bitsL (Z.take (k + 1)) = pre ++ bin m c) ∧ wi.ownsRow w.heap.size 5 1 v pre.length (pre.map (Value.int .u8)) ∧ Below w.heap.size w wi) (fun _ j _ => (intOf j + 1).toNat)
        case atStart => exact ⟨Q, 8, rfl, by omega, hP2, HP, hown2, hb1⟩
        case round =>
          clear HP hP2 hown2 hb1
          obtain ⟨pre, m, rfl, hm, hpm, HQ, howni, hbeli⟩ := hrel
          have hszi := hbeli.size
          by_cases hm0 : m = 0
          · subst hm0
            have HL : Hid (bitsL (Z.take (k + 1)) = pre) := by
              show bitsL (Z.take (k + 1)) = pre
              rw [HQ.out]; simp [bin]
            clear HQ
            go_wp2
            go_roundw
            case rel => exact ⟨k + 1, by go_num, by omega, by rw [HL.out]; exact howni, hbeli⟩
            case measure => simp [intOf]; omega
          · obtain ⟨j, rfl⟩ : ∃ j, m = j + 1 := ⟨m - 1, by omega⟩
            have HL : Hid (bitsL (Z.take (k + 1)) = (pre ++ [c / 2 ^ j % 2]) ++ bin j c) := by
              show bitsL (Z.take (k + 1)) = (pre ++ [c / 2 ^ j % 2]) ++ bin j c
              rw [HQ.out]; simp [bin]
            have ej : (((j + 1 : Nat) : Int) - 1) = (j : Int) := by omega
            rw [ej]
            have hp := pow2_bd j (by omega)
            have G2 : Hid (gr (j : Int) + 1 = 2 ^ j) := gr_pow j
            have hq0 : 0 ≤ c / 2 ^ j := Int.ediv_nonneg hx0 (by omega)
            have hq1 : c / 2 ^ j ≤ c := Int.ediv_le_self _ hx0
            generalize (2 : Int) ^ j = p at *
            clear HQ
            go_wp2_with fail
            refine (pow_any _ _ (by omega) (by omega)).mono ?_
            rintro e w' ⟨rfl, rfl⟩
            rw [G2.out]
            go_wp2_with (at_builtin; refine wpList_append_own _ rfl _ _ 35 rfl w.heap.size 5 i0 (.int .u8 0) 1 1 Tryz.underlying35 hi hz0 hz1 hz2 rfl (by decide) _ _ _ rfl (howni.alloc _) ⟨_, 0, none⟩ 1 1 [.int .u8 (c / p % 2)] rfl rfl ?d18 ?d28 ?d38 ?d48 ?d58 ?_)
            case d18 => exact cell_one_new _ _ _
            case d28 => intro u hu; simp at hu; subst hu; rfl
            case d38 => unfold maxLen; omega
            case d48 => omega
            case d58 => simp; omega
            intro v' w3 hown' hgrow _
            have hb3 : Below w.heap.size w w3 := (hbeli.alloc hszi _).grown hgrow (by simp; omega) (fun k hk => (howni.lt k hk).1)
            have hfin : w3.ownsRow w.heap.size 5 1 v' (pre ++ [c / p % 2]).length ((pre ++ [c / p % 2]).map (Value.int .u8)) := by
              simpa using hown'
            have Hfin : Hid (w3.ownsRow w.heap.size 5 1 v' (pre ++ [c / p % 2]).length ((pre ++ [c / p % 2]).map (Value.int .u8))) := hfin
            clear hfin hown' hgrow howni
            go_wp2
            go_roundw
            case rel => exact ⟨_, j, rfl, by omega, by simp; omega, HL, Hfin.out, hb3⟩
            case measure => simp [intOf]
    · have ek : Z.take k = Z := List.take_of_length_le (by rw [HLn.out]; omega)
      rw [ek] at hown
      go_wp2
      go_ret
      exact ⟨_, rfl, hown, hbel⟩
end Go.Proofs.YtkjfhgoddhigmacGreatDoor
/-
  CONTRACTS of the Go functions tollref1.Bits and tollref1.Code, for texts of at most 2097152 bytes. No claim by itself.
-/
namespace Go.Proofs.YtkjfhgoddhigmacGreatDoor
open Go.RowKit
set_option maxRecDepth 100000
def slen : Value → Nat
  | .slice _ n _ => n
  | _ => 0
theorem slen_own {w : World} {base n : Nat} {v : Value} {xs : List Value} (h : w.ownsRow base 5 1 v n xs) : slen v = n ∧ ∃ a cap, v = .slice a n cap ∧ n ≤ cap := by
  obtain ⟨_, ⟨rfl, rfl⟩ | ⟨g, cap, cur, rfl, _, _, hc, _⟩⟩ := h
  · exact ⟨rfl, none, 0, rfl, Nat.le_refl _⟩
  · exact ⟨rfl, _, cap, rfl, hc⟩
theorem shape_n {w : World} {base n : Nat} {v : Value} {xs : List Value} (h : w.ownsRow base 5 1 v n xs) (hn : 1 ≤ n) : ∃ g cap, v = .slice (some ⟨g, 0, none⟩) n cap := by
  obtain ⟨_, ⟨_, h0⟩ | ⟨g, cap, cur, hv, _⟩⟩ := h
  · omega
  · exact ⟨g, cap, hv⟩
theorem own_mono {w : World} {base base' n : Nat} {v : Value} {xs : List Value} (h : w.ownsRow base 5 1 v n xs) (hb : base' ≤ base) : w.ownsRow base' 5 1 v n xs := by
  obtain ⟨h1, h2 | ⟨g, cap, cur, hv, hg, r⟩⟩ := h
  · exact ⟨h1, Or.inl h2⟩
  · exact ⟨h1, Or.inr ⟨g, cap, cur, hv, Nat.le_trans hb hg, r⟩⟩
set_option maxRecDepth 100000 in
set_option maxHeartbeats 4000000 in
theorem rcode_any (s : ByteArray) (w : World) (hs : s.size ≤ 2097152) :
    Calls Tryz.prog 38 #[.string s] w fun e w' => ∃ v, e = .returned v ∧ w'.ownsRow w.heap.size 5 1 v (codeL (nums s)).length ((codeL (nums s)).map (Value.int .u8)) ∧ Below w.heap.size w w' := by
  obtain ⟨i0, hi, hz0, hz1, hz2⟩ := info_parts info5
  have RB := rbits_any s w hs
  have hBl : (bitsL (nums s)).length ≤ 18874368 := by
    have h1 := (bitsL_len (nums s)).2
    rw [nums_len] at h1; omega
  have HBit : Hid (∀ y ∈ bitsL (nums s), y = 0 ∨ y = 1) := bitsL_bit (nums s)
  have HC : Hid (codeL (nums s) = pack ((fill (bitsL (nums s))).length / 8) (fill (bitsL (nums s)))) := rfl
  generalize bitsL (nums s) = B at *
  have HRB : Hid (Calls Tryz.prog 56 #[.string s] w fun e w' => ∃ v, e = .returned v ∧ w'.ownsRow w.heap.size 5 1 v B.length (B.map (Value.int .u8)) ∧ Below w.heap.size w w') := RB
  clear RB
  go_enter Tryz.func38, Tryz.ntmps38
  go_wp2_with fail
  refine HRB.out.mono ?_
  rintro e w1 ⟨v0, rfl, hown0, hb0⟩
  clear HRB
  go_wp2_with fail
  go_loopw [3] (fun v wr => ∃ m : Nat, m ≤ (8 - B.length % 8) % 8 ∧ wr.ownsRow w.heap.size 5 1 v (B.length + m) ((B ++ List.replicate m 1).map (Value.int .u8)) ∧ Below w.heap.size w wr) (fun v _ => (8 - slen v % 8) % 8)
  case atStart => exact ⟨0, by omega, by simpa using hown0, hb0⟩
  case round =>
    clear hown0 hb0
    obtain ⟨m, hm, hown, hbel⟩ := hrel
    have hsz := hbel.size
    obtain ⟨hsl, a, cap, rfl, hcap⟩ := slen_own hown
    by_cases hmod : (B.length + m) % 8 = 0
    · have em : m = (8 - B.length % 8) % 8 := by omega
      have hF : B ++ List.replicate m 1 = fill B := by unfold fill; rw [em]
      have hFl : B.length + m = (fill B).length := by rw [fill_len, em]
      rw [hF] at hown
      have HFB : Hid (∀ y ∈ fill B, y = 0 ∨ y = 1) := fill_bit B HBit.out
      obtain ⟨N, hN⟩ : ∃ N, (fill B).length = 8 * N := ⟨(fill B).length / 8, by omega⟩
      have hN8 : B.length + m = 8 * N := by omega
      have hNb : 8 * N ≤ 18874376 := by omega
      have HC2 : Hid (codeL (nums s) = pack N (fill B)) := by
        show codeL (nums s) = pack N (fill B)
        rw [HC.out, hN, Nat.mul_div_cancel_left _ (by decide)]
      have HNF : Hid ((fill B).length = 8 * N) := hN
      rw [hN8] at hown hcap ⊢
      generalize fill B = F at *
      have hd : (((8 * N : Nat) : Int) % 8 != 0) = false := by
        have : ((8 * N : Nat) : Int) % 8 = 0 := by omega
        rw [this]; rfl
      clear hm hmod em hF hFl hN hN8 HC HBit hsl hBl
      obtain ⟨W1, rfl⟩ : ∃ W1, W1 = wr := ⟨wr, rfl⟩
      go_wp2_with fail
      go_loopw [4, 5] (fun v i wz => ∃ k : Nat, i = .int .i64 (8 * (k : Int)) ∧ k ≤ N ∧ wz.ownsRow W1.heap.size 5 1 v k ((pack k F).map (Value.int .u8)) ∧ Below W1.heap.size W1 wz) (fun _ i _ => 8 * N - (intOf i).toNat)
      case atStart => exact ⟨0, rfl, by omega, World.ownsRow_nil _ _ _ _, Below.refl _ _⟩
      case round =>
        obtain ⟨k, rfl, hk, hownb, hbz⟩ := hrel
        have hszb := hbz.size
        by_cases hlt : k < N
        · obtain ⟨g, cg, ha⟩ := shape_n hown (by omega)
          cases ha
          have hr1 := row_of HNF.out hown (fun x hx => by have := HFB.out x hx; omega)
          have hr2 := hr1.below hbz
          have HR2 : Hid (∀ t, t < 8 * N → wr.cell? ⟨g, t, none⟩ = some (.int .u8 (F.getD t 0))) := by
            intro t ht
            have := hr2.hcell t ht
            rwa [Nat.zero_add] at this
          have hcm := hr1.hmax
          unfold maxLen at hcm
          have HPS : Hid (pack (k + 1) F = pack k F ++ [val ((F.drop (8 * k)).take 8)]) := pack_snoc k F
          clear hr1 hr2
          go_wp2_with fail
          go_loop [6, 7] (fun x j => ∃ t : Nat, j = .int .i64 t ∧ t ≤ 8 ∧ x = .int .i64 (val ((F.drop (8 * k)).take t))) (fun _ j => 8 - (intOf j).toNat)
          case atStart => exact ⟨0, rfl, by omega, rfl⟩
          case round =>
            obtain ⟨t, rfl, ht, rfl⟩ := hrel
            have hvb := val_bd ((F.drop (8 * k)).take t) (fun y hy => HFB.out y (List.drop_subset _ _ (List.take_subset _ _ hy)))
            have hvl : ((F.drop (8 * k)).take t).length = t := by simp [HNF.out]; omega
            rw [hvl] at hvb
            have hp := pow2_bd t ht
            by_cases htl : t < 8
            · have hcell := HR2.out (8 * k + t) (by omega)
              have hy := bit_getD F HFB.out (8 * k + t)
              have ey : (F.drop (8 * k)).getD t 0 = F.getD (8 * k + t) 0 := by simp [List.getD]
              have HV : Hid (val ((F.drop (8 * k)).take (t + 1)) = val ((F.drop (8 * k)).take t) * 2 + F.getD (8 * k + t) 0) := val_take _ t _ (by simp [HNF.out]; omega) ey
              have hv1 : val ((F.drop (8 * k)).take t) ≤ 255 := by omega
              have hv0 := hvb.1
              generalize F.getD (8 * k + t) 0 = y at *
              generalize val ((F.drop (8 * k)).take t) = x at *
              have hy0 : 0 ≤ y := by omega
              have hy1 : y ≤ 1 := by omega
              clear hvb hvl hp hy ey
              go_wp2
              go_round
              case rel => exact ⟨t + 1, by go_num, by omega, by rw [HV.out]⟩
              case measure => simp [intOf]; omega
            · obtain rfl : t = 8 := by omega
              have hv0 := hvb.1
              have hv1 : val ((F.drop (8 * k)).take 8) ≤ 255 := by omega
              have HPS2 := HPS.out
              generalize val ((F.drop (8 * k)).take 8) = x at *
              have HPS3 : Hid (pack (k + 1) F = pack k F ++ [x]) := HPS2
              clear HPS2 HPS hvb hvl hp
              go_wp2_with (at_builtin; refine wpList_append_own _ rfl _ _ 35 rfl W1.heap.size 5 i0 (.int .u8 0) 1 1 Tryz.underlying35 hi hz0 hz1 hz2 rfl (by decide) _ _ _ rfl (hownb.alloc _) ⟨_, 0, none⟩ 1 1 [.int .u8 x] rfl rfl ?b1 ?b2 ?b3 ?b4 ?b5 ?_)
              case b2 => first | rfl | (intro u hu; simp at hu; subst hu; rfl)
              case b3 => unfold maxLen; omega
              case b4 => omega
              case b5 => first | omega | (simp; omega)
              intro v' w3 hown' hgrow _
              have hb3 : Below W1.heap.size W1 w3 := (hbz.alloc hszb _).grown hgrow (by simp; omega) (fun k hk => (hownb.lt k hk).1)
              have hfin : w3.ownsRow W1.heap.size 5 1 v' (k + 1) ((pack (k + 1) F).map (Value.int .u8)) := by
                rw [HPS3.out]; simpa using hown'
              have Hfin : Hid (w3.ownsRow W1.heap.size 5 1 v' (k + 1) ((pack (k + 1) F).map (Value.int .u8))) := hfin
              clear hfin hown' hgrow hownb
              go_wp2
              go_roundw
              case rel => exact ⟨k + 1, by go_num, by omega, Hfin.out, hb3⟩
              case measure => simp [intOf]; omega
        · obtain rfl : k = N := by omega
          go_wp2
          go_ret
          refine ⟨_, rfl, ?_, hbel.trans (hbz.mono hsz)⟩
          rw [HC2.out, pack_len]
          exact own_mono hownb hsz
    · have hcmp : (((B.length + m : Nat) : Int) % 8 != 0) = true := by
        rw [bne_iff_ne]; omega
      go_wp2_with (at_builtin; refine wpList_append_own _ rfl _ _ 35 rfl w.heap.size 5 i0 (.int .u8 0) 1 1 Tryz.underlying35 hi hz0 hz1 hz2 rfl (by decide) _ _ _ rfl (hown.alloc _) ⟨_, 0, none⟩ 1 1 [.int .u8 1] rfl rfl ?a1 ?a2 ?a3 ?a4 ?a5 ?_)
      case a1 => exact cell_one_new _ _ _
      case a2 => intro u hu; simp at hu; subst hu; rfl
      case a3 => unfold maxLen; omega
      case a4 => omega
      case a5 => simp; omega
      intro v' w3 hown' hgrow _
      have hb3 : Below w.heap.size w w3 := (hbel.alloc hsz _).grown hgrow (by simp; omega) (fun k hk => (hown.lt k hk).1)
      have hfin : w3.ownsRow w.heap.size 5 1 v' (B.length + (m + 1)) ((B ++ List.replicate (m + 1) 1).map (Value.int .u8)) := by
        rw [List.replicate_succ']
        simpa [Nat.add_assoc] using hown'
      have hsl' := (slen_own hfin).1
      have Hfin : Hid (w3.ownsRow w.heap.size 5 1 v' (B.length + (m + 1)) ((B ++ List.replicate (m + 1) 1).map (Value.int .u8))) := hfin
      have Hsl : Hid (slen v' = B.length + (m + 1)) := hsl'
      clear hfin hown' hgrow hown hsl'
      go_wp2
      go_roundw
      case rel => exact ⟨m + 1, by omega, Hfin.out, hb3⟩
      case measure => rw [Hsl.out, hsl]; omega
end Go.Proofs.YtkjfhgoddhigmacGreatDoor
