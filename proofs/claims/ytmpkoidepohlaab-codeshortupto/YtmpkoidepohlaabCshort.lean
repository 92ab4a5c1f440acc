/-
  THE WALK of the Go function tolllaw5.CodeShort, its callees by their contracts, for texts that are together at most 1048576. No claim by itself.
-/
import Derived.Test.YtmpkoidepohlaabCback
namespace Go.Proofs.Ytmpkoidepohlaab
open Go.RowKit
def letters (l : List Int) : Bool := l.all fun c => decide (97 ≤ c) && decide (c ≤ 122)
theorem letters_mem {l : List Int} (h : letters l = true) : ∀ c ∈ l, 97 ≤ c ∧ c ≤ 122 := by
  intro c hc
  have := List.all_eq_true.1 h c hc
  simpa using this
theorem letters_snoc (l : List Int) (c : Int) : letters (l ++ [c]) = (letters l && (decide (97 ≤ c) && decide (c ≤ 122))) := by simp [letters]
theorem nums_at0 (s : ByteArray) (k : Nat) (h : k < s.size) : ∀ h, ((s[k]'h).toNat : Int) = (nums s).getD k 0 := by
  intro h'
  have hk : k < s.data.toList.length := by simpa using h
  simp only [nums, List.getD, List.getElem?_map, List.getElem?_eq_getElem hk, Option.map_some, Option.getD_some]
  rfl
theorem nums_byte0 (s : ByteArray) (k : Nat) : 0 ≤ (nums s).getD k 0 ∧ (nums s).getD k 0 < 256 := by
  by_cases h : k < s.data.toList.length
  · simp only [nums, List.getD, List.getElem?_map, List.getElem?_eq_getElem h, Option.map_some, Option.getD_some]
    have := (s.data.toList[k]).toNat_lt
    omega
  · simp only [nums, List.getD, List.getElem?_map, List.getElem?_eq_none (Nat.le_of_not_lt h), Option.map_none, Option.getD_none]
    omega
set_option maxHeartbeats 4000000 in
theorem cshort_ok (hE : EncSaid) (hBt : BitsSaid) (s t : ByteArray) (w : World) (hs : s.size ≤ 1048576) (ht : t.size ≤ 1048576) :
    Calls Try.prog 4 #[.string s, .string t] w fun e w' => e = .returned (.bool true) ∧ Below w.heap.size w w' := by
  have hadd := fun wx : World => run_string_add_sum (P := Try.prog) wx s t (by omega)
  have hst : (s ++ t).size ≤ 2097152 := by rw [ByteArray.size_append]; omega
  have HLA : Hid ((codeL (nums s)).length = ((bitsL (nums s)).length + 7) / 8) := code_len _
  have HLB : Hid ((codeL (nums t)).length = ((bitsL (nums t)).length + 7) / 8) := code_len _
  have HLC : Hid ((codeL (nums (s ++ t))).length = ((bitsL (nums s)).length + (bitsL (nums t)).length + 7) / 8) := by
    show (codeL (nums (s ++ t))).length = ((bitsL (nums s)).length + (bitsL (nums t)).length + 7) / 8
    rw [code_len, nums_append, bitsL_append, List.length_append]
  have hb := bitsL_len (nums s)
  have hbt := bitsL_len (nums t)
  have ZL : Hid ((nums s).length = s.size) := nums_len0 s
  rw [nums_len0] at hb hbt
  have HLET : Hid (letters (nums s) = true → (bitsL (nums s)).length = 6 * s.size) := fun h => by
    rw [bits_often (nums s) (letters_mem h), nums_len0]
  have HN : Hid (∀ k, k < s.size → ∀ h, ((s[k]'h).toNat : Int) = (nums s).getD k 0) := nums_at0 s
  have HB : Hid (∀ k, 0 ≤ (nums s).getD k 0 ∧ (nums s).getD k 0 < 256) := nums_byte0 s
  obtain ⟨hb1, hb2⟩ := hb
  obtain ⟨_, hbt2⟩ := hbt
  have e15 : (bitsL (nums ⟨#[101, 81]⟩)).length = 15 := by decide
  have HE15 : Hid (∀ w : World, Calls Try.prog 7 #[.string ⟨#[101, 81]⟩] w fun e w' => e = .returned (.int .i64 15) ∧ Below w.heap.size w w') := by
    intro w
    have h := hBt ⟨#[101, 81]⟩ w (by decide)
    rw [e15] at h
    exact h
  clear e15
  go_enter Try.func4, Try.ntmps4
  go_wp2_with fail
  refine (HE15.out w).mono ?_
  rintro e w1 ⟨rfl, q1⟩
  go_wp2_with fail
  refine (hBt s w1 (by omega)).mono ?_
  rintro e w2 ⟨rfl, q2⟩
  have s1 := q1.size
  have s2 := q2.size
  have hB2 : Below w.heap.size w w2 := q1.trans (q2.mono s1)
  generalize hn : (bitsL (nums s)).length = n at *
  generalize hm : (bitsL (nums t)).length = m at *
  generalize hZ : nums s = Z at *
  have HZ : Hid (nums s = Z) := hZ
  clear hn hm hZ
  go_wp2_with fail
  go_loop [7, 8] (fun o i => ∃ (k : Nat) (b : Bool), i = .int .i64 k ∧ k ≤ s.size ∧ o = .bool b ∧ Hid (b = letters (Z.take k))) (fun _ i => s.size - (intOf i).toNat)
  case atStart => exact ⟨0, true, rfl, by omega, rfl, rfl⟩
  case round =>
    obtain ⟨k, o, rfl, hk, rfl, HO⟩ := hrel
    by_cases hlt : k < s.size
    · have hix := HN.out k hlt
      have hby := HB.out k
      have HS : Hid (letters (Z.take (k + 1)) = (letters (Z.take k) && (decide (97 ≤ Z.getD k 0) && decide (Z.getD k 0 ≤ 122)))) := by
        show letters (Z.take (k + 1)) = _
        rw [take_snocZ Z k _ (by rw [ZL.out]; exact hlt) rfl, letters_snoc]
      rw [← HO.out] at HS
      generalize Z.getD k 0 = c at *
      obtain ⟨c0, c1⟩ := hby
      clear HO
      cases o
      · have HS2 : Hid (false = letters (Z.take (k + 1))) := by show false = _; rw [HS.out]; rfl
        clear HS
        go_wp2
        go_round
        case rel => exact ⟨k + 1, false, by go_num, by omega, rfl, HS2⟩
        case measure => simp [intOf]; omega
      · by_cases h1 : 97 ≤ c
        · by_cases h2 : c ≤ 122
          · have HS2 : Hid (true = letters (Z.take (k + 1))) := by show true = _; rw [HS.out]; simp [h1, h2]
            have d2 : decide (c ≤ 122) = true := by simp [h2]
            clear HS
            go_wp2
            go_round
            case rel => exact ⟨k + 1, true, by go_num, by omega, rfl, HS2⟩
            case measure => simp [intOf]; omega
          · have HS2 : Hid (false = letters (Z.take (k + 1))) := by show false = _; rw [HS.out]; simp [h1, h2]
            have d2 : decide (c ≤ 122) = false := by simp; omega
            clear HS
            go_wp2
            go_round
            case rel => exact ⟨k + 1, false, by go_num, by omega, rfl, HS2⟩
            case measure => simp [intOf]; omega
        · have HS2 : Hid (false = letters (Z.take (k + 1))) := by show false = _; rw [HS.out]; simp [h1]
          have d1 : decide (97 ≤ c) = false := by simp; omega
          clear HS
          go_wp2
          go_round
          case rel => exact ⟨k + 1, false, by go_num, by omega, rfl, HS2⟩
          case measure => simp [intOf]; omega
    · have ek : Z.take k = Z := List.take_of_length_le (by rw [ZL.out]; omega)
      have HO2 := HO.out
      rw [ek] at HO2
      have hlet : o = true → n = 6 * s.size := fun h => HLET.out (by rw [← HO2]; exact h)
      have hcase : (o = false) ∨ (o = true ∧ n = 6 * s.size) := by
        cases o
        · left; rfl
        · right; exact ⟨rfl, hlet rfl⟩
      clear HO HO2 hlet ek HLET
      have hcase2 : (o = false) ∨ (o = true ∧ n ≤ 6 * s.size ∧ ((n : Int) != 6 * (s.size : Int)) = false) := by
        rcases hcase with h | ⟨h, h6⟩
        · left; exact h
        · right
          refine ⟨h, by omega, ?_⟩
          have : (n : Int) = 6 * (s.size : Int) := by omega
          rw [this]; simp
      clear hcase
      rcases hcase2 with rfl | ⟨rfl, hn6, hn7⟩
      all_goals
        go_wp2_with fail
        refine (hE s w2 (by omega)).mono ?_
        rintro e w3 ⟨v3, rfl, ho3, q3⟩
        rw [HZ.out, HLA.out] at ho3
        obtain ⟨a3, c3, rfl, _, _⟩ := slice_made ho3
        clear ho3
        go_wp2_with fail
        refine (hE t w3 (by omega)).mono ?_
        rintro e w4 ⟨v4, rfl, ho4, q4⟩
        rw [HLB.out] at ho4
        obtain ⟨a4, c4, rfl, _, _⟩ := slice_made ho4
        clear ho4
        go_wp2_with fail
        refine (hE (s ++ t) w4 (by omega)).mono ?_
        rintro e w5 ⟨v5, rfl, ho5, q5⟩
        rw [HLC.out] at ho5
        obtain ⟨a5, c5, rfl, _, _⟩ := slice_made ho5
        clear ho5
        have s3 := q3.size
        have s4 := q4.size
        have hB5 : Below w.heap.size w w5 := ((hB2.trans (q3.mono (by omega))).trans (q4.mono (by omega))).trans (q5.mono (by omega))
        have l1 : (n + m + 7) / 8 ≤ (n + 7) / 8 + (m + 7) / 8 := by omega
        have l2 : (n + 7) / 8 + (m + 7) / 8 ≤ (n + m + 7) / 8 + 1 := by omega
        have l3 : (n + m + 7) / 8 ≤ 2359297 := by omega
        have l4 : (n + 7) / 8 ≤ 1179649 := by omega
        have l5 : (m + 7) / 8 ≤ 1179649 := by omega
        generalize (n + m + 7) / 8 = x at *
        generalize (n + 7) / 8 = y at *
        generalize (m + 7) / 8 = z at *
        go_wp2
        go_ret
        exact ⟨by simp; omega, hB5⟩
end Go.Proofs.Ytmpkoidepohlaab
