/-
  THE WALK of the Go function tolllaw1.CodeBack, its callees by their contracts. No claim by itself.
-/
import Derived.Test.YtmpkoidepohlaabCmath3
import Derived.Laws.Concat
namespace Go.Proofs.Ytmpkoidepohlaab
open Go.RowKit
theorem string_empty {w : World} (a : Addr) (cap : Nat) : (convert 22 9 (.slice (some a) 0 cap)).run Try.prog w = .ok (.string (strOfNums [])) w := by
  rw [run_convert_bytes_string w 22 9 5 _ 0 cap Try.underlying22 Try.underlying5 Try.underlying9, run_bytesToString w a 0 cap [] (by simp [loadCells, loadCellsFrom])]
  rfl
/-- string(b) of bytes that were handed in. -/
theorem string_arg {w : World} {a : Option Addr} {len cap : Nat} {Z : List Int} (h : Arg w a len cap Z) :
    (convert 22 9 (.slice a len cap)).run Try.prog w = .ok (.string (strOfNums Z)) w := by
  rcases h with ⟨rfl, rfl⟩ | ⟨g, off, rfl, hr⟩
  · match a with
    | none => exact run_convert_bytes_nil (P := Try.prog) w 22 5 Try.underlying22 Try.underlying5 0 cap 9 Try.underlying9
    | some a => exact string_empty a cap
  · exact run_convert_bytes_arg w 22 5 Try.underlying22 Try.underlying5 g off len cap Z hr.hlen hr.hcell 9 Try.underlying9
theorem enc_e (hE : EncSaid) (w : World) :
    Calls Try.prog 5 #[.string ⟨#[101]⟩] w fun e w' => ∃ g cap, e = .returned (.slice (some ⟨g, 0, none⟩) 1 cap) ∧ w'.cell? ⟨g, 0, none⟩ = some (.int .u8 3) ∧ 1 ≤ cap ∧ cap ≤ maxLen ∧ Below w.heap.size w w' := by
  refine (hE ⟨#[101]⟩ w (by decide)).mono ?_
  rintro e w' ⟨v, rfl, ho, hb⟩
  have ec : codeL (nums ⟨#[101]⟩) = [3] := by decide
  rw [ec] at ho
  obtain ⟨_, ⟨_, h0⟩ | ⟨g, cap, rfl, _, hr⟩⟩ := ho
  · cases h0
  · exact ⟨g, cap, rfl, by simpa using hr.hcell 0 (by decide), hr.hcap, hr.hmax, hb⟩
set_option maxHeartbeats 2000000 in
theorem cback_ok (hE : EncSaid) (hBt : BitsSaid) (hD : DecSaid) (s t : ByteArray) (a : Option Addr) (len cap : Nat) (Z : List Int) (w : World) (hs : s.size ≤ 140737488351232) (ht : t.size ≤ 140737488351232) (hA : Arg w a len cap Z) (hZ : ∀ c ∈ Z, 0 ≤ c ∧ c < 256) (hl : len ≤ 140737488351232) (hZl : Z.length = len) :
    Calls Try.prog 3 #[.string s, .string t, .slice a len cap] w fun e w' => e = .returned (.bool true) ∧ Below w.heap.size w w' := by
  have hadd := fun wx : World => run_string_add_sum (P := Try.prog) wx s t (by omega)
  have hst : (s ++ t).size ≤ 281474976710656 := by rw [ByteArray.size_append]; omega
  have HN : Hid ((bitsL (nums (s ++ t))).length = (bitsL (nums s)).length + (bitsL (nums t)).length) := by
    show (bitsL (nums (s ++ t))).length = (bitsL (nums s)).length + (bitsL (nums t)).length
    rw [nums_append, bitsL_append, List.length_append]
  have HCL : Hid ((codeL (nums s)).length = ((bitsL (nums s)).length + 7) / 8) := code_len _
  have HDS : Hid (decF (codeL (nums s)) = some (nums s)) := dec_code _ (nums_mem s)
  have HSN : Hid (strOfNums (nums s) = s) := str_nums s
  have hns : (bitsL (nums s)).length ≤ 1266637395161088 := by have := (bitsL_len (nums s)).2; rw [nums_len0] at this; omega
  have hnt : (bitsL (nums t)).length ≤ 1266637395161088 := by have := (bitsL_len (nums t)).2; rw [nums_len0] at this; omega
  go_enter Try.func3, Try.ntmps3
  go_wp2_with fail
  refine (enc_e hE w).mono ?_
  rintro e w1 ⟨g1, c1, rfl, q1, q2, q3, hb1⟩
  unfold maxLen at q3
  go_wp2_with fail
  refine (hE s w1 (by omega)).mono ?_
  rintro e w2 ⟨v2, rfl, ho2, hb2⟩
  obtain ⟨a2, c2, rfl, hc2, hm2⟩ := slice_made ho2
  have hA2 := arg_made ho2
  go_wp2_with fail
  refine (hD a2 _ c2 (codeL (nums s)) w2 hA2 (by rw [code_len]; omega)).mono ?_
  rintro e w3 ⟨st3, x3, rfl, ht3, hb3⟩
  rw [HDS.out] at ht3
  rcases ht3 with ⟨t3, e3, rfl, rfl⟩ | ⟨e3, _, _⟩
  · obtain rfl := Option.some.inj e3
    rw [HSN.out]
    have s1 := hb1.size
    have s2 := hb2.size
    have s3 := hb3.size
    clear hA2 ho2 q1 q2 q3 e3
    go_wp2_with fail
    refine (hBt s w3 (by omega)).mono ?_
    rintro e w4 ⟨rfl, hb4⟩
    go_wp2_with fail
    refine (hBt t w4 (by omega)).mono ?_
    rintro e w5 ⟨rfl, hb5⟩
    go_wp2_with fail
    refine (hBt (s ++ t) w5 hst).mono ?_
    rintro e w6 ⟨rfl, hb6⟩
    rw [HN.out, HCL.out]
    have s4 := hb4.size
    have s5 := hb5.size
    have s6 := hb6.size
    have hB6 : Below w.heap.size w w6 := ((((hb1.trans (hb2.mono (by omega))).trans (hb3.mono (by omega))).trans (hb4.mono (by omega))).trans (hb5.mono (by omega))).trans (hb6.mono (by omega))
    generalize (bitsL (nums s)).length = n at *
    generalize (bitsL (nums t)).length = m at *
    go_wp2_with fail
    refine (hD a len cap Z w6 (hA.below hB6) (by omega)).mono ?_
    rintro e w7 ⟨st7, x7, rfl, ht7, hb7⟩
    have s7 := hb7.size
    have hB7 : Below w.heap.size w w7 := hB6.trans (hb7.mono (by omega))
    rcases ht7 with ⟨t7, e7, rfl, rfl⟩ | ⟨_, rfl, rfl⟩
    · have hby := decF_byte Z t7 e7
      have hln := decF_len Z t7 hZ e7
      have hcd := code_dec Z t7 hZ e7
      go_wp2_with fail
      refine (hE (strOfNums t7) w7 (by rw [str_size]; omega)).mono ?_
      rintro e w8 ⟨v8, rfl, ho8, hb8⟩
      have hB8 : Below w.heap.size w w8 := hB7.trans (hb8.mono (by omega))
      rw [nums_str t7 hby, hcd] at ho8
      have cv1 := string_made ho8
      have cv2 := string_arg (hA.below hB8)
      generalize strOfNums Z = S at *
      clear ho8
      go_wp2
      go_ret
      exact ⟨by simp, hB8⟩
    · go_wp2
      go_ret
      exact ⟨rfl, hB7⟩
  · cases e3
end Go.Proofs.Ytmpkoidepohlaab
