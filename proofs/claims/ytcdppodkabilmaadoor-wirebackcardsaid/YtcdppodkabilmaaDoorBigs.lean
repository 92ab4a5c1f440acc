/-
  THE WALK of the Go function tolllaw1.WireBigs, its callees by their contracts: whatever n, size and the bytes b are, it returns true; nothing that was in memory turns. No claim by itself.
-/
import Derived.Test.YtcdppodkabilmaaDoorRbig
import Derived.Test.YtcdppodkabilmaaDoorRead
import Derived.Test.YtcdppodkabilmaaDoorTold
import Derived.Test.YtcdppodkabilmaaDoorArg
namespace Go.Proofs.YtcdppodkabilmaaDoor
open Go.RowKit
theorem rread_arg (a : Option Addr) (len cap : Nat) (Z : List Int) (s : Int) (w : World) (h : Arg w a len cap Z) :
    Calls Tryd.prog 13 #[.slice a len cap, .int .i64 s] w fun e w' => (∃ n k, e = .returned (.tuple #[.int .i64 n, .int .i64 k]) ∧ readF Z s = (n, k)) ∧ w = w' := by
  by_cases hs : s < 1 ∨ 4 < s
  · exact rread_size _ Z s w hs
  · rcases h with ⟨rfl, rfl⟩ | ⟨g, off, rfl, hr⟩
    · exact rread_short a 0 cap [] s w (by omega) (by omega) rfl (by omega)
    · by_cases hl : (len : Int) < s
      · exact rread_short _ len cap Z s w (by omega) (by omega) hr.hlen hl
      · obtain ⟨t, rfl⟩ := Int.eq_ofNat_of_zero_le (show 0 ≤ s by omega)
        exact rread_whole g off len cap Z t w hr (by omega) (by omega) (by omega)
theorem read_arg (a : Option Addr) (len cap : Nat) (Z : List Int) (s : Int) (w : World) (h : Arg w a len cap Z) :
    Calls Tryd.prog 14 #[.slice a len cap, .int .i64 s] w fun e w' => (∃ n x, e = .returned (.tuple #[.int .i64 n, x]) ∧ Told2 (readF Z s) n x) ∧ w = w' := by
  by_cases hs : s < 1 ∨ 4 < s
  · exact read_size _ Z s w hs
  · rcases h with ⟨rfl, rfl⟩ | ⟨g, off, rfl, hr⟩
    · exact read_short a 0 cap [] s w (by omega) (by omega) rfl (by omega)
    · by_cases hl : (len : Int) < s
      · exact read_short _ len cap Z s w (by omega) (by omega) hr.hlen hl
      · obtain ⟨t, rfl⟩ := Int.eq_ofNat_of_zero_le (show 0 ≤ s by omega)
        exact read_whole g off len cap Z t w hr (by omega) (by omega) (by omega)
theorem read_ok (a : Option Addr) (len cap : Nat) (Z : List Int) (s n : Int) (w : World) (h : Arg w a len cap Z) (hf : readF Z s = (n, 0)) :
    Calls Tryd.prog 14 #[.slice a len cap, .int .i64 s] w fun e w' => e = .returned (.tuple #[.int .i64 n, .nilIface]) ∧ w = w' := by
  refine (read_arg a len cap Z s w h).mono ?_
  rintro e w' ⟨⟨n', x, rfl, ht⟩, rfl⟩
  rw [hf] at ht
  rcases ht with ⟨ht, rfl⟩ | ⟨k, hk, ht, rfl⟩
  · obtain rfl : n = n' := by simpa using ht
    exact ⟨rfl, rfl⟩
  · have : (0 : Int) = k := by simpa using congrArg (fun t => t.2) ht
    exact absurd this.symm hk
theorem read_err (a : Option Addr) (len cap : Nat) (Z : List Int) (s n k : Int) (w : World) (h : Arg w a len cap Z) (hf : readF Z s = (n, k)) (hk : k ≠ 0) :
    Calls Tryd.prog 14 #[.slice a len cap, .int .i64 s] w fun e w' => e = .returned (.tuple #[.int .i64 n, .iface 45 (.int .i64 k)]) ∧ w = w' := by
  refine (read_arg a len cap Z s w h).mono ?_
  rintro e w' ⟨⟨n', x, rfl, ht⟩, rfl⟩
  rw [hf] at ht
  rcases ht with ⟨ht, rfl⟩ | ⟨k', hk', ht, rfl⟩
  · have : k = 0 := by simpa using congrArg (fun t => t.2) ht
    exact absurd this hk
  · obtain ⟨rfl, rfl⟩ : n = n' ∧ k = k' := by simpa using ht
    exact ⟨rfl, rfl⟩
set_option maxHeartbeats 2000000 in
theorem bigs_yes (n s : Int) (a : Option Addr) (len cap : Nat) (Z : List Int) (w : World) (hA : Arg w a len cap Z) (hg : Laid w) (hok : bigOk n s) :
    Calls Tryd.prog 4 #[.int .i64 n, .int .i64 s, .slice a len cap] w fun e w' => e = .returned (.bool true) ∧ Below w.heap.size w w' := by
  go_enter Tryd.func4, Tryd.ntmps4
  go_wp2_with fail
  refine (rbig_row n s _ hok).mono ?_
  rintro e w1 ⟨g1, c1, rfl, ho1, hb1⟩
  go_wp2_with fail
  refine (big_yes n s _ hok).mono ?_
  rintro e w2 ⟨g2, rfl, ho2, hb2⟩
  go_wp2_with fail
  refine (error_nil _ _).mono ?_
  rintro e w3 ⟨rfl, rfl⟩
  have hs1 := hb1.size
  have hs2 := hb2.size
  have hB : Below w.heap.size w w2 := hb1.trans (hb2.mono hs1)
  have hA2 := hA.below hB
  have hg2 := hg.below hB
  go_wp2_with fail
  refine (rread_arg a len cap Z s _ hA2).mono ?_
  rintro e w3 ⟨⟨x, k, rfl, hf⟩, rfl⟩
  have l1 := row_lt ho1 rfl
  have l2 := row_lt ho2 rfl
  by_cases hk : k = 0
  · subst hk
    have cv1 := string_of_row rfl ho1 (hb2.mono (by omega))
    have cv2 := string_of_row rfl ho2 (Below.refl _ _)
    generalize (bigL s.toNat n).length = l at *
    generalize strOfNums (bigL s.toNat n) = S at *
    have HF : Hid (readF Z s = (x, 0)) := hf
    clear hf ho1 ho2
    go_wp2_with fail
    refine (read_ok a len cap Z s x _ hA2 HF.out).mono ?_
    rintro e w3 ⟨rfl, rfl⟩
    go_wp2_with fail
    refine (error_nil _ _).mono ?_
    rintro e w3 ⟨rfl, rfl⟩
    go_wp2
    go_ret
    exact ⟨by simp, hB⟩
  · have HF : Hid (readF Z s = (x, k)) := hf
    clear hf
    go_wp2_with fail
    refine (read_err a len cap Z s x k _ hA2 HF.out hk).mono ?_
    rintro e w3 ⟨rfl, rfl⟩
    go_wp2_with fail
    refine (error_hit k k _ hg2).mono ?_
    rintro e w3 ⟨rfl, hb3⟩
    have hB3 : Below w.heap.size w w3 := hB.trans (hb3.mono (by omega))
    have cv1 := string_of_row rfl ho1 ((hb2.mono (show g1 + 1 ≤ w1.heap.size by omega)).trans (hb3.mono (by omega)))
    have cv2 := string_of_row rfl ho2 (hb3.mono (by omega))
    generalize (bigL s.toNat n).length = l at *
    generalize strOfNums (bigL s.toNat n) = S at *
    clear ho1 ho2
    go_wp2
    go_ret
    exact ⟨by simp, hB3⟩
set_option maxHeartbeats 2000000 in
theorem bigs_no (n s : Int) (a : Option Addr) (len cap : Nat) (Z : List Int) (w : World) (hA : Arg w a len cap Z) (hg : Laid w) (hok : ¬ bigOk n s) :
    Calls Tryd.prog 4 #[.int .i64 n, .int .i64 s, .slice a len cap] w fun e w' => e = .returned (.bool true) ∧ Below w.heap.size w w' := by
  have cv := fun w' : World => run_convert_bytes_nil (P := Tryd.prog) w' 22 5 Tryd.underlying22 Tryd.underlying5 0 0 9 Tryd.underlying9
  go_enter Tryd.func4, Tryd.ntmps4
  go_wp2_with fail
  refine (rbig_no n s _ hok).mono ?_
  rintro e w1 ⟨rfl, rfl⟩
  go_wp2_with fail
  refine (big_no n s _ hok).mono ?_
  rintro e w2 ⟨rfl, rfl⟩
  go_wp2_with fail
  refine (error_hit 1 1 _ hg).mono ?_
  rintro e w2 ⟨rfl, hB⟩
  have hs2 := hB.size
  have hA2 := hA.below hB
  have hg2 := hg.below hB
  go_wp2_with fail
  refine (rread_arg a len cap Z s _ hA2).mono ?_
  rintro e w3 ⟨⟨x, k, rfl, hf⟩, rfl⟩
  by_cases hk : k = 0
  · subst hk
    have HF : Hid (readF Z s = (x, 0)) := hf
    clear hf
    go_wp2_with fail
    refine (read_ok a len cap Z s x _ hA2 HF.out).mono ?_
    rintro e w3 ⟨rfl, rfl⟩
    go_wp2_with fail
    refine (error_nil _ _).mono ?_
    rintro e w3 ⟨rfl, rfl⟩
    go_wp2
    go_ret
    exact ⟨by simp, hB⟩
  · have HF : Hid (readF Z s = (x, k)) := hf
    clear hf
    go_wp2_with fail
    refine (read_err a len cap Z s x k _ hA2 HF.out hk).mono ?_
    rintro e w3 ⟨rfl, rfl⟩
    go_wp2_with fail
    refine (error_hit k k _ hg2).mono ?_
    rintro e w3 ⟨rfl, hb3⟩
    have hB3 : Below w.heap.size w w3 := hB.trans (hb3.mono (by omega))
    go_wp2
    go_ret
    exact ⟨by simp, hB3⟩
theorem bigs (n s : Int) (a : Option Addr) (len cap : Nat) (Z : List Int) (w : World) (hA : Arg w a len cap Z) (hg : Laid w) :
    Calls Tryd.prog 4 #[.int .i64 n, .int .i64 s, .slice a len cap] w fun e w' => e = .returned (.bool true) ∧ Below w.heap.size w w' := by
  by_cases h : bigOk n s
  · exact bigs_yes n s a len cap Z w hA hg h
  · exact bigs_no n s a len cap Z w hA hg h
end Go.Proofs.YtcdppodkabilmaaDoor
