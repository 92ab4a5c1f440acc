/-
  THE WALK of the Go function tolllaw1.WirePuts, its callees by their contracts: whatever n, bits, first and the bytes b are, it returns true; nothing that was in memory turns. No claim by itself.
-/
import Derived.Test.YtcdppodkabilmaaDoorRget
import Derived.Test.YtcdppodkabilmaaDoorTold
import Derived.Test.YtcdppodkabilmaaDoorArg
namespace Go.Proofs.YtcdppodkabilmaaDoor
open Go.RowKit
theorem rget_arg (a : Option Addr) (len cap : Nat) (Z : List Int) (b : Int) (w : World) (h : Arg w a len cap Z) :
    Calls Tryd.prog 9 #[.slice a len cap, .int .i64 b] w fun e w' => (∃ n u k, e = .returned (.tuple #[.int .i64 n, .int .i64 u, .int .i64 k]) ∧ getF Z b = (n, u, k)) ∧ w = w' := by
  rcases h with ⟨rfl, rfl⟩ | ⟨g, off, rfl, hr⟩
  · by_cases h : b < 1 ∨ 8 < b
    · exact rget_bits _ _ b w h
    · exact rget_nil a cap b w (by omega) (by omega)
  · exact rget_row g off len cap Z b w hr
theorem get_arg (a : Option Addr) (len cap : Nat) (Z : List Int) (b : Int) (w : World) (h : Arg w a len cap Z) :
    Calls Tryd.prog 10 #[.slice a len cap, .int .i64 b] w fun e w' => (∃ n u x, e = .returned (.tuple #[.int .i64 n, .int .i64 u, x]) ∧ Told3 (getF Z b) n u x) ∧ w = w' := by
  rcases h with ⟨rfl, rfl⟩ | ⟨g, off, rfl, hr⟩
  · by_cases h : b < 1 ∨ 8 < b
    · exact get_bits _ _ b w h
    · exact get_nil a cap b w (by omega) (by omega)
  · exact get_row g off len cap Z b w hr
theorem get_ok (a : Option Addr) (len cap : Nat) (Z : List Int) (b n u : Int) (w : World) (h : Arg w a len cap Z) (hf : getF Z b = (n, u, 0)) :
    Calls Tryd.prog 10 #[.slice a len cap, .int .i64 b] w fun e w' => e = .returned (.tuple #[.int .i64 n, .int .i64 u, .nilIface]) ∧ w = w' := by
  refine (get_arg a len cap Z b w h).mono ?_
  rintro e w' ⟨⟨n', u', x, rfl, ht⟩, rfl⟩
  rw [hf] at ht
  rcases ht with ⟨ht, rfl⟩ | ⟨k, hk, ht, rfl⟩
  · obtain ⟨rfl, rfl⟩ : n = n' ∧ u = u' := by simpa using ht
    exact ⟨rfl, rfl⟩
  · have : (0 : Int) = k := by simpa using congrArg (fun t => t.2.2) ht
    exact absurd this.symm hk
theorem get_err (a : Option Addr) (len cap : Nat) (Z : List Int) (b n u k : Int) (w : World) (h : Arg w a len cap Z) (hf : getF Z b = (n, u, k)) (hk : k ≠ 0) :
    Calls Tryd.prog 10 #[.slice a len cap, .int .i64 b] w fun e w' => e = .returned (.tuple #[.int .i64 n, .int .i64 u, .iface 45 (.int .i64 k)]) ∧ w = w' := by
  refine (get_arg a len cap Z b w h).mono ?_
  rintro e w' ⟨⟨n', u', x, rfl, ht⟩, rfl⟩
  rw [hf] at ht
  rcases ht with ⟨ht, rfl⟩ | ⟨k', hk', ht, rfl⟩
  · have : k = 0 := by simpa using congrArg (fun t => t.2.2) ht
    exact absurd this hk
  · obtain ⟨rfl, rfl, rfl⟩ : n = n' ∧ u = u' ∧ k = k' := by simpa using ht
    exact ⟨rfl, rfl⟩
set_option maxHeartbeats 2000000 in
theorem puts_yes (n b f : Int) (a : Option Addr) (len cap : Nat) (Z : List Int) (w : World) (hA : Arg w a len cap Z) (hg : Laid w) (hok : putOk n b f) :
    Calls Tryd.prog 3 #[.int .i64 n, .int .i64 b, .int .i64 f, .slice a len cap] w fun e w' => e = .returned (.bool true) ∧ Below w.heap.size w w' := by
  go_enter Tryd.func3, Tryd.ntmps3
  go_wp2_with fail
  refine (rput_yes n b f _ hok).mono ?_
  rintro e w1 ⟨g1, c1, rfl, ho1, hb1⟩
  go_wp2_with fail
  refine (put_yes n b f _ hok).mono ?_
  rintro e w2 ⟨g2, c2, rfl, ho2, hb2⟩
  go_wp2_with fail
  refine (error_nil _ _).mono ?_
  rintro e w3 ⟨rfl, rfl⟩
  have hs1 := hb1.size
  have hs2 := hb2.size
  have hB : Below w.heap.size w w2 := hb1.trans (hb2.mono hs1)
  have hA2 := hA.below hB
  have hg2 := hg.below hB
  go_wp2_with fail
  refine (rget_arg a len cap Z b _ hA2).mono ?_
  rintro e w3 ⟨⟨x, u, k, rfl, hf⟩, rfl⟩
  have l1 := row_lt ho1 rfl
  have l2 := row_lt ho2 rfl
  by_cases hk : k = 0
  · subst hk
    have cv1 := string_of_row rfl ho1 (hb2.mono (by omega))
    have cv2 := string_of_row rfl ho2 (Below.refl _ _)
    generalize (putL n b f).length = l at *
    generalize strOfNums (putL n b f) = S at *
    have HF : Hid (getF Z b = (x, u, 0)) := hf
    clear hf ho1 ho2
    go_wp2_with fail
    refine (get_ok a len cap Z b x u _ hA2 HF.out).mono ?_
    rintro e w3 ⟨rfl, rfl⟩
    go_wp2_with fail
    refine (error_nil _ _).mono ?_
    rintro e w3 ⟨rfl, rfl⟩
    go_wp2
    go_ret
    exact ⟨by simp, hB⟩
  · have HF : Hid (getF Z b = (x, u, k)) := hf
    clear hf
    go_wp2_with fail
    refine (get_err a len cap Z b x u k _ hA2 HF.out hk).mono ?_
    rintro e w3 ⟨rfl, rfl⟩
    go_wp2_with fail
    refine (error_hit k k _ hg2).mono ?_
    rintro e w3 ⟨rfl, hb3⟩
    have hB3 : Below w.heap.size w w3 := hB.trans (hb3.mono (by omega))
    have cv1 := string_of_row rfl ho1 ((hb2.mono (show g1 + 1 ≤ w1.heap.size by omega)).trans (hb3.mono (by omega)))
    have cv2 := string_of_row rfl ho2 (hb3.mono (by omega))
    generalize (putL n b f).length = l at *
    generalize strOfNums (putL n b f) = S at *
    clear ho1 ho2
    go_wp2
    go_ret
    exact ⟨by simp, hB3⟩
set_option maxHeartbeats 2000000 in
theorem puts_no (n b f : Int) (a : Option Addr) (len cap : Nat) (Z : List Int) (w : World) (hA : Arg w a len cap Z) (hg : Laid w) (hok : ¬ putOk n b f) :
    Calls Tryd.prog 3 #[.int .i64 n, .int .i64 b, .int .i64 f, .slice a len cap] w fun e w' => e = .returned (.bool true) ∧ Below w.heap.size w w' := by
  have cv := fun w' : World => run_convert_bytes_nil (P := Tryd.prog) w' 22 5 Tryd.underlying22 Tryd.underlying5 0 0 9 Tryd.underlying9
  go_enter Tryd.func3, Tryd.ntmps3
  go_wp2_with fail
  refine (rput_no n b f _ hok).mono ?_
  rintro e w1 ⟨rfl, rfl⟩
  go_wp2_with fail
  refine (put_no n b f _ hok).mono ?_
  rintro e w2 ⟨rfl, rfl⟩
  go_wp2_with fail
  refine (error_hit 1 1 _ hg).mono ?_
  rintro e w2 ⟨rfl, hB⟩
  have hs2 := hB.size
  have hA2 := hA.below hB
  have hg2 := hg.below hB
  go_wp2_with fail
  refine (rget_arg a len cap Z b _ hA2).mono ?_
  rintro e w3 ⟨⟨x, u, k, rfl, hf⟩, rfl⟩
  by_cases hk : k = 0
  · subst hk
    have HF : Hid (getF Z b = (x, u, 0)) := hf
    clear hf
    go_wp2_with fail
    refine (get_ok a len cap Z b x u _ hA2 HF.out).mono ?_
    rintro e w3 ⟨rfl, rfl⟩
    go_wp2_with fail
    refine (error_nil _ _).mono ?_
    rintro e w3 ⟨rfl, rfl⟩
    go_wp2
    go_ret
    exact ⟨by simp, hB⟩
  · have HF : Hid (getF Z b = (x, u, k)) := hf
    clear hf
    go_wp2_with fail
    refine (get_err a len cap Z b x u k _ hA2 HF.out hk).mono ?_
    rintro e w3 ⟨rfl, rfl⟩
    go_wp2_with fail
    refine (error_hit k k _ hg2).mono ?_
    rintro e w3 ⟨rfl, hb3⟩
    have hB3 : Below w.heap.size w w3 := hB.trans (hb3.mono (by omega))
    go_wp2
    go_ret
    exact ⟨by simp, hB3⟩
theorem puts (n b f : Int) (a : Option Addr) (len cap : Nat) (Z : List Int) (w : World) (hA : Arg w a len cap Z) (hg : Laid w) :
    Calls Tryd.prog 3 #[.int .i64 n, .int .i64 b, .int .i64 f, .slice a len cap] w fun e w' => e = .returned (.bool true) ∧ Below w.heap.size w w' := by
  by_cases h : putOk n b f
  · exact puts_yes n b f a len cap Z w hA hg h
  · exact puts_no n b f a len cap Z w hA hg h
end Go.Proofs.YtcdppodkabilmaaDoor
