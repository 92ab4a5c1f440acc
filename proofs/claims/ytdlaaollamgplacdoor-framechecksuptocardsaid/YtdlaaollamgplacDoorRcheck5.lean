/-
  CONTRACT of the Go function tollref1.Check, whole. No claim by itself.
-/
import Derived.Test.YtdlaaollamgplacDoorRcheck2
import Derived.Test.YtdlaaollamgplacDoorRcheck3
import Derived.Test.YtdlaaollamgplacDoorRcheck4
namespace Go.Proofs.YtdlaaollamgplacDoor
open Go.RowKit
theorem rcheck_any (k fl st : Int) (a : Option Addr) (len cap : Nat) (Z : List Int) (w : World) (hA : Arg w a len cap Z) (hZ : Z.length = len) :
    Calls Tryd.prog 21 #[.agg #[.int .i64 k, .int .i64 fl, .int .i64 st, .slice a len cap]] w fun e w' => e = .returned (.int .i64 (chkF k st (bits .and .i64 fl 1 == 1) Z)) ∧ Below w.heap.size w w' := by
  unfold chkF
  rw [hZ]
  by_cases c1 : (0 ≤ k ∧ k ≤ 3) ∧ st = 0
  · rw [if_pos c1]
    obtain ⟨c, rfl⟩ := c1
    exact rchk_st0 k fl a len cap w (by omega)
  rw [if_neg c1]
  by_cases c2 : (k = 4 ∨ k = 5 ∨ k = 6) ∧ st ≠ 0
  · rw [if_pos c2]
    exact rchk_st1 k fl st a len cap w c2.1 c2.2
  rw [if_neg c2]
  by_cases c3 : (k = 3 ∧ len ≠ 4) ∨ (k = 5 ∧ len ≠ 8) ∨ (k = 6 ∧ len < 8) ∨ (k = 7 ∧ len ≠ 4)
  · rw [if_pos c3]
    rcases c3 with ⟨rfl, h⟩ | ⟨rfl, h⟩ | ⟨rfl, h⟩ | ⟨rfl, h⟩
    · exact rchk_3n fl st a len cap w (by omega) h
    · obtain rfl : st = 0 := by omega
      exact rchk_5n fl a len cap w h
    · obtain rfl : st = 0 := by omega
      exact rchk_6n fl a len cap w h
    · exact rchk_7n fl st a len cap w h
  rw [if_neg c3]
  by_cases k4 : k = 4
  · subst k4
    obtain rfl : st = 0 := by omega
    by_cases h6 : len % 6 = 0
    · by_cases h0 : len = 0
      · rw [if_neg (by omega), if_neg (by decide), if_pos rfl]
        subst h0
        exact rchk_4z fl a cap w
      · cases hf : (bits .and .i64 fl 1 == 1)
        · rw [if_neg (by simp; omega), if_neg (by decide), if_pos rfl]
          rcases hA with ⟨h, _⟩ | ⟨g, off, rfl, hr⟩
          · omega
          · exact rchk_4 fl g off len cap (len / 6) Z w hr (by omega) (by omega) hf
        · rw [if_pos ⟨rfl, Or.inr ⟨by omega, rfl⟩⟩]
          exact rchk_4e fl a len cap w (by omega) (by omega) hf
    · rw [if_pos ⟨rfl, Or.inl h6⟩]
      exact rchk_4m fl a len cap w (by omega)
  rw [if_neg (fun h => k4 h.1)]
  by_cases k7 : k = 7
  · subst k7
    rw [if_pos rfl]
    obtain rfl : len = 4 := by omega
    rcases hA with ⟨h, _⟩ | ⟨g, off, rfl, hr⟩
    · omega
    · exact rchk_7 fl st g off cap Z w hr
  rw [if_neg k7, if_neg k4]
  rcases Int.lt_or_le k 0 with h | h
  · exact rchk_neg fl k st a len cap w h
  rcases Int.lt_or_le 7 k with h' | h'
  · exact rchk_far fl k st a len cap w h'
  by_cases k3 : k = 3
  · subst k3
    exact rchk_3 fl st a len cap w (by omega) (by omega)
  by_cases k5 : k = 5
  · subst k5
    obtain rfl : st = 0 := by omega
    exact rchk_5 fl a len cap w (by omega)
  by_cases k6 : k = 6
  · subst k6
    obtain rfl : st = 0 := by omega
    exact rchk_6 fl a len cap w (by omega)
  exact rchk_012 k fl st a len cap w (by omega) (by omega)
end Go.Proofs.YtdlaaollamgplacDoor
