/-
  CONTRACTS of the Go functions head.plainText, bytes.Equal and head.ReadText. No claim by itself.
-/
import Derived.Test.YtkjfhgoddhigmacDoorDtx1
import Derived.Test.YtkjfhgoddhigmacDoorGet
import Derived.Test.YtkjfhgoddhigmacDoorCdec
import Derived.Deep.RegionHeld3
namespace Go.Proofs.YtkjfhgoddhigmacDoor
open Go.RowKit
set_option maxRecDepth 100000
theorem beq_any (g off n cap : Nat) (A : List Int) (g2 off2 n2 cap2 : Nat) (B : List Int) (w : World) (hA : Row w g off n cap A) (hB : Row w g2 off2 n2 cap2 B) :
    Calls Tryd.prog 56 #[.slice (some ⟨g, off, none⟩) n cap, .slice (some ⟨g2, off2, none⟩) n2 cap2] w fun e w' => e = .returned (.bool (decide (A = B))) ∧ w = w' := by
  have c1 := conv_row hA
  have c2 := conv_row hB
  have hq := str_eq_iff (row_mem hA) (row_mem hB)
  go_enter Tryd.func56, Tryd.ntmps56
  go_wp2
  go_ret
  exact ⟨rfl, rfl⟩
theorem hplain_any (g off n cap : Nat) (B : List Int) (co : Bool) (w : World) (hB : Row w g off n cap B) (hn : n ≤ 158329674399744) :
    Calls Tryd.prog 55 #[.slice (some ⟨g, off, none⟩) n cap, .bool co] w fun e w' => ∃ st x, e = .returned (.tuple #[.string st, x]) ∧ ToldDec (if co = true then decF B else some B) st x ∧ Below w.heap.size w w' := by
  cases co
  · have c1 := conv_row hB
    go_enter Tryd.func55, Tryd.ntmps55
    go_wp2
    go_ret2
    exact ⟨_, _, rfl, Or.inl ⟨B, by simp, rfl, rfl⟩, Below.refl _ _⟩
  · have hd := dec_any (some ⟨g, off, none⟩) n cap B w (Or.inr ⟨g, off, rfl, hB⟩) hn
    go_enter Tryd.func55, Tryd.ntmps55
    go_wp2_with fail
    refine hd.mono ?_
    rintro e w1 ⟨st, x, rfl, ht, hb⟩
    have HT := hide ht
    clear ht hd
    go_wp2
    go_ret2
    exact ⟨_, _, rfl, by simpa using HT.out, hb⟩
/-- What ReadText gives. -/
def RdTold (Z : List Int) (e : Ending) : Prop := ∃ x, e = .returned (.tuple #[.string (strOfNums (rtF Z).1), .int .i64 (rtF Z).2.1, x]) ∧ Err (rtF Z).2.2 x
theorem rd_told {Z s : List Int} {m k : Int} {x : Value} (h : rtF Z = (s, m, k)) (hx : Err k x) (S : ByteArray) (hS : S = strOfNums s) : RdTold Z (.returned (.tuple #[.string S, .int .i64 m, x])) := ⟨x, by rw [h, hS], by rw [h]; exact hx⟩
set_option maxHeartbeats 4000000 in
theorem hread_bad (a : Option Addr) (len cap : Nat) (Z : List Int) (w : World) (n u k : Int) (x : Value) (hl : Z.length = len) (hg : getF Z 7 = (n, u, k)) (hx : Err k x) (hn0 : 0 ≤ n ∨ k ≠ 0) (_hu0 : 0 ≤ u) (hu1 : u ≤ len) (hlm : len ≤ 4611686018427387904)
    (hget : Calls Tryd.prog 36 #[.slice a len cap, .int .i64 7] w fun e w' => e = .returned (.tuple #[.int .i64 n, .int .i64 u, x]) ∧ w = w') (hbad : k ≠ 0 ∨ 400 < n ∨ (len : Int) - u < n) :
    Calls Tryd.prog 50 #[.slice a len cap] w fun e w' => RdTold Z e ∧ Below w.heap.size w w' := by
  have HG := hide hg
  by_cases hk : k = 0
  · subst hk
    have hxn : x = .nilIface := by
      rcases hx with h | h
      · exact h.2
      · exact absurd rfl h.1
    subst hxn
    by_cases h4 : 400 < n
    · have E : Hid (rtF Z = ([], 0, 4)) := by
        show rtF Z = _
        unfold rtF; rw [HG.out, if_neg (by simp), if_pos h4]
      have hd : decide (400 < n) = true := by simpa using h4
      clear hg hbad hx
      go_enter Tryd.func50, Tryd.ntmps50
      go_wp2_with fail
      refine hget.mono ?_
      rintro e w' ⟨rfl, rfl⟩
      clear hget
      go_wp2
      go_ret3
      exact ⟨rd_told E.out (Or.inr ⟨by decide, rfl⟩) _ rfl, Below.refl _ _⟩
    · have h8 : (len : Int) - u < n := by omega
      have E : Hid (rtF Z = ([], 0, 8)) := by
        show rtF Z = _
        unfold rtF; rw [HG.out, if_neg (by simp), if_neg h4, if_pos (by rw [hl]; exact h8)]
      have hd : decide (400 < n) = false := by simp; omega
      have hd2 : decide ((len : Int) < u + n) = true := by simp; omega
      have hn0' : 0 ≤ n := by omega
      clear hg hbad hx
      go_enter Tryd.func50, Tryd.ntmps50
      go_wp2_with fail
      refine hget.mono ?_
      rintro e w' ⟨rfl, rfl⟩
      clear hget
      go_wp2
      go_ret3
      exact ⟨rd_told E.out (Or.inr ⟨by decide, rfl⟩) _ rfl, Below.refl _ _⟩
  · have E : Hid (rtF Z = ([], 0, k)) := by
      show rtF Z = _
      unfold rtF; rw [HG.out, if_pos hk]
    have hxn : x = .iface 49 (.int .i64 k) := by
      rcases hx with h | h
      · exact absurd h.1 hk
      · exact h.2
    subst hxn
    clear hg hbad
    go_enter Tryd.func50, Tryd.ntmps50
    go_wp2_with fail
    refine hget.mono ?_
    rintro e w' ⟨rfl, rfl⟩
    clear hget
    go_wp2
    go_ret3
    exact ⟨rd_told E.out (Or.inr ⟨hk, rfl⟩) _ rfl, Below.refl _ _⟩
end Go.Proofs.YtkjfhgoddhigmacDoor
