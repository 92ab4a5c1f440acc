/-
  FROM THE ONE TO THE OTHER: the document's between. No claim by itself.
-/
import Derived.Test.YtglmppadhlkkgagGreatDoorG4
namespace Go.Proofs.YtglmppadhlkkgagGreatDoor
open Go Go.RowKit
set_option maxRecDepth 100000
theorem toL_conn {n : ByteArray} : n.toList = [99, 111, 110, 110, 101, 99, 116, 105, 111, 110] ↔ unums n = connN := toL_lit
theorem toL_keep {n : ByteArray} : n.toList = [107, 101, 101, 112] ↔ unums n = keepX := toL_lit
theorem toL_upgrade {n : ByteArray} : n.toList = [117, 112, 103, 114, 97, 100, 101] ↔ unums n = upgradeN := toL_lit
theorem toL_cookie {n : ByteArray} : n.toList = [99, 111, 111, 107, 105, 101] ↔ unums n = cookieN := toL_lit
theorem rbtw_any (n : ByteArray) (w : World) : Calls Tryz.prog 45 #[.string n] w fun e w' => e = .returned (.bool (btwL (unums n))) ∧ w = w' := by
  by_cases q1 : n.toList = [99, 111, 110, 110, 101, 99, 116, 105, 111, 110]
  · have e : btwL (unums n) = true := decide_eq_true (Or.inl (toL_conn.1 q1))
    rw [e]
    go_enter Tryz.func45, Tryz.ntmps45
    go_wp2
    go_ret
    exact ⟨rfl, rfl⟩
  · have q1' : (n.toList == [99, 111, 110, 110, 101, 99, 116, 105, 111, 110]) = false := by simpa using q1
    by_cases q2 : n.toList = [99, 111, 100, 105, 110, 103]
    · have e : btwL (unums n) = true := decide_eq_true (Or.inr (Or.inl (toL_coding.1 q2)))
      rw [e]
      go_enter Tryz.func45, Tryz.ntmps45
      go_wp2
      go_ret
      exact ⟨rfl, rfl⟩
    · have q2' : (n.toList == [99, 111, 100, 105, 110, 103]) = false := by simpa using q2
      by_cases q3 : n.toList = [107, 101, 101, 112]
      · have e : btwL (unums n) = true := decide_eq_true (Or.inr (Or.inr (Or.inl (toL_keep.1 q3))))
        rw [e]
        go_enter Tryz.func45, Tryz.ntmps45
        go_wp2
        go_ret
        exact ⟨rfl, rfl⟩
      · have q3' : (n.toList == [107, 101, 101, 112]) = false := by simpa using q3
        by_cases q4 : n.toList = [117, 112, 103, 114, 97, 100, 101]
        · have e : btwL (unums n) = true := decide_eq_true (Or.inr (Or.inr (Or.inr (toL_upgrade.1 q4))))
          rw [e]
          go_enter Tryz.func45, Tryz.ntmps45
          go_wp2
          go_ret
          exact ⟨rfl, rfl⟩
        · have q4' : (n.toList == [117, 112, 103, 114, 97, 100, 101]) = false := by simpa using q4
          have e : btwL (unums n) = false := decide_eq_false (by
            rintro (h | h | h | h)
            · exact q1 (toL_conn.2 h)
            · exact q2 (toL_coding.2 h)
            · exact q3 (toL_keep.2 h)
            · exact q4 (toL_upgrade.2 h))
          rw [e]
          go_enter Tryz.func45, Tryz.ntmps45
          go_wp2
          go_ret
          exact ⟨rfl, rfl⟩
end Go.Proofs.YtglmppadhlkkgagGreatDoor
