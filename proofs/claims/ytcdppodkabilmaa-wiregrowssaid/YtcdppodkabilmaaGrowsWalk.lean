/-
  THE WALK of the Go function tolllaw5.WireGrows, its callees by their contracts: whatever a, b and bits are, it returns true; nothing that was in memory turns. No claim by itself.
-/
import Derived.Test.YtcdppodkabilmaaPut
namespace Go.Proofs.Ytcdppodkabilmaa
open Go.RowKit
theorem gr5 : gr 5 = 31 := by decide
theorem put_ten (w : World) :
    Calls Try.prog 6 #[.int .i64 10, .int .i64 5, .int .i64 0] w fun e w' => e = .returned (.tuple #[.slice (some ⟨w.heap.size, 0, none⟩) 1 1, .nilIface]) ∧ w' = w.alloc (.cells #[.int .u8 10] 5) :=
  put_one 10 5 0 w ⟨by decide, by decide, by decide, by decide, by decide, by decide, by decide⟩ (by rw [gr5]; decide)
set_option maxHeartbeats 1000000 in
theorem grows_nn (a b m : Int) (w : World) (h : ¬ putOk a m 0) (hb : ¬ putOk b m 0) :
    Calls Try.prog 4 #[.int .i64 a, .int .i64 b, .int .i64 m] w fun e w' => e = .returned (.bool true) ∧ Below w.heap.size w w' := by
  go_enter Try.func4, Try.ntmps4
  go_wp2_with fail
  refine (put_ten _).mono ?_
  rintro e w' ⟨rfl, rfl⟩
  go_wp2_with fail
  refine (put_no _ _ _ _ h).mono ?_
  rintro e w' ⟨rfl, rfl⟩
  go_wp2_with fail
  refine (put_no _ _ _ _ hb).mono ?_
  rintro e w' ⟨rfl, rfl⟩
  go_wp2_with fail
  go_ret
  exact ⟨rfl, (Below.refl _ _).alloc (Nat.le_refl _) _⟩
set_option maxHeartbeats 1000000 in
theorem grows_ny (a b m : Int) (w : World) (h : ¬ putOk a m 0) (hb : putOk b m 0) :
    Calls Try.prog 4 #[.int .i64 a, .int .i64 b, .int .i64 m] w fun e w' => e = .returned (.bool true) ∧ Below w.heap.size w w' := by
  go_enter Try.func4, Try.ntmps4
  go_wp2_with fail
  refine (put_ten _).mono ?_
  rintro e w' ⟨rfl, rfl⟩
  go_wp2_with fail
  refine (put_no _ _ _ _ h).mono ?_
  rintro e w' ⟨rfl, rfl⟩
  go_wp2_with fail
  refine (put_yes _ _ _ _ hb).mono ?_
  rintro e w2 ⟨g, c, rfl, ho, hbel⟩
  clear ho
  go_wp2
  go_ret
  exact ⟨rfl, ((Below.refl _ _).alloc (Nat.le_refl _) _).trans (hbel.mono (by simp))⟩
set_option maxHeartbeats 1000000 in
theorem grows_yn (a b m : Int) (w : World) (h : putOk a m 0) (hb : ¬ putOk b m 0) :
    Calls Try.prog 4 #[.int .i64 a, .int .i64 b, .int .i64 m] w fun e w' => e = .returned (.bool true) ∧ Below w.heap.size w w' := by
  go_enter Try.func4, Try.ntmps4
  go_wp2_with fail
  refine (put_ten _).mono ?_
  rintro e w' ⟨rfl, rfl⟩
  go_wp2_with fail
  refine (put_yes _ _ _ _ h).mono ?_
  rintro e w2 ⟨g, c, rfl, ho, hbel⟩
  clear ho
  go_wp2_with fail
  refine (put_no _ _ _ _ hb).mono ?_
  rintro e w' ⟨rfl, rfl⟩
  go_wp2
  go_ret
  exact ⟨rfl, ((Below.refl _ _).alloc (Nat.le_refl _) _).trans (hbel.mono (by simp))⟩
set_option maxHeartbeats 1000000 in
theorem grows_lt (a b m : Int) (w : World) (h : putOk a m 0) (hb : putOk b m 0) (hc : a < b) :
    Calls Try.prog 4 #[.int .i64 a, .int .i64 b, .int .i64 m] w fun e w' => e = .returned (.bool true) ∧ Below w.heap.size w w' := by
  obtain ⟨a1, a2, m1, m2, _⟩ := id h
  have L1 := putL_mono a b m 0 (by omega)
  have LB := (putL_len b m 0).2
  have L3 := putL_wide a m 0 m1
  have LA := (putL_len a m 0).2
  have LC := (putL_len a (m + 1) 0).2
  have hz : putOk a (m + 1) 0 ∨ ¬ putOk a (m + 1) 0 := Classical.em _
  go_enter Try.func4, Try.ntmps4
  go_wp2_with fail
  refine (put_ten _).mono ?_
  rintro e w' ⟨rfl, rfl⟩
  go_wp2_with fail
  refine (put_yes _ _ _ _ h).mono ?_
  rintro e w2 ⟨g, c, rfl, ho, hbel⟩
  clear ho
  go_wp2_with fail
  refine (put_yes _ _ _ _ hb).mono ?_
  rintro e w3 ⟨g3, c3, rfl, ho3, hbel3⟩
  clear ho3
  generalize (putL a m 0).length = la at *
  generalize (putL b m 0).length = lb at *
  go_wp2_with fail
  have hs := hbel.size
  simp at hs
  have hB : Below w.heap.size w w3 := (((Below.refl _ _).alloc (Nat.le_refl _) _).trans (hbel.mono (by simp))).trans (hbel3.mono (by omega))
  rcases hz with hz | hz
  · refine (put_yes _ _ _ _ hz).mono ?_
    rintro e w4 ⟨g4, c4, rfl, ho4, hbel4⟩
    clear ho4
    have hs3 := hB.size
    have hB4 : Below w.heap.size w w4 := hB.trans (hbel4.mono (by omega))
    generalize (putL a (m + 1) 0).length = lc at *
    go_wp2
    go_ret
    exact ⟨by simp, hB4⟩
  · refine (put_no _ _ _ _ hz).mono ?_
    rintro e w' ⟨rfl, rfl⟩
    go_wp2
    go_ret
    exact ⟨rfl, hB⟩
set_option maxHeartbeats 1000000 in
theorem grows_gt (a b m : Int) (w : World) (h : putOk a m 0) (hb : putOk b m 0) (hc : b < a) :
    Calls Try.prog 4 #[.int .i64 a, .int .i64 b, .int .i64 m] w fun e w' => e = .returned (.bool true) ∧ Below w.heap.size w w' := by
  obtain ⟨a1, a2, m1, m2, _⟩ := id h
  have L1 := putL_mono b a m 0 (by omega)
  have LB := (putL_len b m 0).2
  have L3 := putL_wide a m 0 m1
  have LA := (putL_len a m 0).2
  have LC := (putL_len a (m + 1) 0).2
  have hz : putOk a (m + 1) 0 ∨ ¬ putOk a (m + 1) 0 := Classical.em _
  go_enter Try.func4, Try.ntmps4
  go_wp2_with fail
  refine (put_ten _).mono ?_
  rintro e w' ⟨rfl, rfl⟩
  go_wp2_with fail
  refine (put_yes _ _ _ _ h).mono ?_
  rintro e w2 ⟨g, c, rfl, ho, hbel⟩
  clear ho
  go_wp2_with fail
  refine (put_yes _ _ _ _ hb).mono ?_
  rintro e w3 ⟨g3, c3, rfl, ho3, hbel3⟩
  clear ho3
  generalize (putL a m 0).length = la at *
  generalize (putL b m 0).length = lb at *
  go_wp2_with fail
  have hs := hbel.size
  simp at hs
  have hB : Below w.heap.size w w3 := (((Below.refl _ _).alloc (Nat.le_refl _) _).trans (hbel.mono (by simp))).trans (hbel3.mono (by omega))
  rcases hz with hz | hz
  · refine (put_yes _ _ _ _ hz).mono ?_
    rintro e w4 ⟨g4, c4, rfl, ho4, hbel4⟩
    clear ho4
    have hs3 := hB.size
    have hB4 : Below w.heap.size w w4 := hB.trans (hbel4.mono (by omega))
    generalize (putL a (m + 1) 0).length = lc at *
    go_wp2
    go_ret
    exact ⟨by simp, hB4⟩
  · refine (put_no _ _ _ _ hz).mono ?_
    rintro e w' ⟨rfl, rfl⟩
    go_wp2
    go_ret
    exact ⟨rfl, hB⟩
set_option maxHeartbeats 1000000 in
theorem grows_eq (a m : Int) (w : World) (h : putOk a m 0) (hb : putOk a m 0) :
    Calls Try.prog 4 #[.int .i64 a, .int .i64 a, .int .i64 m] w fun e w' => e = .returned (.bool true) ∧ Below w.heap.size w w' := by
  obtain ⟨a1, a2, m1, m2, _⟩ := id h
  have L3 := putL_wide a m 0 m1
  have LA := (putL_len a m 0).2
  have LC := (putL_len a (m + 1) 0).2
  have hz : putOk a (m + 1) 0 ∨ ¬ putOk a (m + 1) 0 := Classical.em _
  go_enter Try.func4, Try.ntmps4
  go_wp2_with fail
  refine (put_ten _).mono ?_
  rintro e w' ⟨rfl, rfl⟩
  go_wp2_with fail
  refine (put_yes _ _ _ _ h).mono ?_
  rintro e w2 ⟨g, c, rfl, ho, hbel⟩
  clear ho
  go_wp2_with fail
  refine (put_yes _ _ _ _ hb).mono ?_
  rintro e w3 ⟨g3, c3, rfl, ho3, hbel3⟩
  clear ho3
  generalize (putL a m 0).length = la at *
  go_wp2_with fail
  have hs := hbel.size
  simp at hs
  have hB : Below w.heap.size w w3 := (((Below.refl _ _).alloc (Nat.le_refl _) _).trans (hbel.mono (by simp))).trans (hbel3.mono (by omega))
  rcases hz with hz | hz
  · refine (put_yes _ _ _ _ hz).mono ?_
    rintro e w4 ⟨g4, c4, rfl, ho4, hbel4⟩
    clear ho4
    have hs3 := hB.size
    have hB4 : Below w.heap.size w w4 := hB.trans (hbel4.mono (by omega))
    generalize (putL a (m + 1) 0).length = lc at *
    go_wp2
    go_ret
    exact ⟨by simp, hB4⟩
  · refine (put_no _ _ _ _ hz).mono ?_
    rintro e w' ⟨rfl, rfl⟩
    go_wp2
    go_ret
    exact ⟨rfl, hB⟩
theorem grows (a b m : Int) (w : World) :
    Calls Try.prog 4 #[.int .i64 a, .int .i64 b, .int .i64 m] w fun e w' => e = .returned (.bool true) ∧ Below w.heap.size w w' := by
  by_cases h : putOk a m 0
  · by_cases hb : putOk b m 0
    · rcases Int.lt_trichotomy a b with hc | hc | hc
      · exact grows_lt a b m w h hb hc
      · subst hc; exact grows_eq a m w h hb
      · exact grows_gt a b m w h hb hc
    · exact grows_yn a b m w h hb
  · by_cases hb : putOk b m 0
    · exact grows_ny a b m w h hb
    · exact grows_nn a b m w h hb
end Go.Proofs.Ytcdppodkabilmaa
