/-
  WHAT WAS DONE: the document's number, walked. No claim by itself.
-/
import Derived.Test.YteohgkgahkkjlaaGreatDoorH4
namespace Go.Proofs.YteohgkgahkkjlaaGreatDoor
open Go Go.RowKit
set_option maxRecDepth 100000
set_option maxHeartbeats 4000000 in
theorem rnum_any (s : ByteArray) (w : World) (hs : s.size ≤ 140737488351232) : Calls Tryz.prog 23 #[.string s] w fun e w' => (∃ v, e = .returned (.int .i64 v) ∧ NumQ v (unums s)) ∧ w = w' := by
  have HN := vl (unums_at s)
  have HL := vl (unums_len s)
  by_cases q : s.toList = []
  · have q' : (s.toList == []) = true := by simpa using q
    have HQ : Vl (NumQ (-1) (unums s)) := vl (nq_bad (Or.inl (toL_nil.1 q)))
    go_enter Tryz.func23, Tryz.ntmps23
    go_wp2_with fail
    go_ret
    exact ⟨⟨_, rfl, HQ.out⟩, rfl⟩
  · have q' : (s.toList == []) = false := by simpa using q
    by_cases h7 : 7 < s.size
    · have h7' : (7 : Int) < (s.size : Int) := by omega
      have HQ : Vl (NumQ (-1) (unums s)) := vl (nq_bad (Or.inr (Or.inl (by rw [HL.out]; exact h7))))
      go_enter Tryz.func23, Tryz.ntmps23
      go_wp2_with fail
      go_ret
      exact ⟨⟨_, rfl, HQ.out⟩, rfl⟩
    · have h7' : ¬ ((7 : Int) < (s.size : Int)) := by omega
      have HZ : Vl (unums s ≠ []) := vl (fun e => q (toL_nil.2 e))
      have h0 : 0 < s.size := by
        rw [← HL.out]
        exact List.length_pos_iff.2 HZ.out
      have hix := HN.out 0 h0
      obtain ⟨d0, hd0⟩ : ∃ d, (unums s).getD 0 0 = d := ⟨_, rfl⟩
      rw [hd0] at hix
      have HD0 := vl hd0
      clear hd0
      by_cases hbad : d0 = 48 ∧ 1 < s.size
      · have e1 : (d0 == 48) = true := by simpa using hbad.1
        have e2 : (1 : Int) < (s.size : Int) := by omega
        have HQ : Vl (NumQ (-1) (unums s)) := vl (nq_bad (Or.inr (Or.inr ⟨by rw [HL.out]; exact hbad.2, HD0.out.trans hbad.1⟩)))
        clear hbad
        go_enter Tryz.func23, Tryz.ntmps23
        go_wp2_with fail
        go_ret
        exact ⟨⟨_, rfl, HQ.out⟩, rfl⟩
      · have HF : Vl (1 < (unums s).length → (unums s).getD 0 0 ≠ 48) := vl (fun h1 h2 => hbad ⟨HD0.out.symm.trans h2, by rw [HL.out] at h1; exact h1⟩)
        obtain ⟨x1, hx1⟩ : ∃ x1, (d0 == 48) = x1 := ⟨_, rfl⟩
        have hx2 : x1 = true → ¬ ((1 : Int) < (s.size : Int)) := fun e => by
          rw [← hx1] at e
          have : d0 = 48 := by simpa using e
          intro h
          exact hbad ⟨this, by omega⟩
        clear hbad HD0
        cases x1
        all_goals
          first | (replace hx2 := hx2 rfl) | clear hx2
          go_enter Tryz.func23, Tryz.ntmps23
          go_wp2_with fail
          clear hix
          go_loopw [3, 4] (fun n i wr => ∃ k m : Nat, n = .int .i64 m ∧ i = .int .i64 k ∧ k ≤ s.size ∧ m < 10000000 ∧ Vl (NQ (unums s) k m) ∧ w = wr) (fun _ i _ => s.size - (intOf i).toNat)
          case atStart => exact ⟨0, 0, rfl, rfl, by omega, by omega, nq_zero _, rfl⟩
          case round =>
            obtain ⟨k, m, rfl, rfl, hk, hm7, HQ, rfl⟩ := hrel
            by_cases hlt : k < s.size
            · have hlt' : (k : Int) < (s.size : Int) := by omega
              have hkx := HN.out k hlt
              obtain ⟨d, hd⟩ : ∃ d, (unums s).getD k 0 = d := ⟨_, rfl⟩
              rw [hd] at hkx
              have HD := vl hd
              clear hd
              by_cases h1 : d < 48
              · have HB : Vl (NumQ (-1) (unums s)) := vl (nq_no (k := k) (by rw [HL.out]; exact hlt) (by rw [HD.out]; exact Or.inl h1))
                go_wp2_with fail
                go_ret
                exact ⟨⟨_, rfl, HB.out⟩, rfl⟩
              · by_cases h2 : 57 < d
                · have HB : Vl (NumQ (-1) (unums s)) := vl (nq_no (k := k) (by rw [HL.out]; exact hlt) (by rw [HD.out]; exact Or.inr h2))
                  go_wp2_with fail
                  go_ret
                  exact ⟨⟨_, rfl, HB.out⟩, rfl⟩
                · obtain ⟨e, rfl⟩ : ∃ e : Nat, d = 48 + (e : Int) := ⟨(d - 48).toNat, by omega⟩
                  have HS := vl (nq_step HQ.out (by rw [HL.out]; exact hlt) HD.out (by omega) HF.out)
                  have HM : Vl (m * 10 + e < 10000000) := by
                    have h3 := HS.out.1
                    have h4 := Nat.pow_le_pow_right (n := 10) (by omega) (show k + 1 ≤ 7 by omega)
                    show _ < _
                    omega
                  go_wp2_with fail
                  go_roundw
                  case rel => exact ⟨k + 1, m * 10 + e, by go_num, by go_num, by omega, HM.out, HS, by trivial⟩
                  case measure => simp [intOf]; omega
            · have hlt' : ¬ (k : Int) < (s.size : Int) := by omega
              have HB : Vl (NumQ (m : Int) (unums s)) := by
                have hk' : k = (unums s).length := by rw [HL.out]; omega
                have h5 := HQ.out
                rw [hk'] at h5
                exact vl (nq_end h5 HZ.out (by rw [HL.out]; omega))
              go_wp2_with fail
              go_ret
              exact ⟨⟨_, rfl, HB.out⟩, rfl⟩
end Go.Proofs.YteohgkgahkkjlaaGreatDoor
