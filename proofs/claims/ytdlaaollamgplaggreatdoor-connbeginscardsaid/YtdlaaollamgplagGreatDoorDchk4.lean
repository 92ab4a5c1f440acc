/-
  CONTRACT of the Go function frame.Check, whole. No claim by itself.
-/
import Derived.Test.YtdlaaollamgplagGreatDoorDchk2
import Derived.Test.YtdlaaollamgplagGreatDoorDchk3
namespace Go.Proofs.YtdlaaollamgplagGreatDoor
open Go Go.RowKit
set_option maxRecDepth 100000
theorem and_one (x : Int) : bits .and .i64 x 1 = 0 ∨ bits .and .i64 x 1 = 1 := by
  have h : ∀ a : BitVec 64, (a &&& 1#64) = 0#64 ∨ (a &&& 1#64) = 1#64 := fun a => by
    have h2 : (a &&& 1#64).toNat ≤ 1 := by rw [BitVec.toNat_and]; exact Nat.and_le_right
    rcases Nat.le_one_iff_eq_zero_or_eq_one.1 h2 with e | e
    · exact Or.inl (BitVec.eq_of_toNat_eq e)
    · exact Or.inr (BitVec.eq_of_toNat_eq e)
  rcases h (BitVec.ofInt 64 x) with e | e
  · left
    show IntKind.i64.wrap ((BitVec.ofInt 64 x &&& BitVec.ofInt 64 1).toNat : Int) = 0
    rw [show BitVec.ofInt 64 1 = 1#64 from rfl, e]
    rfl
  · right
    show IntKind.i64.wrap ((BitVec.ofInt 64 x &&& BitVec.ofInt 64 1).toNat : Int) = 1
    rw [show BitVec.ofInt 64 1 = 1#64 from rfl, e]
    rfl
theorem chk_one {k st : Int} {e1 : Bool} {Z : List Int} (h : wsF k st = true) : chkF k st e1 Z = 1 := by
  unfold wsF at h
  unfold chkF
  by_cases h0 : k = 0 ∨ k = 1 ∨ k = 2 ∨ k = 3
  · rw [if_pos h0] at h
    rw [if_pos ⟨by omega, by simpa using h⟩]
  · rw [if_neg h0] at h
    by_cases h4 : k = 4 ∨ k = 5 ∨ k = 6
    · rw [if_pos h4] at h
      rw [if_neg (by omega), if_pos ⟨h4, by simpa using h⟩]
    · rw [if_neg h4] at h
      cases h
theorem ws_false {k st : Int} (h : wsF k st = false) : ¬ ((0 ≤ k ∧ k ≤ 3) ∧ st = 0) ∧ ¬ ((k = 4 ∨ k = 5 ∨ k = 6) ∧ st ≠ 0) := by
  unfold wsF at h
  by_cases h0 : k = 0 ∨ k = 1 ∨ k = 2 ∨ k = 3
  · rw [if_pos h0] at h
    have h1 : st ≠ 0 := by simpa using h
    exact ⟨fun x => h1 x.2, fun x => by omega⟩
  · rw [if_neg h0] at h
    by_cases h4 : k = 4 ∨ k = 5 ∨ k = 6
    · rw [if_pos h4] at h
      have h1 : st = 0 := by simpa using h
      exact ⟨fun x => by omega, fun x => x.2 h1⟩
    · exact ⟨fun x => by omega, fun x => h4 x.1⟩
theorem wz_iff {k fl : Int} {n : Nat} : wzF k fl n = true ↔ ((k = 3 ∧ n ≠ 4) ∨ (k = 5 ∧ n ≠ 8) ∨ (k = 6 ∧ n < 8) ∨ (k = 7 ∧ n ≠ 4)) ∨ (k = 4 ∧ (n % 6 ≠ 0 ∨ (0 < n ∧ (bits .and .i64 fl 1 == 1) = true))) := by
  unfold wzF
  by_cases h3 : k = 3
  · rw [if_pos h3]; subst h3; simp; omega
  rw [if_neg h3]
  by_cases h4 : k = 4
  · rw [if_pos h4]
    subst h4
    have e : (bits .and .i64 fl 1 != 0) = (bits .and .i64 fl 1 == 1) := by
      rcases and_one fl with e | e <;> rw [e] <;> rfl
    rw [e]
    cases bits .and .i64 fl 1 == 1 <;> simp <;> omega
  rw [if_neg h4]
  by_cases h5 : k = 5
  · rw [if_pos h5]; subst h5; simp; omega
  rw [if_neg h5]
  by_cases h6 : k = 6
  · rw [if_pos h6]; subst h6; simp; omega
  rw [if_neg h6]
  by_cases h7 : k = 7
  · rw [if_pos h7]; subst h7; simp; omega
  rw [if_neg h7]
  simp [h3, h4, h5, h6, h7]
theorem chk_six {k st fl : Int} {Z : List Int} (h1 : wsF k st = false) (h2 : wzF k fl Z.length = true) : chkF k st (bits .and .i64 fl 1 == 1) Z = 6 := by
  obtain ⟨n1, n2⟩ := ws_false h1
  unfold chkF
  rw [if_neg n1, if_neg n2]
  rcases wz_iff.1 h2 with h | h
  · rw [if_pos h]
  · rw [if_neg (by omega), if_pos h]
theorem chk_rest {k st fl : Int} {Z : List Int} (h1 : wsF k st = false) (h2 : wzF k fl Z.length = false) : chkF k st (bits .and .i64 fl 1 == 1) Z = if k = 7 then (if word Z = 0 ∨ 2147483647 < word Z then 1 else 0) else if k = 4 then setsF (Z.length / 6) Z else 0 := by
  obtain ⟨n1, n2⟩ := ws_false h1
  have hn := mt wz_iff.2 (by rw [h2]; simp)
  unfold chkF
  rw [if_neg n1, if_neg n2, if_neg (fun x => hn (Or.inl x)), if_neg (fun x => hn (Or.inr x))]
set_option maxHeartbeats 4000000 in
/-- frame.Check, whole. -/
theorem check_any (k fl st : Int) (a : Option Addr) (len cap : Nat) (Z : List Int) (w : World) (hA : Arg w a len cap Z) (hZ : Z.length = len) (hm : len ≤ 4611686018427387904) :
    Calls Tryz.prog 29 #[.agg #[.int .i64 k, .int .i64 fl, .int .i64 st, .slice a len cap]] w fun e w' => e = .returned (.int .i64 (chkF k st (bits .and .i64 fl 1 == 1) Z)) ∧ Below w.heap.size w w' := by
  obtain ⟨w0, hw0⟩ : ∃ w0, w0 = w.alloc (.cells #[.int .i64 k, .int .i64 fl, .int .i64 st, .slice a len cap] 60) := ⟨_, rfl⟩
  have hb0 : Below w.heap.size w w0 := by rw [hw0]; exact (Below.refl _ _).alloc (Nat.le_refl _) _
  have hsz0 : w.heap.size + 1 ≤ w0.heap.size := by rw [hw0]; simp
  have hx : w0.heap[w.heap.size]? = some (.cells #[.int .i64 k, .int .i64 fl, .int .i64 st, .slice a len cap] 60 (0, 0)) := by rw [hw0]; exact Array.getElem?_push_size
  have HX : Hid (∀ wx i u, Below w0.heap.size w0 wx → (#[Value.int .i64 k, .int .i64 fl, .int .i64 st, .slice a len cap] : Array Value)[i]? = some u → wx.cell? ⟨w.heap.size, i, none⟩ = some u) := fun wx i u hb hu => by
    rw [hb.cell (p := ⟨w.heap.size, i, none⟩) (by show w.heap.size < _; omega), cell_of_row w0 w.heap.size i _ _ _ hx]; exact hu
  have B0 := hide hb0
  have HW0 := hide hw0
  have HS := hide (wstream_any k fl st a len cap w0)
  have HAR := hide (hA.below hb0)
  have HE1 : Hid (wsF k st = true → chkF k st (bits .and .i64 fl 1 == 1) Z = 1) := fun h => chk_one h
  have HE2 : Hid (wsF k st = false → wzF k fl len = true → chkF k st (bits .and .i64 fl 1 == 1) Z = 6) := fun h1 h2 => chk_six h1 (by rw [hZ]; exact h2)
  have HE3 : Hid (wsF k st = false → wzF k fl len = false → chkF k st (bits .and .i64 fl 1 == 1) Z = if k = 7 then (if word Z = 0 ∨ 2147483647 < word Z then 1 else 0) else if k = 4 then setsF (len / 6) Z else 0) := fun h1 h2 => by
    rw [chk_rest h1 (by rw [hZ]; exact h2), hZ]
  have HWZ := hide (fun (h : wzF k fl len = false) => mt wz_iff.2 (by rw [h]; simp))
  generalize chkF k st (bits .and .i64 fl 1 == 1) Z = R at *
  obtain ⟨b1, hb1⟩ : ∃ b, wsF k st = b := ⟨_, rfl⟩
  obtain ⟨b2, hb2⟩ : ∃ b, wzF k fl len = b := ⟨_, rfl⟩
  rw [hb1] at HS HE1 HE2 HE3
  rw [hb2] at HE2 HE3 HWZ
  have HZ : Hid (∀ wx, Calls Tryz.prog 73 #[.agg #[.int .i64 k, .int .i64 fl, .int .i64 st, .slice a len cap]] wx fun e w' => e = .returned (.bool b2) ∧ Below wx.heap.size wx w') := fun wx => by rw [← hb2]; exact wsize_any k fl st a len cap wx
  clear hb0 hx hw0 hb1 hb2 hA
  cases b1 with
  | true =>
    obtain rfl := HE1.out (by first | rfl | trivial)
    go_enter Tryz.func29, Tryz.ntmps29
    go_wp2_with fail
    rw [← HW0.out]
    refine HS.out.mono ?_
    rintro e w1 ⟨rfl, h1⟩
    have B1 := hide (B0.out.trans (h1.mono (by omega)))
    clear h1 HS
    go_wp2
    go_ret
    exact ⟨rfl, B1.out⟩
  | false =>
    go_enter Tryz.func29, Tryz.ntmps29
    go_wp2_with fail
    rw [← HW0.out]
    refine HS.out.mono ?_
    rintro e w1 ⟨rfl, h1⟩
    have s1 := h1.size
    have c0 := HX.out w1 0 _ h1 rfl
    have c1 := HX.out w1 1 _ h1 rfl
    have c2 := HX.out w1 2 _ h1 rfl
    have c3 := HX.out w1 3 _ h1 rfl
    have B1 := hide h1
    clear h1 HS
    go_wp2_with fail
    refine (HZ.out w1).mono ?_
    rintro e w2 ⟨rfl, h2⟩
    have s2 := h2.size
    have h02 : Below w0.heap.size w0 w2 := B1.out.trans (h2.mono (by omega))
    have d0 := HX.out w2 0 _ h02 rfl
    have d3 := HX.out w2 3 _ h02 rfl
    have B2 := hide (B0.out.trans (h02.mono (by omega)))
    have HA2 := hide (HAR.out.below h02)
    clear h2 h02 c0 c1 c2 c3 HZ B1
    cases b2 with
    | true =>
      obtain rfl := HE2.out (by first | rfl | trivial) (by first | rfl | trivial)
      go_wp2
      go_ret
      exact ⟨rfl, B2.out⟩
    | false =>
      have hR := HE3.out (by first | rfl | trivial) (by first | rfl | trivial)
      have hwz := HWZ.out (by first | rfl | trivial)
      clear HE1 HE2 HE3 HWZ
      by_cases k7 : k = 7
      · rw [if_pos k7] at hR
        have hl4 : len = 4 := by omega
        subst k7 hl4
        rcases HA2.out with ⟨h0, _⟩ | ⟨g, off, rfl, hr⟩
        · omega
        have HC := hide (cwide_any g off cap Z w2 hr)
        rw [← hR] at HC
        clear hr hwz hR
        go_wp2_with fail
        refine HC.out.mono ?_
        rintro e w3 ⟨rfl, h3⟩
        have B3 := hide (B2.out.trans (h3.mono (by omega)))
        clear h3 HC
        go_wp2
        go_ret
        exact ⟨rfl, B3.out⟩
      · rw [if_neg k7] at hR
        by_cases k4 : k = 4
        · rw [if_pos k4] at hR
          have h6 : len % 6 = 0 := by omega
          subst k4
          have HC := hide (csets_any a len cap Z w2 HA2.out h6 hm)
          rw [← hR] at HC
          clear hwz h6 hR
          go_wp2_with fail
          refine HC.out.mono ?_
          rintro e w3 ⟨rfl, h3⟩
          have B3 := hide (B2.out.trans (h3.mono (by omega)))
          clear h3 HC
          go_wp2
          go_ret
          exact ⟨rfl, B3.out⟩
        · rw [if_neg k4] at hR
          subst hR
          clear hwz
          go_wp2
          go_ret
          exact ⟨rfl, B2.out⟩
end Go.Proofs.YtdlaaollamgplagGreatDoor
