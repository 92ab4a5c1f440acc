/-
  THE LAST THAT CAME BACK GOES FIRST: the law PoolLast, walked to its end. No claim by itself.
-/
import Derived.Test.YtibjbdcmhjbndaaLo13
namespace Go.Proofs.Ytibjbdcmhjbndaa
open Go Go.RowKit Go.Maps
set_option maxRecDepth 100000
section
variable {w0 W : World} {pb bb ib : Nat}
theorem p1 (h : OB w0 W pb bb ib (po0 8)) : Calls Try.prog 5 #[.pointer (some ⟨pb, 0, none⟩), .string ⟨#[120]⟩] W fun e w' => e = .returned (.tuple #[.int .i64 1, .bool true, .nilIface]) ∧ OB w0 w' pb bb ib s1 := h.take xB (by decide) (by decide) (by decide)
theorem p2 (h : OB w0 W pb bb ib s1) : Calls Try.prog 5 #[.pointer (some ⟨pb, 0, none⟩), .string ⟨#[120]⟩] W fun e w' => e = .returned (.tuple #[.int .i64 2, .bool true, .nilIface]) ∧ OB w0 w' pb bb ib s2 := h.take xB (by decide) (by decide) (by decide)
theorem p3 (h : OB w0 W pb bb ib s2) : Calls Try.prog 5 #[.pointer (some ⟨pb, 0, none⟩), .string ⟨#[121]⟩] W fun e w' => e = .returned (.tuple #[.int .i64 3, .bool true, .nilIface]) ∧ OB w0 w' pb bb ib s3 := h.take yB (by decide) (by decide) (by decide)
theorem p4 (h : OB w0 W pb bb ib s3) : Calls Try.prog 6 #[.pointer (some ⟨pb, 0, none⟩), .int .i64 1, .bool true] W fun e w' => e = .returned .nilIface ∧ OB w0 w' pb bb ib s4 := h.back 1 true (by unfold Ix64; decide) (by decide)
theorem p5 (h : OB w0 W pb bb ib s4) : Calls Try.prog 6 #[.pointer (some ⟨pb, 0, none⟩), .int .i64 2, .bool true] W fun e w' => e = .returned .nilIface ∧ OB w0 w' pb bb ib s5 := h.back 2 true (by unfold Ix64; decide) (by decide)
theorem p6 (h : OB w0 W pb bb ib s5) : Calls Try.prog 6 #[.pointer (some ⟨pb, 0, none⟩), .int .i64 3, .bool false] W fun e w' => e = .returned .nilIface ∧ OB w0 w' pb bb ib s6 := h.back 3 false (by unfold Ix64; decide) (by decide)
theorem p7 (h : OB w0 W pb bb ib s6) : Calls Try.prog 5 #[.pointer (some ⟨pb, 0, none⟩), .string ⟨#[120]⟩] W fun e w' => e = .returned (.tuple #[.int .i64 2, .bool false, .nilIface]) ∧ OB w0 w' pb bb ib s7 := h.take xB (by decide) (by decide) (by decide)
theorem p7i (h : OB w0 W pb bb ib s7) : Calls Try.prog 7 #[.pointer (some ⟨pb, 0, none⟩), .string ⟨#[121]⟩] W fun e w' => e = .returned (.int .i64 0) ∧ OB w0 w' pb bb ib s7 := h.idle yB
theorem p8 {now : Int} (hn : 0 ≤ now ∧ now ≤ 100000) (h : OB w0 W pb bb ib s7) : Calls Try.prog 8 #[.pointer (some ⟨pb, 0, none⟩), .int .i64 now, .int .i64 100000] W fun e w' => ∃ v, e = .returned (.tuple #[v, .nilIface]) ∧ OB w0 w' pb bb ib (s8 now) := by
  refine (h.tick now 100000 (e8 hn)).mono ?_
  rintro e w' ⟨v, ids, h1, _, _, h4⟩
  rw [k8 hn] at h4
  exact ⟨v, h1, h4⟩
theorem p9 {now : Int} (h : OB w0 W pb bb ib (s8 now)) : Calls Try.prog 6 #[.pointer (some ⟨pb, 0, none⟩), .int .i64 2, .bool true] W fun e w' => e = .returned .nilIface ∧ OB w0 w' pb bb ib (s9 now) := h.back 2 true (by unfold Ix64; decide) (by show (2 : Int) ≤ 1000000000000; decide)
theorem p10 {now later old : Int} (hn : 0 ≤ now ∧ now ≤ 100000) (hl : 0 ≤ later ∧ later ≤ 100000) (ho : 0 ≤ old ∧ old ≤ 100000) (h : OB w0 W pb bb ib (s9 now)) : Calls Try.prog 8 #[.pointer (some ⟨pb, 0, none⟩), .int .i64 (now + later), .int .i64 old] W fun e w' => ∃ a c, e = .returned (.tuple #[.slice a (wantN now later old) c, .nilIface]) ∧ OB w0 w' pb bb ib (tickS (s9 now) (now + later) old) := by
  refine (h.tick (now + later) old (e9 hn hl ho)).mono ?_
  rintro e w' ⟨v, ids, h1, h2, h3, h4⟩
  obtain ⟨a, c, rfl⟩ := irow_shape h2
  rw [h3.1.length_eq, g9] at h1
  exact ⟨a, c, h1, h4⟩
theorem p11 {now later old : Int} (h : OB w0 W pb bb ib (tickS (s9 now) (now + later) old)) : Calls Try.prog 7 #[.pointer (some ⟨pb, 0, none⟩), .string ⟨#[120]⟩] W fun e w' => e = .returned (.int .i64 (2 - (wantN now later old : Int))) ∧ OB w0 w' pb bb ib (tickS (s9 now) (now + later) old) := by
  have hw : wantN now later old ≤ 2 := by unfold wantN; split <;> split <;> omega
  refine (h.idle xB).mono ?_
  rintro e w' ⟨h1, h2⟩
  rw [i9] at h1
  refine ⟨h1.trans ?_, h2⟩
  congr 2
  omega
end
set_option maxHeartbeats 4000000 in
theorem last_ok (now old later : Int) (w : World) : Calls Try.prog 3 #[.int .i64 now, .int .i64 old, .int .i64 later] w fun e w' => e = .returned (.bool true) ∧ Below w.heap.size w w' := by
  have H0 := vl (ob_new w w (Below.refl _ _) 8 (by decide))
  go_enter Try.func3, Try.ntmps3
  go_wp2_with fail
  refine H0.out.mono ?_
  rintro _ w1 ⟨pb, bb, ib, rfl, hB, _⟩
  have HA := vl hB
  clear hB H0
  go_wp2_with fail
  refine (p1 HA.out).mono ?_
  rintro _ w2 ⟨rfl, hB⟩
  have HB := vl hB
  clear hB HA
  go_wp2_with fail
  refine (p2 HB.out).mono ?_
  rintro _ w3 ⟨rfl, hB⟩
  have HA := vl hB
  clear hB HB
  go_wp2_with fail
  refine (p3 HA.out).mono ?_
  rintro _ w4 ⟨rfl, hB⟩
  have HB := vl hB
  clear hB HA
  go_wp2_with fail
  refine (p4 HB.out).mono ?_
  rintro _ w5 ⟨rfl, hB⟩
  have HA := vl hB
  clear hB HB
  go_wp2_with fail
  refine (p5 HA.out).mono ?_
  rintro _ w6 ⟨rfl, hB⟩
  have HB := vl hB
  clear hB HA
  go_wp2_with fail
  refine (p6 HB.out).mono ?_
  rintro _ w7 ⟨rfl, hB⟩
  have HA := vl hB
  clear hB HB
  go_wp2_with fail
  refine (p7 HA.out).mono ?_
  rintro _ w8 ⟨rfl, hB⟩
  have HB := vl hB
  clear hB HA
  go_wp2_with fail
  refine (p7i HB.out).mono ?_
  rintro _ w9 ⟨rfl, hB⟩
  have HA := vl hB
  clear hB HB
  by_cases n1 : now < 0
  · go_wp2_with fail
    go_ret
    exact ⟨rfl, HA.out.old⟩
  by_cases n2 : 100000 < now
  · go_wp2_with fail
    go_ret
    exact ⟨rfl, HA.out.old⟩
  by_cases l1 : later < 0
  · go_wp2_with fail
    go_ret
    exact ⟨rfl, HA.out.old⟩
  by_cases l2 : 100000 < later
  · go_wp2_with fail
    go_ret
    exact ⟨rfl, HA.out.old⟩
  by_cases o1 : old < 0
  · go_wp2_with fail
    go_ret
    exact ⟨rfl, HA.out.old⟩
  by_cases o2 : 100000 < old
  · go_wp2_with fail
    go_ret
    exact ⟨rfl, HA.out.old⟩
  have hn : 0 ≤ now ∧ now ≤ 100000 := ⟨by omega, by omega⟩
  have hl : 0 ≤ later ∧ later ≤ 100000 := ⟨by omega, by omega⟩
  have ho : 0 ≤ old ∧ old ≤ 100000 := ⟨by omega, by omega⟩
  have HN := vl hn
  have HL := vl hl
  have HO := vl ho
  have n0 : 0 ≤ now := hn.1
  have n0' : now ≤ 100000 := hn.2
  have l0 : 0 ≤ later := hl.1
  have l0' : later ≤ 100000 := hl.2
  have hwr : IntKind.i64.wrap (now + later) = now + later := by rw [IntKind.wrap_i64]; omega
  clear hn hl ho
  go_wp2_with fail
  refine (p8 HN.out HA.out).mono ?_
  rintro _ w10 ⟨v, rfl, hB⟩
  have HB := vl hB
  clear hB HA
  go_wp2_with fail
  refine (p9 HB.out).mono ?_
  rintro _ w11 ⟨rfl, hB⟩
  have HA := vl hB
  clear hB HB
  go_wp2_with fail
  refine (p10 HN.out HL.out HO.out HA.out).mono ?_
  rintro _ w12 ⟨ga, gc, rfl, hB⟩
  have HB := vl hB
  have H11 := vl (p11 hB)
  clear hB HA
  by_cases c1 : old < now + later
  · by_cases c2 : old < later
    · have hw : wantN now later old = 2 := by unfold wantN; rw [if_pos c1, if_pos c2]
      rw [hw] at H11 ⊢
      clear hw
      go_wp2_with fail
      refine H11.out.mono ?_
      rintro _ w13 ⟨rfl, hB⟩
      have HC := vl hB
      clear hB
      go_wp2_with fail
      go_ret
      exact ⟨rfl, HC.out.old⟩
    · have hw : wantN now later old = 1 := by unfold wantN; rw [if_pos c1, if_neg c2]
      rw [hw] at H11 ⊢
      clear hw
      go_wp2_with fail
      refine H11.out.mono ?_
      rintro _ w13 ⟨rfl, hB⟩
      have HC := vl hB
      clear hB
      go_wp2_with fail
      go_ret
      exact ⟨rfl, HC.out.old⟩
  · have c2 : ¬ old < later := by omega
    have hw : wantN now later old = 0 := by unfold wantN; rw [if_neg c1, if_neg c2]
    rw [hw] at H11 ⊢
    clear hw
    go_wp2_with fail
    refine H11.out.mono ?_
    rintro _ w13 ⟨rfl, hB⟩
    have HC := vl hB
    clear hB
    go_wp2_with fail
    go_ret
    exact ⟨rfl, HC.out.old⟩
end Go.Proofs.Ytibjbdcmhjbndaa
