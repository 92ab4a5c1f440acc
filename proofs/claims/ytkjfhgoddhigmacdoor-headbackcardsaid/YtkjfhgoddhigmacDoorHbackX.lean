/-
  THE WALK of the Go function tolllaw1.HeadBack. No claim by itself.
-/
import Derived.Test.YtkjfhgoddhigmacDoorTwoX
import Derived.Test.YtkjfhgoddhigmacDoorLopenX
namespace Go.Proofs.YtkjfhgoddhigmacDoor
open Go.RowKit
set_option maxRecDepth 100000
def mab : ByteArray × ByteArray := (⟨#[97]⟩, ⟨#[98]⟩)
theorem mab_much : ¬ tooMuch [mab] := by
  rintro (h | h | ⟨f, hf, h⟩)
  · simp at h
  · exact absurd h (by decide +kernel)
  · simp at hf; subst hf; exact h (by unfold small; decide)
/-- Two coders of which one says what the other one hears, and all that is known of them. -/
def Pair (max : Int) (base : Nat) (w0 wr : World) (c1 c2 : Nat) : Prop :=
  ∃ mo AO sz mi AI S1 S2, Two base wr c1 ⟨mo, max, max, AO, [], sz, false⟩ S1 c2 ⟨max, mi, max, [], AI, [], false⟩ S2 ∧ HFit ⟨mo, max, max, AO, [], sz, false⟩ ∧ HFit ⟨max, mi, max, [], AI, [], false⟩ ∧ Sync max mo AO sz mi AI ∧ Below base w0 wr
set_option maxHeartbeats 8000000 in
theorem hback_ok (max : Int) (la : Option Addr) (ll lc : Nat) (A : Nat → Option Addr) (N C : Nat → Nat) (L : Nat → List (ByteArray × ByteArray)) (sa : Option Addr) (sl sc : Nat) (Z : List Int) (w : World) (hal : Alw w)
    (hL : LArg w la ll lc A N C L) (_hll : ll ≤ 4611686018427387904) (hS : NArg w sa sl sc Z) (_hsl : sl ≤ 4611686018427387904) :
    Calls Tryd.prog 3 #[.int .i64 max, .slice la ll lc, .slice sa sl sc] w fun e w' => e = .returned (.bool true) ∧ Below w.heap.size w w' := by
  have HL : Hid (∀ wx, Below w.heap.size w wx → LArg wx la ll lc A N C L) := fun wx hb => hL.below hb
  have HS : Hid (∀ wx, Below w.heap.size w wx → NArg wx sa sl sc Z) := fun wx hb => hS.below hb
  have hn1 := hnew_any 4096 w hal
  have HAL := hide hal
  clear hL hS hal
  go_enter Tryd.func3, Tryd.ntmps3
  go_wp2_with fail
  refine hn1.mono ?_
  rintro e w1 ⟨⟨_, _, c1, S1, rfl, hC1, hS1⟩ | ⟨hno, _⟩, hb1⟩
  · have hn2 := hnew_any 4096 w1 (HAL.out.below hb1)
    have HC1 := hide hC1
    have HS1 := hide hS1
    have s1 := hb1.size
    clear hn1 hC1 hS1
    go_wp2_with fail
    refine hn2.mono ?_
    rintro e w2 ⟨⟨_, _, c2, S2, rfl, hC2, hS2⟩ | ⟨hno, _⟩, hb2⟩
    · have T2 : Hid (Two w.heap.size w2 c1 ⟨4096, 4096, 4096, [], [], [], false⟩ S1 c2 ⟨4096, 4096, 4096, [], [], [], false⟩ S2) :=
        ⟨HC1.out.below hb2, hC2, fun k h1 h2 => by have h3 := HC1.out.hlt k h1; have h4 := hS2 k h2; omega, HS1.out, fun k hk => by have := hS2 k hk; omega, by have := hb2.size; omega⟩
      have B2 := hide (hb1.trans (hb2.mono s1))
      have s2 := hb2.size
      clear hn2 hC2 hS2 HC1 HS1 hb1 hb2
      obtain ⟨w3, hw3⟩ : ∃ w3, w3 = w2.alloc (.cells #[.string ⟨#[97]⟩, .string ⟨#[98]⟩] 33) := ⟨_, rfl⟩
      have hb3 : Below w2.heap.size w2 w3 := by rw [hw3]; exact (Below.refl _ _).alloc (Nat.le_refl _) _
      have hx3 : w3.heap[w2.heap.size]? = some (.cells #[.string mab.1, .string mab.2] 33 (0, 0)) := by rw [hw3]; exact Array.getElem?_push_size
      have s3 := hb3.size
      have T3 := hide (T2.out.below hb3)
      have B3 := hide (B2.out.trans (hb3.mono (by omega)))
      have hlit : ∀ wx, Off S1 w3 wx → FArg wx (some ⟨w2.heap.size, 0, none⟩) 1 1 [mab] := fun wx ho => by
        have hx := (ho.block w2.heap.size (lt_of_heap hx3) (fun h => by have := T2.out.h1.hlt _ h; omega)).trans hx3
        refine Or.inr ⟨_, 0, rfl, rfl, by decide, by decide, fun t ht => ?_, fun t ht => ?_⟩
        · obtain rfl : t = 0 := by omega
          exact (cell_at hx 0).trans rfl
        · obtain rfl : t = 0 := by omega
          exact (cell_at hx 1).trans rfl
      have hf0 : Fit 4096 ([] : List (ByteArray × ByteArray)) := Fit.nil (by decide) (by decide)
      have he := hencode_yes c1 ⟨4096, 4096, 4096, [], [], [], false⟩ S1 (some ⟨w2.heap.size, 0, none⟩) 1 1 [mab] w3 T3.out.h1 (HFit.new (by decide) (by decide)) hlit mab_much
      have hdx := dc_all 4096 4096 4096 [] [] [mab] [] ⟨fun x hx => by simp at hx, Or.inl ⟨rfl, rfl, rfl⟩⟩ hf0 hf0 (by decide) (not_much mab_much).2.2 (by decide) (not_much mab_much).2.1
      have bx := enc_bytes (st := ⟨4096, 4096, 4096, [], [], [], false⟩) (HFit.new (by decide) (by decide)) [mab]
      have hxl := encL_len 4096 [mab] [] (not_much mab_much).2.2
      simp only [show szL [] = ([] : List Int) from rfl, List.nil_append] at he hdx bx
      generalize encL 4096 [] [mab] = XA at *
      obtain ⟨X, A1⟩ := XA
      simp only at he hdx bx hxl
      have HDX := hide hdx
      have HBX := hide bx
      have hxl' : X.length ≤ 1000 := by simpa using hxl
      clear hlit hx3 hb3 T2 B2 hdx bx hxl
      go_wp2_with fail
      rw [← hw3]
      clear hw3
      refine he.mono ?_
      rintro e w4 ⟨v4, rfl, hown4, hoff4, S1', hS4, hN4, hC4⟩
      have T4 := hide (T3.out.left hoff4 hC4 hS4)
      have B4 := hide (T3.out.belowL B3.out hoff4)
      have s4 := hoff4.size
      have hq4 : ∀ k, v4.ownBlock = some k → ¬ S2 k := fun k hk h => by have h1 := (hown4.lt k hk).1; have h2 := T3.out.h2.hlt k h; omega
      obtain ⟨a4, cap4, rfl, hAS⟩ := argS_of (S := S2) rfl hown4 HBX.out hq4
      have hd := hdecode_any c2 ⟨4096, 4096, 4096, [], [], [], false⟩ S2 a4 X.length cap4 X w4 T4.out.h2 (HFit.new (by decide) (by decide)) hAS rfl (by omega)
      simp only [HDX.out] at hd
      clear he hown4 hoff4 hS4 hN4 hC4 hAS hq4 T3 B3
      go_wp2_with fail
      refine hd.mono ?_
      rintro e w5 ⟨S2', hT5, ho5, hS5⟩
      rcases hT5 with ⟨h, _⟩ | ⟨_, _, v5, rfl, hown5, hN5, hC5, _⟩ | ⟨_, h, _⟩
      · cases h
      · have B5 := hide (T4.out.belowR B4.out ho5)
        have s5 := ho5.size
        obtain ⟨a5, cap5, rfl, hF5⟩ := farg_of rfl hown5
        rcases hF5 with ⟨h0, _⟩ | ⟨g5, o5, rfl, hr5⟩
        · simp at h0
        have hc5 : w5.cell? ⟨g5, o5 + 1, none⟩ = some (.string ⟨#[98]⟩) := by
          have := hr5.hvalue 0 Nat.zero_lt_one
          simpa [mab] using this
        have hcp5 := hr5.hcap
        have hn6 := hnew_any max w5 (HAL.out.below B5.out)
        clear hd hown5 hN5 hC5 ho5 hS5 T4 B4 HDX HBX hr5
        simp only [List.length_singleton] at hcp5 ⊢
        go_wp2_with fail
        refine hn6.mono ?_
        rintro e w6 ⟨⟨m0, m1, c3, S3, rfl, hC6, hS6⟩ | ⟨hno, rfl⟩, hb6⟩
        · have hn7 := hnew_any max w6 (HAL.out.below (B5.out.trans (hb6.mono B5.out.size)))
          have HC6 := hide hC6
          have HS6 := hide hS6
          have B6 := hide (B5.out.trans (hb6.mono B5.out.size))
          have s6 := hb6.size
          clear hn6 hC6 hS6 hb6
          go_wp2_with fail
          refine hn7.mono ?_
          rintro e w7 ⟨⟨_, _, c4, S4, rfl, hC7, hS7⟩ | ⟨hno, rfl⟩, hb7⟩
          · have P7 : Hid (Pair max w.heap.size w w7 c3 c4) := by
              have hsx := B5.out.size
              have hsb := hb7.size
              refine ⟨max, [], [], max, [], S3, S4, ⟨HC6.out.below hb7, hC7, fun k h1 h2 => ?_, fun k hk => ?_, fun k hk => ?_, by omega⟩, HFit.new m0 m1, HFit.new m0 m1, ⟨fun x hx => by simp at hx, Or.inl ⟨rfl, rfl, rfl⟩⟩, B6.out.trans (hb7.mono (by omega))⟩
              · have h3 := HC6.out.hlt k h1; have h4 := hS7 k h2; omega
              · have := HS6.out k hk; omega
              · have := hS7 k hk; omega
            clear hn7 hC7 hS7 hb7 HC6 HS6 B6 B5 s6
            go_wp2_with fail
            go_loopw [17] (fun i wr => ∃ j : Nat, i = .int .i64 j ∧ j ≤ 20 ∧ Pair max w.heap.size w wr c3 c4) (fun i _ => 20 - (intOf i).toNat)
            case atStart => exact ⟨0, rfl, by decide, P7.out⟩
            case round =>
              obtain ⟨j, rfl, hj20, hP⟩ := hrel
              have PJ := hide hP
              clear hP P7
              by_cases hjl : j < ll
              · by_cases hj : j < 20
                · have dj1 : (j : Int) < (ll : Int) := by omega
                  have dj2 : (j : Int) < 20 := by omega
                  go_wp2_with fail
                  go_loopw [18] (fun k wx => ∃ q : Nat, k = .int .i64 q ∧ q ≤ j + 2 ∧ Pair max w.heap.size w wx c3 c4) (fun k _ => j + 2 - (intOf k).toNat)
                  case atStart => exact ⟨j, rfl, by omega, PJ.out⟩
                  case round =>
                    obtain ⟨q, rfl, hqj, hP⟩ := hrel
                    have PI := hide hP
                    clear hP PJ
                    by_cases hqs : q < sl
                    · have dq1 : (q : Int) < (sl : Int) := by omega
                      by_cases hq2 : q < j + 2
                      · have dq2 : (q : Int) < (j : Int) + 2 := by omega
                        obtain ⟨mo, AO, sz, mi, AI, S5, S6, T, F1, F2, SY, BB⟩ := PI.out
                        rcases HS.out _ BB with h0 | ⟨gs, os, rfl, hc1, hc2, hcs⟩
                        · omega
                        have cq := hcs q hqs
                        unfold maxLen at hc2
                        have hrz := hresize_any c3 ⟨mo, max, max, AO, [], sz, false⟩ S5 (Z.getD q 0) _ T.h1 F1
                        have hT := hide T
                        have hB := hide BB
                        have hSY := hide SY
                        have hF1 := hide F1
                        have hF2 := hide F2
                        have PI2 := PI
                        clear T F1 F2 SY BB hcs PI
                        generalize Z.getD q 0 = s at *
                        by_cases hs : 0 ≤ s ∧ s ≤ max
                        · have ds1 : decide (0 ≤ s) = true := by simp; omega
                          have ds2 : decide (s ≤ max) = true := by simp; omega
                          go_wp2_with fail
                          refine hrz.mono ?_
                          rintro e wy ⟨ho, S5', hS5', ⟨_, _, rfl, hCy⟩ | ⟨hno, _⟩⟩
                          · have PN : Hid (Pair max w.heap.size w wy c3 c4) := ⟨s, _, sz ++ [s], mi, AI, S5', S6, hT.out.left ho hCy hS5', ⟨Fit.shrink hs.1 (by omega), hF1.out.inn, hF1.out.hmost, fun x hx => by
                              rcases List.mem_append.1 hx with h | h
                              · exact hF1.out.hsz x h
                              · simp at h; omega, fun _ => by simp⟩, hF2.out, hSY.out.resize s hs.1 hs.2, hT.out.belowL hB.out ho⟩
                            clear hrz hCy ho hS5'
                            go_wp2
                            go_roundw
                            case rel => exact ⟨q + 1, by go_num, by omega, PN.out⟩
                            case measure => simp [intOf]; omega
                          · exfalso; exact hno ⟨hs.1, by omega⟩
                        · clear hrz
                          by_cases hs0 : 0 ≤ s
                          · have ds1 : decide (0 ≤ s) = true := by simpa using hs0
                            have ds2 : decide (s ≤ max) = false := by simp; omega
                            go_wp2
                            go_roundw
                            case rel => exact ⟨q + 1, by go_num, by omega, PI2.out⟩
                            case measure => simp [intOf]; omega
                          · have ds1 : decide (0 ≤ s) = false := by simpa using hs0
                            go_wp2
                            go_roundw
                            case rel => exact ⟨q + 1, by go_num, by omega, PI2.out⟩
                            case measure => simp [intOf]; omega
                      · have dq2 : ¬ (q : Int) < (j : Int) + 2 := by omega
                        obtain ⟨mo, AO, sz, mi, AI, S5, S6, T, F1, F2, SY, BB⟩ := PI.out
                        have hT := hide T
                        have hB := hide BB
                        have hSY := hide SY
                        have hF1 := hide F1
                        have hF2 := hide F2
                        clear T F1 F2 SY BB PI
                        rcases HL.out wr hB.out with h0 | ⟨gl, ol, rfl, hrw⟩
                        · omega
                        have hcl := hrw.hcap
                        have hml := hrw.hmax
                        unfold maxLen at hml
                        obtain ⟨cj, fj, nj, zj⟩ := hrw.hrow j hjl
                        have HLJ : Hid (∀ wz, Below w.heap.size w wz → wz.cell? ⟨gl, ol + j, none⟩ = some (.slice (A j) (N j) (C j)) ∧ FArg wz (A j) (N j) (C j) (L j)) := fun wz hz => by
                          rcases HL.out wz hz with h0 | ⟨gl', ol', e, hrw'⟩
                          · omega
                          · cases e
                            exact ⟨(hrw'.hrow j hjl).1, (hrw'.hrow j hjl).2.1⟩
                        have hZJ : ∀ f ∈ L j, f.1.size + f.2.size ≤ 281474976710656 := fun f hf => by
                          obtain ⟨i, hi, rfl⟩ := List.getElem_of_mem hf
                          have := zj i
                          simpa [List.getD, List.getElem?_eq_getElem hi] using this
                        have hNJ := fj.len
                        have HNJ := hide hNJ
                        clear hrw zj hNJ
                        by_cases hm : tooMuch (L j)
                        · have he := hencode_no c3 (A j) (N j) (C j) (L j) wr fj nj hZJ hm
                          clear hZJ hm fj
                          generalize A j = aj at *
                          generalize N j = nn at *
                          generalize C j = cc at *
                          go_wp2_with fail
                          refine he.mono ?_
                          rintro e wy ⟨rfl, hby⟩
                          have PN : Hid (Pair max w.heap.size w wy c3 c4) := ⟨mo, AO, sz, mi, AI, S5, S6, hT.out.below hby, hF1.out, hF2.out, hSY.out, hB.out.trans (hby.mono hB.out.size)⟩
                          clear he hby
                          go_wp2
                          go_roundw
                          case rel => exact ⟨j + 1, by go_num, by omega, PN.out⟩
                          case measure => simp [intOf]; omega
                        · obtain ⟨m1', m2', m3'⟩ := not_much hm
                          have he := hencode_yes c3 ⟨mo, max, max, AO, [], sz, false⟩ S5 (A j) (N j) (C j) (L j) wr hT.out.h1 hF1.out (fun wz ho => (HLJ.out wz (hT.out.belowL hB.out ho)).2) hm
                          have hdx := dc_all max mo mi AO AI (L j) sz hSY.out hF1.out.out hF2.out.inn hF1.out.hmost.2 m3' m1' m2'
                          have bx := enc_bytes hF1.out (L j)
                          have hxl : (szL sz ++ (encL mo AO (L j)).1).length ≤ 41000 := by
                            have h1 := encL_len mo (L j) AO m3'
                            have h2 := dszL_len sz
                            rw [List.length_append]; omega
                          have hfA := Fit.encL (L j) hF1.out.out
                          have hFE := hF1.out.enc (L j)
                          simp only at he bx hfA hFE
                          generalize (encL mo AO (L j)).2 = AO' at *
                          generalize szL sz ++ (encL mo AO (L j)).1 = X at *
                          have HDX := hide hdx
                          have HBX := hide bx
                          have HFA := hide hfA
                          have HFE := hide hFE
                          have nj' := nj
                          clear hZJ hm fj hdx bx hfA hFE m3' m2' m1'
                          generalize hLj : L j = Lj at *
                          generalize A j = aj at *
                          generalize N j = nn at *
                          generalize C j = cc at *
                          clear hLj
                          go_wp2_with fail
                          refine he.mono ?_
                          rintro e wy ⟨vy, rfl, howny, hoffy, S5', hSy, hNy, hCy⟩
                          have Ty := hide (hT.out.left hoffy hCy hSy)
                          have By := hide (hT.out.belowL hB.out hoffy)
                          have hqy : ∀ k, vy.ownBlock = some k → ¬ S6 k := fun k hk h => by have h1 := (howny.lt k hk).1; have h2 := hT.out.h2.hlt k h; omega
                          obtain ⟨ay, capy, rfl, hAy⟩ := argS_of (S := S6) rfl howny HBX.out hqy
                          have hd := hdecode_any c4 ⟨max, mi, max, [], AI, [], false⟩ S6 ay X.length capy X wy Ty.out.h2 hF2.out hAy rfl (by omega)
                          simp only [HDX.out] at hd
                          clear he howny hoffy hSy hNy hCy hqy hAy
                          go_wp2_with fail
                          refine hd.mono ?_
                          rintro e wz ⟨S6', hTz, hoz, hSz⟩
                          rcases hTz with ⟨h, _⟩ | ⟨_, _, vz, rfl, hownz, hNz, hCz, _⟩ | ⟨_, h, _⟩
                          · cases h
                          · have Tz := hide (Ty.out.right hoz hCz hSz)
                            have Bz := hide (Ty.out.belowR By.out hoz)
                            have hnj := HNJ.out
                            obtain ⟨az, capz, rfl, hFz⟩ := farg_of hnj (by rw [← hnj]; exact hownz)
                            obtain ⟨cz, fz⟩ := HLJ.out wz Bz.out
                            have hsf := sfields_any az aj nn capz cc Lj wz hFz fz nj'
                            clear hd hownz hNz hCz hoz hSz hFz fz hnj
                            go_wp2_with fail
                            refine hsf.mono ?_
                            rintro e wv ⟨rfl, hbv⟩
                            have PN : Hid (Pair max w.heap.size w wv c3 c4) := ⟨mo, AO', [], mo, AO', S5', S6', Tz.out.below hbv, HFE.out, ⟨hF2.out.out, HFA.out, hF2.out.hmost, hF2.out.hsz, hF2.out.hlast⟩, ⟨fun x hx => by simp at hx, Or.inl ⟨rfl, rfl, rfl⟩⟩, Bz.out.trans (hbv.mono Bz.out.size)⟩
                            clear hsf hbv
                            go_wp2
                            go_roundw
                            case rel => exact ⟨j + 1, by go_num, by omega, PN.out⟩
                            case measure => simp [intOf]; omega
                          · exact absurd rfl h
                    · have dq1 : ¬ (q : Int) < (sl : Int) := by omega
                      obtain ⟨mo, AO, sz, mi, AI, S5, S6, T, F1, F2, SY, BB⟩ := PI.out
                      have hT := hide T
                      have hB := hide BB
                      have hSY := hide SY
                      have hF1 := hide F1
                      have hF2 := hide F2
                      clear T F1 F2 SY BB PI
                      rcases HL.out wr hB.out with h0 | ⟨gl, ol, rfl, hrw⟩
                      · omega
                      have hcl := hrw.hcap
                      have hml := hrw.hmax
                      unfold maxLen at hml
                      obtain ⟨cj, fj, nj, zj⟩ := hrw.hrow j hjl
                      have HLJ : Hid (∀ wz, Below w.heap.size w wz → wz.cell? ⟨gl, ol + j, none⟩ = some (.slice (A j) (N j) (C j)) ∧ FArg wz (A j) (N j) (C j) (L j)) := fun wz hz => by
                        rcases HL.out wz hz with h0 | ⟨gl', ol', e, hrw'⟩
                        · omega
                        · cases e
                          exact ⟨(hrw'.hrow j hjl).1, (hrw'.hrow j hjl).2.1⟩
                      have hZJ : ∀ f ∈ L j, f.1.size + f.2.size ≤ 281474976710656 := fun f hf => by
                        obtain ⟨i, hi, rfl⟩ := List.getElem_of_mem hf
                        have := zj i
                        simpa [List.getD, List.getElem?_eq_getElem hi] using this
                      have hNJ := fj.len
                      have HNJ := hide hNJ
                      clear hrw zj hNJ
                      by_cases hm : tooMuch (L j)
                      · have he := hencode_no c3 (A j) (N j) (C j) (L j) wr fj nj hZJ hm
                        clear hZJ hm fj
                        generalize A j = aj at *
                        generalize N j = nn at *
                        generalize C j = cc at *
                        go_wp2_with fail
                        refine he.mono ?_
                        rintro e wy ⟨rfl, hby⟩
                        have PN : Hid (Pair max w.heap.size w wy c3 c4) := ⟨mo, AO, sz, mi, AI, S5, S6, hT.out.below hby, hF1.out, hF2.out, hSY.out, hB.out.trans (hby.mono hB.out.size)⟩
                        clear he hby
                        go_wp2
                        go_roundw
                        case rel => exact ⟨j + 1, by go_num, by omega, PN.out⟩
                        case measure => simp [intOf]; omega
                      · obtain ⟨m1', m2', m3'⟩ := not_much hm
                        have he := hencode_yes c3 ⟨mo, max, max, AO, [], sz, false⟩ S5 (A j) (N j) (C j) (L j) wr hT.out.h1 hF1.out (fun wz ho => (HLJ.out wz (hT.out.belowL hB.out ho)).2) hm
                        have hdx := dc_all max mo mi AO AI (L j) sz hSY.out hF1.out.out hF2.out.inn hF1.out.hmost.2 m3' m1' m2'
                        have bx := enc_bytes hF1.out (L j)
                        have hxl : (szL sz ++ (encL mo AO (L j)).1).length ≤ 41000 := by
                          have h1 := encL_len mo (L j) AO m3'
                          have h2 := dszL_len sz
                          rw [List.length_append]; omega
                        have hfA := Fit.encL (L j) hF1.out.out
                        have hFE := hF1.out.enc (L j)
                        simp only at he bx hfA hFE
                        generalize (encL mo AO (L j)).2 = AO' at *
                        generalize szL sz ++ (encL mo AO (L j)).1 = X at *
                        have HDX := hide hdx
                        have HBX := hide bx
                        have HFA := hide hfA
                        have HFE := hide hFE
                        have nj' := nj
                        clear hZJ hm fj hdx bx hfA hFE m3' m2' m1'
                        generalize hLj : L j = Lj at *
                        generalize A j = aj at *
                        generalize N j = nn at *
                        generalize C j = cc at *
                        clear hLj
                        go_wp2_with fail
                        refine he.mono ?_
                        rintro e wy ⟨vy, rfl, howny, hoffy, S5', hSy, hNy, hCy⟩
                        have Ty := hide (hT.out.left hoffy hCy hSy)
                        have By := hide (hT.out.belowL hB.out hoffy)
                        have hqy : ∀ k, vy.ownBlock = some k → ¬ S6 k := fun k hk h => by have h1 := (howny.lt k hk).1; have h2 := hT.out.h2.hlt k h; omega
                        obtain ⟨ay, capy, rfl, hAy⟩ := argS_of (S := S6) rfl howny HBX.out hqy
                        have hd := hdecode_any c4 ⟨max, mi, max, [], AI, [], false⟩ S6 ay X.length capy X wy Ty.out.h2 hF2.out hAy rfl (by omega)
                        simp only [HDX.out] at hd
                        clear he howny hoffy hSy hNy hCy hqy hAy
                        go_wp2_with fail
                        refine hd.mono ?_
                        rintro e wz ⟨S6', hTz, hoz, hSz⟩
                        rcases hTz with ⟨h, _⟩ | ⟨_, _, vz, rfl, hownz, hNz, hCz, _⟩ | ⟨_, h, _⟩
                        · cases h
                        · have Tz := hide (Ty.out.right hoz hCz hSz)
                          have Bz := hide (Ty.out.belowR By.out hoz)
                          have hnj := HNJ.out
                          obtain ⟨az, capz, rfl, hFz⟩ := farg_of hnj (by rw [← hnj]; exact hownz)
                          obtain ⟨cz, fz⟩ := HLJ.out wz Bz.out
                          have hsf := sfields_any az aj nn capz cc Lj wz hFz fz nj'
                          clear hd hownz hNz hCz hoz hSz hFz fz hnj
                          go_wp2_with fail
                          refine hsf.mono ?_
                          rintro e wv ⟨rfl, hbv⟩
                          have PN : Hid (Pair max w.heap.size w wv c3 c4) := ⟨mo, AO', [], mo, AO', S5', S6', Tz.out.below hbv, HFE.out, ⟨hF2.out.out, HFA.out, hF2.out.hmost, hF2.out.hsz, hF2.out.hlast⟩, ⟨fun x hx => by simp at hx, Or.inl ⟨rfl, rfl, rfl⟩⟩, Bz.out.trans (hbv.mono Bz.out.size)⟩
                          clear hsf hbv
                          go_wp2
                          go_roundw
                          case rel => exact ⟨j + 1, by go_num, by omega, PN.out⟩
                          case measure => simp [intOf]; omega
                        · exact absurd rfl h
                · have dj1 : (j : Int) < (ll : Int) := by omega
                  have dj2 : ¬ (j : Int) < 20 := by omega
                  obtain ⟨mo, AO, sz, mi, AI, S5, S6, T, F1, F2, SY, BB⟩ := PJ.out
                  have hB := hide BB
                  clear T F1 F2 SY BB PJ
                  go_wp2
                  go_ret
                  exact ⟨rfl, hB.out⟩
              · have dj1 : ¬ (j : Int) < (ll : Int) := by omega
                obtain ⟨mo, AO, sz, mi, AI, S5, S6, T, F1, F2, SY, BB⟩ := PJ.out
                have hB := hide BB
                clear T F1 F2 SY BB PJ
                go_wp2
                go_ret
                exact ⟨rfl, hB.out⟩
          · exact absurd ⟨m0, m1⟩ hno
        · have B6 := hide (B5.out.trans (hb6.mono B5.out.size))
          have hn7 := hnew_any max w6 (HAL.out.below B6.out)
          clear hn6 hb6
          go_wp2_with fail
          refine hn7.mono ?_
          rintro e w7 ⟨⟨m0, m1, _⟩ | ⟨_, rfl⟩, hb7⟩
          · exact absurd ⟨m0, m1⟩ hno
          · have B7 := hide (B6.out.trans (hb7.mono B6.out.size))
            clear hn7 hb7
            go_wp2
            go_ret
            exact ⟨rfl, B7.out⟩
      · exact absurd rfl h
    · exact absurd (by decide) hno
  · exact absurd (by decide) hno
end Go.Proofs.YtkjfhgoddhigmacDoor
