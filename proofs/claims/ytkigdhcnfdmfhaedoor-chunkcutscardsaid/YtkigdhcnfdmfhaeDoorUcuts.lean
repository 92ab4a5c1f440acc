/-
  THE WALK of the Go function tolllaw2.ChunkCuts, its callees by their contracts. No claim by itself.
-/
import Derived.Test.YtkigdhcnfdmfhaeDoorRunch
import Derived.Test.YtkigdhcnfdmfhaeDoorUback
namespace Go.Proofs.YtkigdhcnfdmfhaeDoor
open Go.RowKit
set_option maxRecDepth 100000
/-- An error, held against its number. -/
theorem error_w (n : Int) (w : World) (hg : Laid w) : Calls Tryd.prog 6 #[errW n, .int .i64 n] w fun e w' => e = .returned (.bool true) ∧ Below w.heap.size w w' := by
  unfold errW
  by_cases h : n = 0
  · rw [if_pos h]
    refine (error_nil n w).mono ?_
    rintro e w' ⟨rfl, rfl⟩
    exact ⟨by rw [h]; rfl, Below.refl _ _⟩
  · rw [if_neg h]
    refine (error_hit n n w hg).mono ?_
    rintro e w' ⟨rfl, hb⟩
    exact ⟨by simp, hb⟩
set_option maxHeartbeats 4000000 in
theorem ucuts_ok (hE : UEncSaid) (hD : UDecSaid) (a : Option Addr) (len cap : Nat) (B : List Int) (size : Int) (a2 : Option Addr) (len2 cap2 : Nat) (Z : List Int) (w : World) (hA : Arg w a len cap B) (hA2 : Arg w a2 len2 cap2 Z) (hi : I64 size) (hl2 : len2 ≤ 281474976710656) (hg : Laid w) (hu : ULaid w) :
    Calls Tryd.prog 4 #[.slice a len cap, .int .i64 size, .slice a2 len2 cap2] w fun e w' => e = .returned (.bool true) ∧ Below w.heap.size w w' := by
  have H1 := vl (rchunks_any a len cap B size w hA hi)
  have HE := vl hE
  have HD := vl hD
  have HA := vl hA
  have HA2 := vl hA2
  have HI := vl hi
  have HG := vl hg
  have HU := vl hu
  obtain ⟨ec, hec⟩ : ∃ ec, (chunksF B size).1 = ec := ⟨_, rfl⟩
  obtain ⟨CL, hCL⟩ : ∃ CL, (chunksF B size).2 = CL := ⟨_, rfl⟩
  rw [hec, hCL] at H1
  have HEC := vl hec
  have HCL := vl hCL
  clear hE hD hA hA2 hi hg hu hec hCL
  go_enter Tryd.func4, Tryd.ntmps4
  go_wp2_with fail
  refine H1.out.mono ?_
  rintro e w1 ⟨v1, rfl, ho1, hb1⟩
  have HO1 := vl ho1
  have HB1 := vl hb1
  have H2 := vl (HE.out a len cap B size w1 (HA.out.below hb1) HI.out (HU.out.below hb1))
  rw [HEC.out, HCL.out] at H2
  obtain ⟨ev, hev⟩ : ∃ ev, errW ec = ev := ⟨_, rfl⟩
  rw [hev] at H2
  have HEV := vl hev
  clear H1 ho1 hb1 hev
  go_wp2_with fail
  refine H2.out.mono ?_
  rintro e w2 ⟨v2, rfl, ho2, hb2⟩
  have HB2 := vl (HB1.out.trans (hb2.mono HB1.out.size))
  have HO12 := vl (HO1.out.below hb2)
  have HO2 := vl ho2
  have H3 := vl (error_w ec w2 (HG.out.below HB2.out))
  rw [HEV.out] at H3
  clear H2 ho2 hb2 HO1 HB1
  go_wp2_with fail
  refine H3.out.mono ?_
  rintro e w3 ⟨rfl, hb3⟩
  have HB3 := vl (HB2.out.trans (hb3.mono HB2.out.size))
  have HO13 := vl (HO12.out.below hb3)
  have HO23 := vl (HO2.out.below hb3)
  have H4 := vl (runch_any a2 len2 cap2 Z w3 (HA2.out.below HB3.out) hl2)
  unfold UnV at H4
  obtain ⟨e4, he4⟩ : ∃ e4, (unchF Z).1 = e4 := ⟨_, rfl⟩
  obtain ⟨b4, hb4⟩ : ∃ b4, (unchF Z).2.1 = b4 := ⟨_, rfl⟩
  obtain ⟨u4, hu4⟩ : ∃ u4, (unchF Z).2.2 = u4 := ⟨_, rfl⟩
  rw [he4, hb4, hu4] at H4
  have HE4 := vl he4
  have HB4 := vl hb4
  have HU4 := vl hu4
  clear H3 hb3 HO12 HO2 HB2 he4 hb4 hu4
  go_wp2_with fail
  refine H4.out.mono ?_
  rintro e w4 ⟨v4, rfl, ho4, hb4⟩
  have HBB4 := vl (HB3.out.trans (hb4.mono HB3.out.size))
  have HO14 := vl (HO13.out.below hb4)
  have HO24 := vl (HO23.out.below hb4)
  have HO4 := vl ho4
  have H5 := vl (HD.out a2 len2 cap2 Z w4 (HA2.out.below HBB4.out) (by unfold ULim; omega))
  rw [HE4.out, HB4.out, HU4.out] at H5
  obtain ⟨ew, hew⟩ : ∃ ew, errW e4 = ew := ⟨_, rfl⟩
  rw [hew] at H5
  have HEW := vl hew
  clear H4 ho4 hb4 HO13 HO23 HB3 hew
  go_wp2_with fail
  refine H5.out.mono ?_
  rintro e w5 ⟨v5, rfl, ho5, hb5⟩
  have HB5 := vl (HBB4.out.trans (hb5.mono HBB4.out.size))
  have HO15 := vl (HO14.out.below hb5)
  have HO25 := vl (HO24.out.below hb5)
  have HO45 := vl (HO4.out.below hb5)
  have HO5 := vl ho5
  have H6 := vl (error_w e4 w5 (HG.out.below HB5.out))
  rw [HEW.out] at H6
  clear H5 ho5 hb5 HO14 HO24 HO4 HBB4
  go_wp2_with fail
  refine H6.out.mono ?_
  rintro e w6 ⟨rfl, hb6⟩
  have HB6 := vl (HB5.out.trans (hb6.mono HB5.out.size))
  have t1 := (HO15.out.below hb6).text
  have t2 := (HO25.out.below hb6).text
  have t3 := (HO45.out.below hb6).text
  have t4 := (HO5.out.below hb6).text
  generalize strOfNums CL = S1 at *
  generalize strOfNums b4 = S2 at *
  clear H6 hb6 HO15 HO25 HO45 HO5 HB5
  go_wp2
  go_ret
  exact ⟨by simp, HB6.out⟩
end Go.Proofs.YtkigdhcnfdmfhaeDoor
