/-
  THE WALK of the Go function tolllaw1.HeadTexts, its callees by their contracts. No claim by itself.
-/
import Derived.Test.YtkjfhgoddhigmabDoorHspec
import Derived.Test.YtkjfhgoddhigmabDoorRread2
import Derived.Test.YtkjfhgoddhigmabDoorTold
namespace Go.Proofs.YtkjfhgoddhigmabDoor
open Go.RowKit
set_option maxRecDepth 100000
theorem made_own {w w' : World} {s : ByteArray} {v : Value} {k : Int} (h : TextMade w w' s v k) : ∃ L : List Int, w'.ownsRow w.heap.size 5 1 v L.length (L.map (Value.int .u8)) ∧ ((s.size ≤ 400 ∧ k = 0 ∧ L = txtL (nums s)) ∨ (400 < s.size ∧ k = 4 ∧ L = [])) := by
  rcases h with ⟨h1, h2, h3⟩ | ⟨h1, h2, rfl⟩
  · exact ⟨_, h3, Or.inl ⟨h1, h2, rfl⟩⟩
  · exact ⟨[], World.ownsRow_nil _ _ _ _, Or.inr ⟨h1, h2, rfl⟩⟩
/-- tollsame.Error, at whatever error, held against its number. -/
theorem error_any (k : Int) (x : Value) (w : World) (hg : Laid w) (h : Err k x) : Calls Tryd.prog 8 #[x, .int .i64 k] w fun e w' => e = .returned (.bool true) ∧ Below w.heap.size w w' := by
  rcases h with ⟨rfl, rfl⟩ | ⟨_, rfl⟩
  · refine (error_nil 0 w).mono ?_
    rintro e w' ⟨rfl, rfl⟩
    exact ⟨rfl, Below.refl _ _⟩
  · refine (error_hit k k w hg).mono ?_
    rintro e w' ⟨rfl, hb⟩
    exact ⟨by simp, hb⟩
set_option maxHeartbeats 4000000 in
theorem htexts_ok (hT : HTextSaid) (hR : HReadSaid) (s : ByteArray) (a : Option Addr) (len cap : Nat) (Z : List Int) (w : World) (hg : Laid w) (hA : Arg w a len cap Z) (hl : len ≤ 140737488351232) :
    Calls Tryd.prog 6 #[.string s, .slice a len cap] w fun e w' => e = .returned (.bool true) ∧ Below w.heap.size w w' := by
  have HG : Hid (∀ wx, Below w.heap.size w wx → Laid wx) := fun wx hb => hg.below hb
  have HA : Hid (∀ wx, Below w.heap.size w wx → Arg wx a len cap Z) := fun wx hb => hA.below hb
  clear hg hA
  go_enter Tryd.func6, Tryd.ntmps6
  go_wp2_with fail
  refine (rtext_any s w).mono ?_
  rintro e w1 ⟨⟨v1, k1, rfl, hm1⟩, hb1⟩
  have s1 := hb1.size
  obtain ⟨L, ho1, hL⟩ := made_own hm1
  have HO1 := hide ho1
  clear hm1 ho1
  go_wp2_with fail
  refine (hT s w1).mono ?_
  rintro e w2 ⟨hb2, v2, x2, rfl, hm2⟩
  have s2 := hb2.size
  have hB2 := hb1.trans (hb2.mono s1)
  obtain ⟨hx2, hM2⟩ : Err k1 x2 ∧ Made w2 w1.heap.size v2 L.length L := by
    rcases hL with ⟨h1, rfl, rfl⟩ | ⟨h1, rfl, rfl⟩ <;> rcases hm2 with ⟨h2, h3, h4⟩ | ⟨h2, h3, h4⟩
    · exact ⟨h3, h4⟩
    · omega
    · omega
    · exact ⟨h3, h4⟩
  have HM2 := hide hM2
  clear hm2 hM2 hL
  go_wp2_with fail
  refine (error_any k1 x2 w2 (HG.out w2 hB2) hx2).mono ?_
  rintro e w3 ⟨rfl, hb3⟩
  have s3 := hb3.size
  have hB3 := hB2.trans (hb3.mono (by omega))
  clear hx2
  go_wp2_with fail
  refine (rread_any a len cap Z w3 (HA.out w3 hB3) (by omega)).mono ?_
  rintro e w4 ⟨rfl, hb4⟩
  have s4 := hb4.size
  have hB4 := hB3.trans (hb4.mono (by omega))
  unfold rval
  obtain ⟨t, u, k, hq⟩ : ∃ t u k, rtF Z = (t, u, k) := ⟨_, _, _, rfl⟩
  have hR4 := hR a len cap Z w4 (HA.out w4 hB4) hl
  rw [hq] at hR4
  rw [hq]
  simp only at hR4 ⊢
  go_wp2_with fail
  refine hR4.mono ?_
  rintro e w5 ⟨hb5, x5, rfl, hx5⟩
  have s5 := hb5.size
  have hB5 := hB4.trans (hb5.mono (by omega))
  clear hR4
  go_wp2_with fail
  refine (error_any k x5 w5 (HG.out w5 hB5) hx5).mono ?_
  rintro e w6 ⟨rfl, hb6⟩
  have hB6 := hB5.trans (hb6.mono (by omega))
  have cv1 := string_made ((((HM2.out.below hb3).below (hb4.mono (by omega))).below (hb5.mono (by omega))).below (hb6.mono (by omega)))
  have cv2 := string_of_own rfl (own_below (own_below (own_below (own_below (own_below HO1.out hb2) (hb3.mono (by omega))) (hb4.mono (by omega))) (hb5.mono (by omega))) (hb6.mono (by omega)))
  generalize strOfNums L = S at *
  generalize strOfNums t = T at *
  clear hx5 hq
  go_wp2
  go_ret
  exact ⟨by simp, hB6⟩
end Go.Proofs.YtkjfhgoddhigmabDoor
