/-
  WHERETO: RouteParses, over what the document's ParseRoutes and the developers' Parse do. No claim by itself.
-/
import Derived.Test.YtmjdfbbhlbecdaaDoorWh13
import Derived.Test.YtmjdfbbhlbecdaaDoorWr5
import Derived.Test.YtmjdfbbhlbecdaaDoorWsame
import Derived.Test.YtmjdfbbhlbecdaaDoorTold
namespace Go.Proofs.YtmjdfbbhlbecdaaDoor
open Go Go.RowKit
set_option maxRecDepth 100000
theorem perr_any (er : Int) (w : World) (hg : Laid w) : Calls Tryd.prog 7 #[errW er, .int .i64 er] w fun e w' => e = .returned (.bool true) ∧ Below w.heap.size w w' := by
  by_cases h : er = 0
  · subst h
    rw [errW_zero]
    refine (error_nil 0 w).mono ?_
    rintro e w' ⟨rfl, rfl⟩
    exact ⟨rfl, Below.refl _ _⟩
  · rw [errW_pos h]
    refine (error_hit er er w hg).mono ?_
    rintro e w' ⟨rfl, hb⟩
    exact ⟨by simp, hb⟩
theorem rparses_ok (text : ByteArray) (w : World) (hg : Laid w) (hs : text.size ≤ 1048576) :
    Calls Tryd.prog 4 #[.string text] w fun e w' => e = .returned (.bool true) ∧ Below w.heap.size w w' := by
  have HG := vl hg
  have H1 := vl (rparse_any text w hs)
  have H2 := vl (fun W => wparse_any text W (by omega))
  clear hg
  go_enter Tryd.func4, Tryd.ntmps4
  go_wp2_with fail
  refine H1.out.mono ?_
  rintro e w1 ⟨⟨L1, sa1, sc1, k1, e1, rfl, hA1, hp1⟩, hb1⟩
  have HB1 := vl hb1
  have HA1 := vl hA1
  have HP1 := vl hp1
  clear hb1 hA1 hp1 H1
  go_wp2_with fail
  refine (H2.out _).mono ?_
  rintro e w2 ⟨⟨L2, sa2, sc2, k2, e2, rfl, hA2, _, hp2⟩, hb2⟩
  obtain ⟨he, hL, hk⟩ : e1 = e2 ∧ L1 = L2 ∧ k1 = k2 := by
    rw [HP1.out] at hp2
    have h1 := (Prod.mk.inj hp2).1
    have h2 := (Prod.mk.inj (Prod.mk.inj hp2).2)
    exact ⟨h1, rts_inj h2.1, h2.2⟩
  subst he hL hk
  have HB2 := vl (HB1.out.trans (hb2.mono HB1.out.size))
  have HX := vl (perr_any e1 w2 (HG.out.below HB2.out))
  have HA1' := vl (HA1.out.below hb2)
  have HA2 := vl hA2
  clear hb2 hp2 hA2
  go_wp2_with fail
  refine HX.out.mono ?_
  rintro e w3 ⟨rfl, hb3⟩
  have HB3 := vl (HB2.out.trans (hb3.mono HB2.out.size))
  have HS := vl (ssame_any sa2 sa1 L1.length sc2 sc1 L1 w3 (HA2.out.below hb3) (HA1'.out.below hb3))
  clear hb3 HX
  go_wp2_with fail
  refine HS.out.mono ?_
  rintro e w4 ⟨rfl, hb4⟩
  have HB4 := vl (HB3.out.trans (hb4.mono HB3.out.size))
  clear hb4 HS
  go_wp2_with fail
  go_ret
  exact ⟨by first | rfl | simp, HB4.out⟩
end Go.Proofs.YtmjdfbbhlbecdaaDoor
