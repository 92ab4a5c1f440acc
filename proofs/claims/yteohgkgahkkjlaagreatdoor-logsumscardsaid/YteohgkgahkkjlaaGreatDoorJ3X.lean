/-
  WHAT WAS DONE: the document's answer, entries. No claim by itself.
-/
import Derived.Test.YteohgkgahkkjlaaGreatDoorMI
import Derived.Test.YteohgkgahkkjlaaGreatDoorH1
namespace Go.Proofs.YteohgkgahkkjlaaGreatDoor
open Go Go.RowKit
set_option maxRecDepth 100000
set_option maxHeartbeats 4000000 in
theorem rents_row (g off len cap : Nat) (L : List Et) (w : World) (hr : EtRow w g off len cap L) (hs : SzE L) :
    Calls Tryz.prog 11 #[.slice (some ⟨g, off, none⟩) len cap] w fun e w' => e = .returned (.int .i64 (chkL L)) ∧ Below w.heap.size w w' := by
  have HR := vl hr
  have HS := vl hs
  have HL := vl hr.hlen
  have hcap := hr.hcap
  have hmax := hr.hmax
  unfold maxLen at hmax
  clear hr hs
  by_cases hbig : 1000 < len
  · have hbig' : (1000 : Int) < (len : Int) := by omega
    have HQ : Vl (chkL L = 4) := vl (by unfold chkL; rw [if_pos (by rw [HL.out]; exact hbig)])
    rw [HQ.out]
    go_enter Tryz.func11, Tryz.ntmps11
    go_wp2_with fail
    go_ret
    exact ⟨rfl, Below.refl _ _⟩
  · have hbig' : ¬ ((1000 : Int) < (len : Int)) := by omega
    have HC : Vl (chkL L = chkA L) := vl (by unfold chkL; rw [if_neg (by rw [HL.out]; exact hbig)])
    rw [HC.out]
    clear HC
    go_enter Tryz.func11, Tryz.ntmps11
    go_wp2_with fail
    go_loopw [3, 4] (fun i _ wr => ∃ k : Nat, i = .int .i64 k ∧ k ≤ len ∧ Vl (∀ t, t < k → chkT (L.getD t etn) = 0) ∧ Vl (Below w.heap.size w wr)) (fun i _ _ => len - (intOf i).toNat)
    case atStart => exact ⟨0, rfl, by omega, vl (fun t ht => by omega), vl (Below.refl _ _)⟩
    case round =>
      obtain ⟨k, rfl, hk, HK, HB⟩ := hrel
      by_cases hlt : k < len
      · have hlt' : (k : Int) < (len : Int) := by omega
        have hr2 := HR.out.below HB.out
        have c0 := hr2.h0 k hlt
        have c1 := hr2.h1 k hlt
        have c2 := hr2.h2 k hlt
        have c3 := hr2.h3 k hlt
        have c4 := hr2.h4 k hlt
        have c5 := hr2.h5 k hlt
        have hz := HS.out k
        have HAT := vl (chkA_at L k (by rw [HL.out]; exact hlt) HK.out)
        have HK2 : Vl (chkT (L.getD k etn) = 0 → ∀ t, t < k + 1 → chkT (L.getD t etn) = 0) := vl (fun h t ht => by
          by_cases e : t = k
          · rw [e]; exact h
          · exact HK.out t (by omega))
        clear hr2
        generalize L.getD k etn = f at *
        obtain ⟨t, c, b, q, m, p⟩ := f
        simp only at c0 c1 c2 c3 c4 c5
        have HCK := vl (rent_any t c b q m p wr hz.1 hz.2)
        unfold entV at HCK
        clear hz
        go_wp2_with fail
        refine HCK.out.mono ?_
        rintro _ w4 ⟨rfl, hb4⟩
        have HB4 := vl (HB.out.trans (hb4.mono HB.out.size))
        clear hb4 c0 c1 c2 c3 c4 c5 HCK HB
        by_cases h0 : chkE t c b q (unums m) (unums p) = 0
        · have HK3 := vl (HK2.out h0)
          rw [h0]
          go_wp2_with fail
          go_roundw
          case rel => exact ⟨k + 1, by go_num, by omega, HK3, HB4⟩
          case measure => simp [intOf]; omega
        · have HQ := vl (HAT.out h0)
          have hq : chkA L = chkE t c b q (unums m) (unums p) := HQ.out
          have HFIN : Vl (Ending.returned (Value.int .i64 (chkE t c b q (unums m) (unums p))) = .returned (.int .i64 (chkA L))) := vl (by rw [hq])
          have h0' : (chkE t c b q (unums m) (unums p) == 0) = false := by simpa using h0
          clear HAT HK2 HQ hq
          generalize chkE t c b q (unums m) (unums p) = E at *
          go_wp2_with fail
          go_ret
          exact ⟨HFIN.out, HB4.out⟩
      · have hlt' : ¬ (k : Int) < (len : Int) := by omega
        have HQ := vl (chkA_no L (fun t ht => HK.out t (by rw [HL.out] at ht; omega)))
        have HFIN : Vl (Ending.returned (Value.int .i64 0) = .returned (.int .i64 (chkA L))) := vl (by rw [HQ.out])
        clear HQ
        go_wp2_with fail
        go_ret
        exact ⟨HFIN.out, HB.out⟩
theorem rents_any (a : Option Addr) (len cap : Nat) (L : List Et) (w : World) (hA : EtArg w a len cap L) (hs : SzE L) :
    Calls Tryz.prog 11 #[.slice a len cap] w fun e w' => e = .returned (.int .i64 (chkL L)) ∧ Below w.heap.size w w' := by
  rcases hA with ⟨rfl, rfl⟩ | ⟨g, off, rfl, hr⟩
  · have e : chkL [] = 0 := rfl
    rw [e]
    go_enter Tryz.func11, Tryz.ntmps11
    go_wp2_with fail
    refine wp_loop_rounds 1 ?_
    rw [rounds_succ]
    go_wp2_with fail
    go_ret
    exact ⟨rfl, Below.refl _ _⟩
  · exact rents_row g off len cap L w hr hs
end Go.Proofs.YteohgkgahkkjlaaGreatDoor
