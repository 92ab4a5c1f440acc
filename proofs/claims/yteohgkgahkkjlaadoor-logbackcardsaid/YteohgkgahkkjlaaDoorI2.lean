/-
  WHAT WAS DONE: checkAll, walked. No claim by itself.
-/
import Derived.Test.YteohgkgahkkjlaaDoorI1
namespace Go.Proofs.YteohgkgahkkjlaaDoor
open Go Go.RowKit
set_option maxRecDepth 100000
theorem gerr_zero : errW 0 = .nilIface := if_pos rfl
set_option maxHeartbeats 4000000 in
theorem gchka_row (g off len cap : Nat) (L : List Et) (w : World) (hr : EtRow w g off len cap L) (hs : SzE L) :
    Calls Tryd.prog 16 #[.slice (some ⟨g, off, none⟩) len cap] w fun e w' => e = .returned (errW (chkL L)) ∧ Below w.heap.size w w' := by
  have HR := vl hr
  have HS := vl hs
  have HL := vl hr.hlen
  have hcap := hr.hcap
  have hmax := hr.hmax
  unfold maxLen at hmax
  clear hr hs
  by_cases hbig : 1000 < len
  · have hbig' : (1000 : Int) < (len : Int) := by omega
    have HQ : Vl (Ending.returned (Value.iface 39 (.int .i64 4)) = .returned (errW (chkL L))) := vl (by unfold chkL; rw [if_pos (by rw [HL.out]; exact hbig), gerr_pos (by decide)])
    go_enter Tryd.func16, Tryd.ntmps16
    go_wp2_with fail
    go_ret
    exact ⟨HQ.out, Below.refl _ _⟩
  · have hbig' : ¬ ((1000 : Int) < (len : Int)) := by omega
    have HC : Vl (chkL L = chkA L) := vl (by unfold chkL; rw [if_neg (by rw [HL.out]; exact hbig)])
    rw [HC.out]
    clear HC
    go_enter Tryd.func16, Tryd.ntmps16
    go_wp2_with fail
    go_loopw [12] (fun i wr => ∃ k : Nat, i = .int .i64 k ∧ k ≤ len ∧ Vl (∀ t, t < k → chkT (L.getD t etn) = 0) ∧ Vl (Below w.heap.size w wr)) (fun i _ => len - (intOf i).toNat)
    case atStart => exact ⟨0, rfl, by omega, vl (fun t ht => by omega), vl (Below.refl _ _)⟩
    case round =>
      obtain ⟨k, rfl, hk, HK, HB⟩ := hrel
      by_cases hlt : k < len
      · have hlt' : (k : Int) < (len : Int) := by omega
        have hr2 := HR.out.below HB.out
        have c0 := hr2.h0 k hlt
        have c1 := hr2.h1 k hlt
        have c2 := hr2.h2 k hlt
        have c3 := hr2.h3 k hlt
        have c4 := hr2.h4 k hlt
        have c5 := hr2.h5 k hlt
        have hz := HS.out k
        have HAT := vl (chkA_at L k (by rw [HL.out]; exact hlt) HK.out)
        have HK2 : Vl (chkT (L.getD k etn) = 0 → ∀ t, t < k + 1 → chkT (L.getD t etn) = 0) := vl (fun h t ht => by
          by_cases e : t = k
          · rw [e]; exact h
          · exact HK.out t (by omega))
        clear hr2
        generalize L.getD k etn = f at *
        obtain ⟨t, c, b, q, m, p⟩ := f
        simp only at c0 c1 c2 c3 c4 c5
        have HZ3 : Vl (EnB (wr.alloc (.cells #[.int .i64 0, .int .i64 0, .int .i64 0, .int .i64 0, .string ⟨#[]⟩, .string ⟨#[]⟩] 23)) wr.heap.size 0 0 0 0 ⟨#[]⟩ ⟨#[]⟩) := vl (heap_alloc_new wr _)
        go_wp2_with (refine wpList_enstore _ rfl _ _ rfl wr.heap.size _ _ _ _ t c b q _ _ m p rfl rfl HZ3.out ?_)
        intro w3 hR3 hg3
        have HB3 : Vl (Below w.heap.size w w3) := vl (gbelow_grown (HB.out.alloc HB.out.size _) hg3 (Nat.le_trans HB.out.size (by simp)) (fun k hk => by cases hk; exact HB.out.size))
        obtain ⟨d0, d1, d2, d3, d4, d5⟩ := hR3.cells
        have HCK := vl (gchk_any t c b q m p w3 hz.1 hz.2)
        unfold entV at HCK
        clear hR3 hg3 HZ3 c0 c1 c2 c3 c4 c5 hz
        go_wp2_with fail
        refine HCK.out.mono ?_
        rintro _ w4 ⟨rfl, hb4⟩
        have HB4 := vl (HB3.out.trans (hb4.mono HB3.out.size))
        clear hb4 d0 d1 d2 d3 d4 d5 HCK HB3
        by_cases h0 : chkE t c b q (unums m) (unums p) = 0
        · have HK3 := vl (HK2.out h0)
          rw [h0, gerr_zero]
          go_wp2_with fail
          go_roundw
          case rel => exact ⟨k + 1, by go_num, by omega, HK3, HB4⟩
          case measure => simp [intOf]; omega
        · have HQ := vl (HAT.out h0)
          have hq : chkA L = chkE t c b q (unums m) (unums p) := HQ.out
          have HFIN : Vl (Ending.returned (Value.iface 39 (.int .i64 (chkE t c b q (unums m) (unums p)))) = .returned (errW (chkA L))) := vl (by rw [hq, gerr_pos h0])
          rw [gerr_pos h0]
          clear HAT HK2 HQ hq h0
          generalize chkE t c b q (unums m) (unums p) = E at *
          go_wp2_with fail
          go_ret
          exact ⟨HFIN.out, HB4.out⟩
      · have hlt' : ¬ (k : Int) < (len : Int) := by omega
        have HQ := vl (chkA_no L (fun t ht => HK.out t (by rw [HL.out] at ht; omega)))
        have HFIN : Vl (Ending.returned Value.nilIface = .returned (errW (chkA L))) := vl (by rw [HQ.out, gerr_zero])
        clear HQ
        go_wp2_with fail
        go_ret
        exact ⟨HFIN.out, HB.out⟩
theorem gchka_any (a : Option Addr) (len cap : Nat) (L : List Et) (w : World) (hA : EtArg w a len cap L) (hs : SzE L) :
    Calls Tryd.prog 16 #[.slice a len cap] w fun e w' => e = .returned (errW (chkL L)) ∧ Below w.heap.size w w' := by
  rcases hA with ⟨rfl, rfl⟩ | ⟨g, off, rfl, hr⟩
  · have e : chkL [] = 0 := rfl
    rw [e, gerr_zero]
    go_enter Tryd.func16, Tryd.ntmps16
    go_wp2_with fail
    refine wp_loop_rounds 1 ?_
    rw [rounds_succ]
    go_wp2_with fail
    go_ret
    exact ⟨rfl, Below.refl _ _⟩
  · exact gchka_row g off len cap L w hr hs
end Go.Proofs.YteohgkgahkkjlaaDoor
