/-
  WHERETO: the developers' Check. No claim by itself.
-/
import Derived.Test.YtmjdfbbhlbecdaaDoorWh3
namespace Go.Proofs.YtmjdfbbhlbecdaaDoor
open Go Go.RowKit
set_option maxRecDepth 100000
attribute [local go_sem] run_store_func run_store_nilFunc
theorem errW_zero : errW 0 = .nilIface := rfl
theorem errW_pos {n : Int} (h : n ≠ 0) : errW n = .iface 48 (.int .i64 n) := if_neg h
set_option maxHeartbeats 4000000 in
theorem wchk_row (g off len cap : Nat) (L : List Rb) (w : World) (hr : RtRow w g off len cap L) (hs : SzL L) :
    Calls Tryd.prog 8 #[.slice (some ⟨g, off, none⟩) len cap] w fun e w' => e = .returned (errW (chkR (rtsOf L))) ∧ Below w.heap.size w w' := by
  have HR := vl hr
  have HS := vl hs
  have hcap := hr.hcap
  have hmax := hr.hmax
  unfold maxLen at hmax
  have HL := vl hr.hlen
  clear hr hs
  by_cases h20 : 20 < len
  · have h20' : (20 : Int) < (len : Int) := by omega
    have e : chkR (rtsOf L) = 4 := by unfold chkR; rw [rts_len, HL.out, if_pos h20]
    rw [e]
    go_enter Tryd.func8, Tryd.ntmps8
    go_wp2_with fail
    go_ret
    exact ⟨rfl, Below.refl _ _⟩
  · have h20' : ¬ (20 : Int) < (len : Int) := by omega
    have e : chkR (rtsOf L) = chkGo [] (rtsOf L) := by unfold chkR; rw [rts_len, HL.out, if_neg h20]
    rw [e]
    clear e
    go_enter Tryd.func8, Tryd.ntmps8
    go_wp2_with fail
    go_loopw [12] (fun i wr => ∃ k : Nat, i = .int .i64 k ∧ k ≤ len ∧ Vl (chkGo ((rtsOf L).take k) ((rtsOf L).drop k) = chkGo [] (rtsOf L)) ∧ Vl (Below w.heap.size w wr)) (fun i _ => len - (intOf i).toNat)
    case atStart => exact ⟨0, rfl, by omega, rfl, Below.refl _ _⟩
    case round =>
      obtain ⟨k, rfl, hk, HK, HB⟩ := hrel
      by_cases hlt : k < len
      · have hlt' : (k : Int) < (len : Int) := by omega
        have hr2 := HR.out.below HB.out
        have c0 := hr2.h0 k hlt
        have c1 := hr2.h1 k hlt
        have c2 := hr2.h2 k hlt
        have hsz := HS.out k
        have HAT := vl (rts_at L k)
        have HST := vl (HK.out.symm.trans (chkGo_at (rtsOf L) k (by rw [rts_len, HL.out]; exact hlt)))
        rw [HAT.out] at HST
        generalize L.getD k rbn = f at *
        obtain ⟨x, y, z⟩ := f
        obtain ⟨W1, hW1⟩ : ∃ W1, W1 = wr.alloc (.cells #[.string x, .string y, .string z] 33) := ⟨_, rfl⟩
        have HB1 : Vl (Below w.heap.size w W1) := by rw [hW1]; exact HB.out.alloc HB.out.size _
        have HBX : Vl (RtBox W1 wr.heap.size (x, y, z)) := by rw [hW1]; exact rtbox_new wr x y z _
        have HCB := vl (wcb_any (some ⟨g, off, none⟩) k cap (L.take k) (x, y, z) W1.drew (Or.inr ⟨g, off, rfl, (HR.out.take (Nat.le_of_lt hlt)).below (HB1.out.trans ((Below.refl _ W1).drew.mono HB1.out.size))⟩) (by omega) (HS.out.take k) hsz)
        rw [rts_take] at HCB
        have HZ : Vl (∀ w1, Below W1.drew.heap.size W1.drew w1 → w1.cell? ⟨wr.heap.size, 0, none⟩ = some (.string x) ∧ w1.cell? ⟨wr.heap.size, 1, none⟩ = some (.string y) ∧ w1.cell? ⟨wr.heap.size, 2, none⟩ = some (.string z)) := fun w1 hb => HBX.out.below ((Below.refl _ W1).drew.trans hb) (by rw [hW1]; simp)
        obtain ⟨d0, d1, d2⟩ := HBX.out
        have hk0 : (0 : Int) ≤ (k : Int) := by omega
        have hkc : (k : Int) ≤ (cap : Int) := by omega
        have HBL : Vl (∀ w1, Below W1.drew.heap.size W1.drew w1 → Below w.heap.size w w1) := fun w1 hb => HB1.out.trans (((Below.refl _ W1).drew.trans hb).mono HB1.out.size)
        obtain ⟨E, hE⟩ : ∃ E, oneE ((rtsOf L).take k) (rtO (x, y, z)) = E := ⟨_, rfl⟩
        rw [hE] at HCB HST
        clear hE hsz hr2
        go_wp2_with fail
        rw [← hW1]
        have hsw : wr.heap.size < W1.heap.size := by rw [hW1]; simp
        clear hW1 c0 c1 c2
        go_region_held3 (fun w' => w'.cell? ⟨wr.heap.size, 0, none⟩ = some (.string x) ∧ w'.cell? ⟨wr.heap.size, 1, none⟩ = some (.string y) ∧ w'.cell? ⟨wr.heap.size, 2, none⟩ = some (.string z))
          (first | go_keep | (exact HZ.out _ hb))
          ((go_at_call 20; refine HCB.out.mono ?_; rintro e w1 ⟨rfl, hb⟩))
        have HB2 := vl (HBL.out w1 hb)
        clear hb HCB HZ d0 d1 d2 HBL
        by_cases e0 : E = 0
        · subst e0
          rw [if_pos rfl] at HST
          rw [errW_zero]
          go_wp2_with fail
          go_roundw
          case rel => exact ⟨k + 1, by go_num, by omega, HST.out.symm, HB2⟩
          case measure => simp [intOf]; omega
        · rw [if_neg e0] at HST
          rw [errW_pos e0]
          have HQ := vl (errW_pos e0)
          go_wp2_with fail
          go_ret
          refine ⟨?_, HB2.out⟩
          rw [HST.out, HQ.out]
          rfl
      · have hke : k = len := by omega
        subst hke
        have HT : Vl (chkGo [] (rtsOf L) = 0) := by
          have h := HK.out
          rw [show k = (rtsOf L).length from by rw [rts_len, HL.out], chkGo_end] at h
          exact h.symm
        go_wp2_with fail
        go_ret
        exact ⟨by rw [HT.out]; rfl, HB.out⟩
theorem wchk_any (a : Option Addr) (len cap : Nat) (L : List Rb) (w : World) (hA : RtArg w a len cap L) (hs : SzL L) :
    Calls Tryd.prog 8 #[.slice a len cap] w fun e w' => e = .returned (errW (chkR (rtsOf L))) ∧ Below w.heap.size w w' := by
  rcases hA with ⟨rfl, rfl⟩ | ⟨g, off, rfl, hr⟩
  · have e : chkR (rtsOf []) = 0 := rfl
    rw [e]
    go_enter Tryd.func8, Tryd.ntmps8
    go_wp2_with fail
    go_loopw [12] (fun i wr => i = .int .i64 0 ∧ wr = w) (fun _ _ => 0)
    case atStart => exact ⟨rfl, rfl⟩
    case round =>
      obtain ⟨rfl, rfl⟩ := hrel
      go_wp2_with fail
      go_ret
      exact ⟨rfl, Below.refl _ _⟩
  · exact wchk_row g off len cap L w hr hs
end Go.Proofs.YtmjdfbbhlbecdaaDoor
