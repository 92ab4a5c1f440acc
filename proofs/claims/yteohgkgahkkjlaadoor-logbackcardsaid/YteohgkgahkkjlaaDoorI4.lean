/-
  WHAT WAS DONE: Sum, walked. No claim by itself.
-/
import Derived.Test.YteohgkgahkkjlaaDoorI3
namespace Go.Proofs.YteohgkgahkkjlaaDoor
open Go Go.RowKit
set_option maxRecDepth 100000
/-- How far it has summed. -/
def SmI (L : List Et) (a b : Int) (k : Nat) (N B X : Int) : Prop := N = sumF (fN a b) (L.take k) ∧ B = sumF (fB a b) (L.take k) ∧ X = sumF (fX a b) (L.take k)
theorem smi_zero (L : List Et) (a b : Int) : SmI L a b 0 0 0 0 := ⟨rfl, rfl, rfl⟩
theorem smi_out {L : List Et} {a b : Int} {k : Nat} {N B X : Int} (h : SmI L a b k N B X) (hk : k < L.length) (hi : inS a b (L.getD k etn) = false) : SmI L a b (k + 1) N B X := by
  obtain ⟨h1, h2, h3⟩ := h
  refine ⟨?_, ?_, ?_⟩ <;> rw [sumF_more _ hk]
  · unfold fN; rw [hi]; simp; exact h1
  · unfold fB; rw [hi]; simp; exact h2
  · unfold fX; rw [hi]; simp; exact h3
theorem smi_in {L : List Et} {a b : Int} {k : Nat} {N B X : Int} (h : SmI L a b k N B X) (hk : k < L.length) (hi : inS a b (L.getD k etn) = true) : SmI L a b (k + 1) (N + 1) (B + (L.getD k etn).b) (X + if 500 ≤ (L.getD k etn).c then 1 else 0) := by
  obtain ⟨h1, h2, h3⟩ := h
  refine ⟨?_, ?_, ?_⟩ <;> rw [sumF_more _ hk]
  · rw [← h1]; unfold fN; rw [hi]; simp
  · rw [← h2]; unfold fB; rw [hi]; simp
  · rw [← h3]; unfold fX; rw [hi]; simp
set_option maxHeartbeats 8000000 in
theorem gsum_row (g off len cap : Nat) (L : List Et) (a b : Int) (w : World) (hr : EtRow w g off len cap L) (hs : SzE L) :
    Calls Tryd.prog 7 #[.slice (some ⟨g, off, none⟩) len cap, .int .i64 a, .int .i64 b] w fun e w' => SumP L a b e ∧ Below w.heap.size w w' := by
  obtain ⟨W1, hW1⟩ : ∃ W1, W1 = (w.alloc (.cells #[.int .i64 a] 3)).alloc (.cells #[.int .i64 b] 3) := ⟨_, rfl⟩
  have HB1 : Vl (Below w.heap.size w W1) := by rw [hW1]; exact ((Below.refl _ w).alloc (Nat.le_refl _) _).alloc (by simp) _
  have ca : W1.cell? ⟨w.heap.size, 0, none⟩ = some (.int .i64 a) := by
    rw [hW1]
    simp only [World.cell?]
    rw [heap_alloc_old _ _ (by simp), heap_alloc_new]
    rfl
  have cb : W1.cell? ⟨w.heap.size + 1, 0, none⟩ = some (.int .i64 b) := by
    have h := heap_alloc_new (w.alloc (.cells #[.int .i64 a] 3)) (.cells #[.int .i64 b] 3)
    rw [World.size_alloc] at h
    rw [hW1]
    simp only [World.cell?, h]
    rfl
  have HR := vl hr
  have HS := vl hs
  have HL := vl hr.hlen
  have hcap := hr.hcap
  have hmax := hr.hmax
  unfold maxLen at hmax
  have HCA := vl ca
  have HCB := vl cb
  have HC := vl (gchka_any (some ⟨g, off, none⟩) len cap L W1 (Or.inr ⟨g, off, rfl, hr.below HB1.out⟩) hs)
  clear hr hs ca cb
  by_cases h0 : chkL L = 0
  · have hok := chkL_ok h0
    have hlen : len ≤ 1000 := by rw [HL.out] at hok; exact hok.1
    have HOK := vl hok.2
    rw [h0, gerr_zero] at HC
    have HFIN : Vl (∀ N B X, SmI L a b len N B X → SumP L a b (.returned (.tuple #[.int .i64 N, .int .i64 B, .int .i64 X, .nilIface]))) := vl (fun N B X h => Or.inl ⟨h0, by
      obtain ⟨h1, h2, h3⟩ := h
      rw [List.take_of_length_le (by rw [HL.out]; exact Nat.le_refl _)] at h1 h2 h3
      rw [h1, h2, h3]⟩)
    clear hok h0
    go_enter Tryd.func7, Tryd.ntmps7
    go_wp2_with fail
    rw [← hW1]
    clear hW1
    refine HC.out.mono ?_
    rintro _ w2 ⟨rfl, hb2⟩
    have HB2 := vl (HB1.out.trans (hb2.mono HB1.out.size))
    have HCA2 : Vl (w2.cell? ⟨w.heap.size, 0, none⟩ = some (.int .i64 a)) := vl ((hb2.cell (p := ⟨w.heap.size, 0, none⟩) (eblk_of_cell HCA.out)).trans HCA.out)
    have HCB2 : Vl (w2.cell? ⟨w.heap.size + 1, 0, none⟩ = some (.int .i64 b)) := vl ((hb2.cell (p := ⟨w.heap.size + 1, 0, none⟩) (eblk_of_cell HCB.out)).trans HCB.out)
    clear hb2 HC HB1 HCA HCB
    go_wp2_with fail
    go_loopw [6, 7, 8, 21] (fun n y x i wr => ∃ (k : Nat) (N B X : Int), n = .int .i64 N ∧ y = .int .i64 B ∧ x = .int .i64 X ∧ i = .int .i64 k ∧ k ≤ len ∧ (0 ≤ N ∧ N ≤ 1000000000) ∧ (0 ≤ B ∧ B ≤ 1000000 * (k : Int)) ∧ (0 ≤ X ∧ X ≤ 1000000000) ∧ Vl (N ≤ (k : Int) ∧ X ≤ (k : Int)) ∧ Vl (SmI L a b k N B X) ∧ Vl (wr.cell? ⟨w.heap.size, 0, none⟩ = some (.int .i64 a)) ∧ Vl (wr.cell? ⟨w.heap.size + 1, 0, none⟩ = some (.int .i64 b)) ∧ Vl (Below w.heap.size w wr)) (fun _ _ _ i _ => len - (intOf i).toNat)
    case atStart => exact ⟨0, 0, 0, 0, rfl, rfl, rfl, rfl, by omega, ⟨by omega, by omega⟩, ⟨by omega, by omega⟩, ⟨by omega, by omega⟩, vl ⟨by omega, by omega⟩, vl (smi_zero L a b), HCA2, HCB2, HB2⟩
    case round =>
      obtain ⟨k, N, B, X, rfl, rfl, rfl, rfl, hk, ⟨n1, n2⟩, ⟨b1, b2⟩, ⟨x1, x2⟩, HNX, HI, HXA, HXB, HB⟩ := hrel
      by_cases hlt : k < len
      · have hlt' : (k : Int) < (len : Int) := by omega
        have hr2 := HR.out.below HB.out
        have c0 := hr2.h0 k hlt
        have c1 := hr2.h1 k hlt
        have c2 := hr2.h2 k hlt
        have c3 := hr2.h3 k hlt
        have c4 := hr2.h4 k hlt
        have c5 := hr2.h5 k hlt
        have hck := HOK.out k (by rw [HL.out]; exact hlt)
        have HO := vl (smi_out HI.out (by rw [HL.out]; exact hlt))
        have HN := vl (smi_in HI.out (by rw [HL.out]; exact hlt))
        clear hr2
        generalize L.getD k etn = f at *
        obtain ⟨t, c, y, q, m, p⟩ := f
        simp only at c0 c1 c2 c3 c4 c5
        have hcb : 0 ≤ y ∧ y ≤ 1000000 := (chkE_ok hck).2.2.1
        have HZ3 : Vl (EnB (wr.alloc (.cells #[.int .i64 0, .int .i64 0, .int .i64 0, .int .i64 0, .string ⟨#[]⟩, .string ⟨#[]⟩] 23)) wr.heap.size 0 0 0 0 ⟨#[]⟩ ⟨#[]⟩) := vl (heap_alloc_new wr _)
        clear hck
        go_wp2_with (refine wpList_enstore _ rfl _ _ rfl wr.heap.size _ _ _ _ t c y q _ _ m p rfl rfl HZ3.out ?_)
        intro w3 hR3 hg3
        have hbb : Below wr.heap.size wr w3 := gbelow_grown ((Below.refl _ wr).alloc (Nat.le_refl _) _) hg3 (by simp) (fun k hk => by cases hk; exact Nat.le_refl _)
        have HB3 : Vl (Below w.heap.size w w3) := vl (HB.out.trans (hbb.mono HB.out.size))
        have HXA3 : Vl (w3.cell? ⟨w.heap.size, 0, none⟩ = some (.int .i64 a)) := vl ((hbb.cell (p := ⟨w.heap.size, 0, none⟩) (eblk_of_cell HXA.out)).trans HXA.out)
        have HXB3 : Vl (w3.cell? ⟨w.heap.size + 1, 0, none⟩ = some (.int .i64 b)) := vl ((hbb.cell (p := ⟨w.heap.size + 1, 0, none⟩) (eblk_of_cell HXB.out)).trans HXB.out)
        have HX3 := vl hR3
        obtain ⟨d0, d1, d2, d3, d4, d5⟩ := hR3.cells
        have HCK := vl (gsum1_any t c y q m p a b w.heap.size (w.heap.size + 1) w3 HXA3.out HXB3.out)
        unfold entV at HCK
        clear hR3 hg3 hbb HZ3 c0 c1 c2 c3 c4 c5 HXA HXB HB
        go_wp2_with fail
        refine HCK.out.mono ?_
        rintro _ w4 ⟨rfl, hb4⟩
        have HB4 := vl (HB3.out.trans (hb4.mono HB3.out.size))
        have HXA4 : Vl (w4.cell? ⟨w.heap.size, 0, none⟩ = some (.int .i64 a)) := vl ((hb4.cell (p := ⟨w.heap.size, 0, none⟩) (eblk_of_cell HXA3.out)).trans HXA3.out)
        have HXB4 : Vl (w4.cell? ⟨w.heap.size + 1, 0, none⟩ = some (.int .i64 b)) := vl ((hb4.cell (p := ⟨w.heap.size + 1, 0, none⟩) (eblk_of_cell HXB3.out)).trans HXB3.out)
        have HX4 := vl (HX3.out.on hb4)
        clear hb4 d0 d1 d2 d3 d4 d5 HCK HB3 HX3 HXA3 HXB3
        obtain ⟨d0, d1, d2, d3, d4, d5⟩ := HX4.out.cells
        cases hin : (decide (a ≤ t) && decide (t < b))
        · have HI2 := vl (HO.out hin)
          clear HO HN hin
          go_wp2_with fail
          go_roundw
          case rel => exact ⟨k + 1, N, B, X, rfl, rfl, rfl, by go_num, by omega, ⟨by omega, by omega⟩, ⟨by omega, by omega⟩, ⟨by omega, by omega⟩, vl ⟨by have := HNX.out.1; omega, by have := HNX.out.2; omega⟩, HI2, HXA4, HXB4, HB4⟩
          case measure => simp [intOf]; omega
        · have HI2 := vl (HN.out hin)
          clear HO HN hin
          by_cases hc : 500 ≤ c
          · have HI3 := HI2.out
            simp only [if_pos hc] at HI3
            have HI4 := vl HI3
            clear HI2 HI3
            go_wp2_with fail
            go_roundw
            case rel => exact ⟨k + 1, N + 1, B + y, X + 1, by go_num, by go_num, by go_num, by go_num, by omega, ⟨by omega, by have := HNX.out.1; omega⟩, ⟨by omega, by omega⟩, ⟨by omega, by have := HNX.out.2; omega⟩, vl ⟨by have := HNX.out.1; omega, by have := HNX.out.2; omega⟩, HI4, HXA4, HXB4, HB4⟩
            case measure => simp [intOf]; omega
          · have HI3 := HI2.out
            simp only [if_neg hc, Int.add_zero] at HI3
            have HI4 := vl HI3
            clear HI2 HI3
            go_wp2_with fail
            go_roundw
            case rel => exact ⟨k + 1, N + 1, B + y, X, by go_num, by go_num, rfl, by go_num, by omega, ⟨by omega, by have := HNX.out.1; omega⟩, ⟨by omega, by omega⟩, ⟨by omega, by have := HNX.out.2; omega⟩, vl ⟨by have := HNX.out.1; omega, by have := HNX.out.2; omega⟩, HI4, HXA4, HXB4, HB4⟩
            case measure => simp [intOf]; omega
      · have hlt' : ¬ (k : Int) < (len : Int) := by omega
        obtain rfl : k = len := by omega
        have HQ := vl (HFIN.out N B X HI.out)
        go_wp2_with fail
        refine bodyPost_ret (v := .tuple #[.int .i64 N, .int .i64 B, .int .i64 X, .nilIface]) (by simp [results, Tryd.results7, go_sem]; try rfl) rfl ?_
        exact ⟨HQ.out, HB.out⟩
  · have HFIN : Vl (SumP L a b (.returned (.tuple #[.int .i64 0, .int .i64 0, .int .i64 0, .iface 39 (.int .i64 (chkL L))]))) := vl (Or.inr ⟨h0, by rw [gerr_pos h0]⟩)
    rw [gerr_pos h0] at HC
    generalize chkL L = E at *
    go_enter Tryd.func7, Tryd.ntmps7
    go_wp2_with fail
    rw [← hW1]
    clear hW1
    refine HC.out.mono ?_
    rintro _ w2 ⟨rfl, hb2⟩
    have HB2 := vl (HB1.out.trans (hb2.mono HB1.out.size))
    clear hb2 HC HB1 HCA HCB
    go_wp2_with fail
    refine bodyPost_ret (v := .tuple #[.int .i64 0, .int .i64 0, .int .i64 0, .iface 39 (.int .i64 E)]) (by simp [results, Tryd.results7, go_sem]; try rfl) rfl ?_
    exact ⟨HFIN.out, HB2.out⟩
theorem gsum_any (x : Option Addr) (len cap : Nat) (L : List Et) (a b : Int) (w : World) (hA : EtArg w x len cap L) (hs : SzE L) :
    Calls Tryd.prog 7 #[.slice x len cap, .int .i64 a, .int .i64 b] w fun e w' => SumP L a b e ∧ Below w.heap.size w w' := by
  rcases hA with ⟨rfl, rfl⟩ | ⟨g, off, rfl, hr⟩
  · obtain ⟨W1, hW1⟩ : ∃ W1, W1 = (w.alloc (.cells #[.int .i64 a] 3)).alloc (.cells #[.int .i64 b] 3) := ⟨_, rfl⟩
    have HB1 : Vl (Below w.heap.size w W1) := by rw [hW1]; exact ((Below.refl _ w).alloc (Nat.le_refl _) _).alloc (by simp) _
    have HC := vl (gchka_any x 0 cap [] W1 (Or.inl ⟨rfl, rfl⟩) hs)
    rw [show chkL [] = 0 from rfl, gerr_zero] at HC
    have HFIN : Vl (SumP [] a b (.returned (.tuple #[.int .i64 0, .int .i64 0, .int .i64 0, .nilIface]))) := vl (Or.inl ⟨rfl, rfl⟩)
    go_enter Tryd.func7, Tryd.ntmps7
    go_wp2_with fail
    rw [← hW1]
    clear hW1
    refine HC.out.mono ?_
    rintro _ w2 ⟨rfl, hb2⟩
    have HB2 := vl (HB1.out.trans (hb2.mono HB1.out.size))
    clear hb2 HC HB1
    go_wp2_with fail
    refine wp_loop_rounds 1 ?_
    rw [rounds_succ]
    go_wp2_with fail
    refine bodyPost_ret (v := .tuple #[.int .i64 0, .int .i64 0, .int .i64 0, .nilIface]) (by simp [results, Tryd.results7, go_sem]; try rfl) rfl ?_
    exact ⟨HFIN.out, HB2.out⟩
  · exact gsum_row g off len cap L a b w hr hs
end Go.Proofs.YteohgkgahkkjlaaDoor
