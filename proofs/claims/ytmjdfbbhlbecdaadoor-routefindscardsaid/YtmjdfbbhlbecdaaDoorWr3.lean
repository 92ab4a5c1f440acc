/-
  WHERETO: the document's Find and Rest. No claim by itself.
-/
import Derived.Test.YtmjdfbbhlbecdaaDoorWh6
import Derived.BigQuiet
import Derived.Deep.QuietTactic
import Derived.Deep.DeepCutAuto
namespace Go.Proofs.YtmjdfbbhlbecdaaDoor
open Go Go.RowKit
set_option maxRecDepth 100000
theorem word_le3 {s : List Int} (h : wordL s = true) : s.length ≤ 400 := by
  unfold wordL plainL at h
  simp only [Bool.and_eq_true, Bool.or_eq_true, decide_eq_true_eq, Bool.not_eq_true'] at h
  rcases h.1.2.2 with h2 | h2
  · rw [List.isEmpty_iff.1 h2]; simp
  · exact h2.1.1
theorem begins47 (s : List Int) : begins 47 s = decide (s.headD 0 = 47) := by
  cases s with
  | nil => rfl
  | cons x r => simp [begins]
def bestZ : Option Nat → Int
  | none => -1
  | some k => k
def RFE (L : List Rt) (host path : List Int) (e : Ending) : Prop := ∃ o, e = .returned (.int .i64 (bestZ o)) ∧ BestIn L host path L.length o
theorem fits_beq (x y z host path : ByteArray) (hy : unums y ≠ []) : fitsR (unums host) (unums path) (rtO (x, y, z)) = (((x.toList == []) || (x.toList == host.toList)) && ((unums y).isPrefixOf (unums path) && (decide (path.size = y.size) || decide ((unums path).getD y.size 0 = 47) || decide ((unums y).getD (y.size - 1) 0 = 47)))) := by
  have e1 : fitsR (unums host) (unums path) (rtO (x, y, z)) = ((decide (unums x = unums host) || decide (unums x = [])) && ((unums y).isPrefixOf (unums path) && (decide ((unums path).length = (unums y).length) || decide ((unums path).getD (unums y).length 0 = 47) || decide ((unums y).getLastD 0 = 47)))) := rfl
  rw [e1, un_beqlit, un_beq, last_at hy, unums_len, unums_len, Bool.or_comm (decide (unums x = unums host))]
  rfl
set_option maxHeartbeats 8000000 in
theorem rfind_row (g off len cap : Nat) (L : List Rb) (host path : ByteArray) (w : World) (hr : RtRow w g off len cap L) (hc : chkR (rtsOf L) = 0) :
    Calls Tryd.prog 11 #[.slice (some ⟨g, off, none⟩) len cap, .string host, .string path] w fun e w' => RFE (rtsOf L) (unums host) (unums path) e ∧ Below w.heap.size w w' := by
  have HR := vl hr
  have HCK := vl hc
  have hcap := hr.hcap
  have hmax := hr.hmax
  unfold maxLen at hmax
  have HL := vl hr.hlen
  clear hr hc
  go_enter Tryd.func11, Tryd.ntmps11
  go_wp2_with fail
  go_loopw [7, 8, 9, 10] (fun bv i _ _ wr => ∃ (k : Nat) (o : Option Nat), bv = .int .i64 (bestZ o) ∧ i = .int .i64 k ∧ k ≤ len ∧ Vl (BestIn (rtsOf L) (unums host) (unums path) k o) ∧ Vl (Below w.heap.size w wr)) (fun _ i _ _ _ => len - (intOf i).toNat)
  case atStart => exact ⟨0, none, rfl, rfl, by omega, best_zero _ _ _, Below.refl _ _⟩
  case round =>
    obtain ⟨k, o, rfl, rfl, hk, HK, HB⟩ := hrel
    by_cases hlt : k < len
    · have hlt' : (k : Int) < (len : Int) := by omega
      have hk0 : (0 : Int) ≤ (k : Int) := by omega
      have hr2 := HR.out.below HB.out
      have c0 := hr2.h0 k hlt
      have c1 := hr2.h1 k hlt
      have c2 := hr2.h2 k hlt
      have hkl : k < (rtsOf L).length := by rw [rts_len, HL.out]; exact hlt
      have HAT := vl (rts_at L k)
      have HOK := vl (rtOk_path (chk_at HCK.out k hkl).1)
      rw [HAT.out] at HOK
      obtain ⟨f, hf⟩ : ∃ f, L.getD k rbn = f := ⟨_, rfl⟩
      rw [hf] at HAT HOK c0 c1 c2
      obtain ⟨x, y, z⟩ := f
      have hyne : unums y ≠ [] := HOK.out.1
      have hy1 : 1 ≤ y.size := by
        rcases Nat.eq_zero_or_pos y.size with e | e
        · exact absurd (unums_nil.2 e) hyne
        · exact e
      have hy4 : y.size ≤ 400 := by
        have := word_le3 HOK.out.2.2
        rwa [show (rtO (x, y, z)).2.1 = unums y from rfl, unums_len] at this
      have HFT := vl (fits_beq x y z host path hyne)
      obtain ⟨W1, hW1⟩ : ∃ W1, W1 = wr.alloc (.cells #[.string x, .string y, .string z] 33) := ⟨_, rfl⟩
      have HB1 : Vl (Below w.heap.size w W1) := by rw [hW1]; exact HB.out.alloc HB.out.size _
      have HBX : Vl (RtBox W1 wr.heap.size (x, y, z)) := by rw [hW1]; exact rtbox_new wr x y z _
      obtain ⟨d0, d1, d2⟩ := HBX.out
      have HKL := vl hkl
      clear hf hr2 hyne HOK hkl
      go_upto_region 7 with fail
      rw [← hW1]
      clear hW1 c0 c1 c2
      go_cut [46] (fun r wz => r = .bool (!(((x.toList == []) || (x.toList == host.toList)) && (unums y).isPrefixOf (unums path))) ∧ Vl (RtBox wz wr.heap.size (x, y, z)) ∧ Vl (Below w.heap.size w wz) ∧ Vl ((unums y).isPrefixOf (unums path) = true → y.size ≤ path.size))
      case first =>
        as_aux_lemma =>
          have HD : Vl (∀ n, RtBox (W1.drewN n) wr.heap.size (x, y, z) ∧ Below w.heap.size w (W1.drewN n)) := fun n => ⟨HBX.out.below (drewN_below (Below.refl _ _) n) (blk_of_cell d0), drewN_below HB1.out n⟩
          have HPL : Vl ((unums y).isPrefixOf (unums path) = true → y.size ≤ path.size) := fun h => by
            have := (pre_iff.1 h).1
            rwa [unums_len, unums_len] at this
          by_cases hle : y.size ≤ path.size
          · have hgt : decide ((path.size : Int) < (y.size : Int)) = false := decide_eq_false (by omega)
            have hleI : (y.size : Int) ≤ (path.size : Int) := by omega
            have hy0 : (0 : Int) ≤ (y.size : Int) := by omega
            have HPE : Vl ((unums y).isPrefixOf (unums path) = ((path.extract 0 y.size).toList == y.toList)) := by
              show _ = _
              rw [un_beq, un_take, Bool.eq_iff_iff, pre_iff, unums_len, unums_len]
              simp [hle]
            obtain ⟨pe, hpe⟩ : ∃ pe, ((path.extract 0 y.size).toList == y.toList) = pe := ⟨_, rfl⟩
            have HPE2 := vl (HPE.out.trans hpe)
            have hpn : ((path.extract 0 y.size).toList != y.toList) = !pe := by rw [← hpe]; rfl
            cases pe with
            | false =>
              have hpn2 : ((path.extract 0 y.size).toList != y.toList) = true := hpn
              have hpn3 : ¬ (path.extract 0 y.size).toList = y.toList := by simpa using hpe
              clear hpn
              refine wp_region_any (by kernel_rfl) ?_
              change wpAny _ _ _ _ _ _ _ (World.drew _)
              refine wpAny_cast (l' := #[false, false, false, false, false, false, false, false, false, false, false, false, false, false, false, false, false, false, false, false, false, false, false]) rfl ?_
              refine wpAny_ready (rs := [0, 1]) (by kernel_rfl) (by simp) ?_
              refine AllReady.cons rfl (fun K hK => ?_) (AllReady.cons rfl (fun K hK => ?_) AllReady.nil)
              go_simp
              refine hK _ _ ?_
              clear hK K
              refine wpAny_cast (l' := #[true, false, false, false, false, false, false, false, false, false, false, false, false, false, false, false, false, false, false, false, false, false, false]) rfl ?Sc0
              rotate_left
              go_simp
              refine hK _ _ ?_
              clear hK K
              refine wpAny_cast (l' := #[false, true, false, false, false, false, false, false, false, false, false, false, false, false, false, false, false, false, false, false, false, false, false]) rfl ?Sc1
              rotate_left
              refine wpAny_ready (rs := [1]) (by kernel_rfl) (by simp) ?_
              refine AllReady.cons rfl (fun K hK => ?_) AllReady.nil
              go_simp
              refine hK _ _ ?_
              clear hK K
              refine wpAny_cast (l' := #[true, true, false, false, false, false, false, false, false, false, false, false, false, false, false, false, false, false, false, false, false, false, false]) rfl ?Sc0_1
              rotate_left
              refine wpAny_ready (rs := [0, 2]) (by kernel_rfl) (by simp) ?_
              refine AllReady.cons rfl (fun K hK => ?_) (AllReady.cons rfl (fun K hK => ?_) AllReady.nil)
              go_simp
              refine hK _ _ ?_
              clear hK K
              refine wpAny_cast (l' := #[true, true, false, false, false, false, false, false, false, false, false, false, false, false, false, false, false, false, false, false, false, false, false]) rfl ?_
              exact ?Sc0_1
              go_simp
              refine hK _ _ ?_
              clear hK K
              refine wpAny_cast (l' := #[false, true, true, false, false, false, false, false, false, false, false, false, false, false, false, false, false, false, false, false, false, false, false]) rfl ?Sc1_2
              rotate_left
              refine wpAny_ready (rs := [2]) (by kernel_rfl) (by simp) ?_
              refine AllReady.cons rfl (fun K hK => ?_) AllReady.nil
              go_simp
              refine hK _ _ ?_
              clear hK K
              refine wpAny_cast (l' := #[true, true, true, false, false, false, false, false, false, false, false, false, false, false, false, false, false, false, false, false, false, false, false]) rfl ?Sc0_1_2
              rotate_left
              refine wpAny_ready (rs := [0]) (by kernel_rfl) (by simp) ?_
              refine AllReady.cons rfl (fun K hK => ?_) AllReady.nil
              go_simp
              refine hK _ _ ?_
              clear hK K
              refine wpAny_cast (l' := #[true, true, true, false, false, false, false, false, false, false, false, false, false, false, false, false, false, false, false, false, false, false, false]) rfl ?_
              exact ?Sc0_1_2
              refine wpAny_ready (rs := [3]) (by kernel_rfl) (by simp) ?_
              refine AllReady.cons rfl (fun K hK => ?_) AllReady.nil
              go_simp
              refine hK _ _ ?_
              clear hK K
              refine wpAny_cast (l' := #[true, true, true, true, false, false, false, false, false, false, false, false, false, false, false, false, false, false, false, false, false, false, false]) rfl ?Sc0_1_2_3
              refine wpAny_ready (rs := [4]) (by kernel_rfl) (by simp) ?_
              refine AllReady.cons rfl (fun K hK => ?_) AllReady.nil
              go_simp
              refine hK _ _ ?_
              clear hK K
              refine wpAny_cast (l' := #[true, true, true, true, true, false, false, false, false, false, false, false, false, false, false, false, false, false, false, false, false, false, false]) rfl ?Sc0_1_2_3_4
              refine wpAny_ready (rs := [5, 6, 8]) (by kernel_rfl) (by simp) ?_
              refine AllReady.cons rfl (fun K hK => ?_) (AllReady.cons rfl (fun K hK => ?_) (AllReady.cons rfl (fun K hK => ?_) AllReady.nil))
              go_simp
              refine hK _ _ ?_
              clear hK K
              refine wpAny_cast (l' := #[true, true, true, true, true, true, false, false, false, false, false, false, false, false, false, false, false, false, false, false, false, false, false]) rfl ?Sc0_1_2_3_4_5
              rotate_left
              go_simp
              refine hK _ _ ?_
              clear hK K
              refine wpAny_cast (l' := #[true, true, true, true, true, false, true, false, false, false, false, false, false, false, false, false, false, false, false, false, false, false, false]) rfl ?Sc0_1_2_3_4_6
              rotate_left
              go_simp
              refine hK _ _ ?_
              clear hK K
              refine wpAny_cast (l' := #[true, true, true, true, true, false, false, false, true, false, false, false, false, false, false, false, false, false, false, false, false, false, false]) rfl ?Sc0_1_2_3_4_8
              rotate_left
              refine wpAny_ready (rs := [6, 8]) (by kernel_rfl) (by simp) ?_
              refine AllReady.cons rfl (fun K hK => ?_) (AllReady.cons rfl (fun K hK => ?_) AllReady.nil)
              go_simp
              refine hK _ _ ?_
              clear hK K
              refine wpAny_cast (l' := #[true, true, true, true, true, true, true, false, false, false, false, false, false, false, false, false, false, false, false, false, false, false, false]) rfl ?Sc0_1_2_3_4_5_6
              rotate_left
              go_simp
              refine hK _ _ ?_
              clear hK K
              refine wpAny_cast (l' := #[true, true, true, true, true, true, false, false, true, false, false, false, false, false, false, false, false, false, false, false, false, false, false]) rfl ?Sc0_1_2_3_4_5_8
              rotate_left
              refine wpAny_ready (rs := [5, 8]) (by kernel_rfl) (by simp) ?_
              refine AllReady.cons rfl (fun K hK => ?_) (AllReady.cons rfl (fun K hK => ?_) AllReady.nil)
              go_simp
              refine hK _ _ ?_
              clear hK K
              refine wpAny_cast (l' := #[true, true, true, true, true, true, true, false, false, false, false, false, false, false, false, false, false, false, false, false, false, false, false]) rfl ?_
              exact ?Sc0_1_2_3_4_5_6
              go_simp
              refine hK _ _ ?_
              clear hK K
              refine wpAny_cast (l' := #[true, true, true, true, true, false, true, false, true, false, false, false, false, false, false, false, false, false, false, false, false, false, false]) rfl ?Sc0_1_2_3_4_6_8
              rotate_left
              refine wpAny_ready (rs := [5, 6, 9]) (by kernel_rfl) (by simp) ?_
              refine AllReady.cons rfl (fun K hK => ?_) (AllReady.cons rfl (fun K hK => ?_) (AllReady.cons rfl (fun K hK => ?_) AllReady.nil))
              go_simp
              refine hK _ _ ?_
              clear hK K
              refine wpAny_cast (l' := #[true, true, true, true, true, true, false, false, true, false, false, false, false, false, false, false, false, false, false, false, false, false, false]) rfl ?_
              exact ?Sc0_1_2_3_4_5_8
              go_simp
              refine hK _ _ ?_
              clear hK K
              refine wpAny_cast (l' := #[true, true, true, true, true, false, true, false, true, false, false, false, false, false, false, false, false, false, false, false, false, false, false]) rfl ?_
              exact ?Sc0_1_2_3_4_6_8
              go_simp
              refine hK _ _ ?_
              clear hK K
              refine wpAny_cast (l' := #[true, true, true, true, true, false, false, false, true, true, false, false, false, false, false, false, false, false, false, false, false, false, false]) rfl ?Sc0_1_2_3_4_8_9
              rotate_left
              refine wpAny_ready (rs := [7, 8]) (by kernel_rfl) (by simp) ?_
              refine AllReady.cons rfl (fun K hK => ?_) (AllReady.cons rfl (fun K hK => ?_) AllReady.nil)
              go_simp
              refine hK _ _ ?_
              clear hK K
              refine wpAny_cast (l' := #[true, true, true, true, true, true, true, true, false, false, false, false, false, false, false, false, false, false, false, false, false, false, false]) rfl ?Sc0_1_2_3_4_5_6_7
              rotate_left
              go_simp
              refine hK _ _ ?_
              clear hK K
              refine wpAny_cast (l' := #[true, true, true, true, true, true, true, false, true, false, false, false, false, false, false, false, false, false, false, false, false, false, false]) rfl ?Sc0_1_2_3_4_5_6_8
              rotate_left
              refine wpAny_ready (rs := [6, 9]) (by kernel_rfl) (by simp) ?_
              refine AllReady.cons rfl (fun K hK => ?_) (AllReady.cons rfl (fun K hK => ?_) AllReady.nil)
              go_simp
              refine hK _ _ ?_
              clear hK K
              refine wpAny_cast (l' := #[true, true, true, true, true, true, true, false, true, false, false, false, false, false, false, false, false, false, false, false, false, false, false]) rfl ?_
              exact ?Sc0_1_2_3_4_5_6_8
              go_simp
              refine hK _ _ ?_
              clear hK K
              refine wpAny_cast (l' := #[true, true, true, true, true, true, false, false, true, true, false, false, false, false, false, false, false, false, false, false, false, false, false]) rfl ?Sc0_1_2_3_4_5_8_9
              rotate_left
              refine wpAny_ready (rs := [5, 9]) (by kernel_rfl) (by simp) ?_
              refine AllReady.cons rfl (fun K hK => ?_) (AllReady.cons rfl (fun K hK => ?_) AllReady.nil)
              go_simp
              refine hK _ _ ?_
              clear hK K
              refine wpAny_cast (l' := #[true, true, true, true, true, true, true, false, true, false, false, false, false, false, false, false, false, false, false, false, false, false, false]) rfl ?_
              exact ?Sc0_1_2_3_4_5_6_8
              go_simp
              refine hK _ _ ?_
              clear hK K
              refine wpAny_cast (l' := #[true, true, true, true, true, false, true, false, true, true, false, false, false, false, false, false, false, false, false, false, false, false, false]) rfl ?Sc0_1_2_3_4_6_8_9
              rotate_left
              refine wpAny_ready (rs := [5, 6]) (by kernel_rfl) (by simp) ?_
              refine AllReady.cons rfl (fun K hK => ?_) (AllReady.cons rfl (fun K hK => ?_) AllReady.nil)
              go_simp
              refine hK _ _ ?_
              clear hK K
              refine wpAny_cast (l' := #[true, true, true, true, true, true, false, false, true, true, false, false, false, false, false, false, false, false, false, false, false, false, false]) rfl ?_
              exact ?Sc0_1_2_3_4_5_8_9
              go_simp
              refine hK _ _ ?_
              clear hK K
              refine wpAny_cast (l' := #[true, true, true, true, true, false, true, false, true, true, false, false, false, false, false, false, false, false, false, false, false, false, false]) rfl ?_
              exact ?Sc0_1_2_3_4_6_8_9
              refine wpAny_ready (rs := [8]) (by kernel_rfl) (by simp) ?_
              refine AllReady.cons rfl (fun K hK => ?_) AllReady.nil
              go_simp
              refine hK _ _ ?_
              clear hK K
              refine wpAny_cast (l' := #[true, true, true, true, true, true, true, true, true, false, false, false, false, false, false, false, false, false, false, false, false, false, false]) rfl ?Sc0_1_2_3_4_5_6_7_8
              rotate_left
              refine wpAny_ready (rs := [7, 9]) (by kernel_rfl) (by simp) ?_
              refine AllReady.cons rfl (fun K hK => ?_) (AllReady.cons rfl (fun K hK => ?_) AllReady.nil)
              go_simp
              refine hK _ _ ?_
              clear hK K
              refine wpAny_cast (l' := #[true, true, true, true, true, true, true, true, true, false, false, false, false, false, false, false, false, false, false, false, false, false, false]) rfl ?_
              exact ?Sc0_1_2_3_4_5_6_7_8
              go_simp
              refine hK _ _ ?_
              clear hK K
              refine wpAny_cast (l' := #[true, true, true, true, true, true, true, false, true, true, false, false, false, false, false, false, false, false, false, false, false, false, false]) rfl ?Sc0_1_2_3_4_5_6_8_9
              rotate_left
              refine wpAny_ready (rs := [6]) (by kernel_rfl) (by simp) ?_
              refine AllReady.cons rfl (fun K hK => ?_) AllReady.nil
              go_simp
              refine hK _ _ ?_
              clear hK K
              refine wpAny_cast (l' := #[true, true, true, true, true, true, true, false, true, true, false, false, false, false, false, false, false, false, false, false, false, false, false]) rfl ?_
              exact ?Sc0_1_2_3_4_5_6_8_9
              refine wpAny_ready (rs := [5]) (by kernel_rfl) (by simp) ?_
              refine AllReady.cons rfl (fun K hK => ?_) AllReady.nil
              go_simp
              refine hK _ _ ?_
              clear hK K
              refine wpAny_cast (l' := #[true, true, true, true, true, true, true, false, true, true, false, false, false, false, false, false, false, false, false, false, false, false, false]) rfl ?_
              exact ?Sc0_1_2_3_4_5_6_8_9
              refine wpAny_ready (rs := [9]) (by kernel_rfl) (by simp) ?_
              refine AllReady.cons rfl (fun K hK => ?_) AllReady.nil
              go_simp
              refine hK _ _ ?_
              clear hK K
              refine wpAny_cast (l' := #[true, true, true, true, true, true, true, true, true, true, false, false, false, false, false, false, false, false, false, false, false, false, false]) rfl ?Sc0_1_2_3_4_5_6_7_8_9
              rotate_left
              refine wpAny_ready (rs := [7]) (by kernel_rfl) (by simp) ?_
              refine AllReady.cons rfl (fun K hK => ?_) AllReady.nil
              go_simp
              refine hK _ _ ?_
              clear hK K
              refine wpAny_cast (l' := #[true, true, true, true, true, true, true, true, true, true, false, false, false, false, false, false, false, false, false, false, false, false, false]) rfl ?_
              exact ?Sc0_1_2_3_4_5_6_7_8_9
              refine wpAny_ready (rs := [10]) (by kernel_rfl) (by simp) ?_
              refine AllReady.cons rfl (fun K hK => ?_) AllReady.nil
              go_simp
              refine hK _ _ ?_
              clear hK K
              refine wpAny_cast (l' := #[true, true, true, true, true, true, true, true, true, true, true, false, false, false, false, false, false, false, false, false, false, false, false]) rfl ?Sc0_1_2_3_4_5_6_7_8_9_10
              refine wpAny_ready (rs := [11]) (by kernel_rfl) (by simp) ?_
              refine AllReady.cons rfl (fun K hK => ?_) AllReady.nil
              go_simp
              refine hK _ _ ?_
              clear hK K
              refine wpAny_cast (l' := #[true, true, true, true, true, true, true, true, true, true, true, true, false, false, false, false, false, false, false, false, false, false, false]) rfl ?Sc0_1_2_3_4_5_6_7_8_9_10_11
              refine wpAny_ready (rs := [12]) (by kernel_rfl) (by simp) ?_
              refine AllReady.cons rfl (fun K hK => ?_) AllReady.nil
              go_simp
              refine hK _ _ ?_
              clear hK K
              refine wpAny_cast (l' := #[true, true, true, true, true, true, true, true, true, true, true, true, true, false, false, false, false, false, false, false, false, false, false]) rfl ?Sc0_1_2_3_4_5_6_7_8_9_10_11_12
              refine wpAny_ready (rs := [13]) (by kernel_rfl) (by simp) ?_
              refine AllReady.cons rfl (fun K hK => ?_) AllReady.nil
              go_simp
              refine hK _ _ ?_
              clear hK K
              refine wpAny_cast (l' := #[true, true, true, true, true, true, true, true, true, true, true, true, true, true, false, false, false, false, false, false, false, false, false]) rfl ?Sc0_1_2_3_4_5_6_7_8_9_10_11_12_13
              refine wpAny_ready (rs := [14]) (by kernel_rfl) (by simp) ?_
              refine AllReady.cons rfl (fun K hK => ?_) AllReady.nil
              go_simp
              refine hK _ _ ?_
              clear hK K
              refine wpAny_cast (l' := #[true, true, true, true, true, true, true, true, true, true, true, true, true, true, true, false, false, false, false, false, false, false, false]) rfl ?Sc0_1_2_3_4_5_6_7_8_9_10_11_12_13_14
              refine wpAny_ready (rs := [15]) (by kernel_rfl) (by simp) ?_
              refine AllReady.cons rfl (fun K hK => ?_) AllReady.nil
              go_simp
              refine hK _ _ ?_
              clear hK K
              refine wpAny_cast (l' := #[true, true, true, true, true, true, true, true, true, true, true, true, true, true, true, true, false, false, false, false, false, false, false]) rfl ?Sc0_1_2_3_4_5_6_7_8_9_10_11_12_13_14_15
              refine wpAny_ready (rs := [16]) (by kernel_rfl) (by simp) ?_
              refine AllReady.cons rfl (fun K hK => ?_) AllReady.nil
              go_simp
              refine hK _ _ ?_
              clear hK K
              refine wpAny_cast (l' := #[true, true, true, true, true, true, true, true, true, true, true, true, true, true, true, true, true, false, false, false, false, false, false]) rfl ?Sc0_1_2_3_4_5_6_7_8_9_10_11_12_13_14_15_16
              refine wpAny_ready (rs := [17, 19]) (by kernel_rfl) (by simp) ?_
              refine AllReady.cons rfl (fun K hK => ?_) (AllReady.cons rfl (fun K hK => ?_) AllReady.nil)
              go_simp
              refine hK _ _ ?_
              clear hK K
              refine wpAny_cast (l' := #[true, true, true, true, true, true, true, true, true, true, true, true, true, true, true, true, true, true, false, false, false, false, false]) rfl ?Sc0_1_2_3_4_5_6_7_8_9_10_11_12_13_14_15_16_17
              rotate_left
              go_simp
              refine hK _ _ ?_
              clear hK K
              refine wpAny_cast (l' := #[true, true, true, true, true, true, true, true, true, true, true, true, true, true, true, true, true, false, false, true, false, false, false]) rfl ?Sc0_1_2_3_4_5_6_7_8_9_10_11_12_13_14_15_16_19
              rotate_left
              refine wpAny_ready (rs := [18, 19]) (by kernel_rfl) (by simp) ?_
              refine AllReady.cons rfl (fun K hK => ?_) (AllReady.cons rfl (fun K hK => ?_) AllReady.nil)
              go_simp
              refine hK _ _ ?_
              clear hK K
              refine wpAny_cast (l' := #[true, true, true, true, true, true, true, true, true, true, true, true, true, true, true, true, true, true, true, false, false, false, false]) rfl ?Sc0_1_2_3_4_5_6_7_8_9_10_11_12_13_14_15_16_17_18
              rotate_left
              go_simp
              refine hK _ _ ?_
              clear hK K
              refine wpAny_cast (l' := #[true, true, true, true, true, true, true, true, true, true, true, true, true, true, true, true, true, true, false, true, false, false, false]) rfl ?Sc0_1_2_3_4_5_6_7_8_9_10_11_12_13_14_15_16_17_19
              rotate_left
              refine wpAny_ready (rs := [17]) (by kernel_rfl) (by simp) ?_
              refine AllReady.cons rfl (fun K hK => ?_) AllReady.nil
              go_simp
              refine hK _ _ ?_
              clear hK K
              refine wpAny_cast (l' := #[true, true, true, true, true, true, true, true, true, true, true, true, true, true, true, true, true, true, false, true, false, false, false]) rfl ?_
              exact ?Sc0_1_2_3_4_5_6_7_8_9_10_11_12_13_14_15_16_17_19
              refine wpAny_ready (rs := [19]) (by kernel_rfl) (by simp) ?_
              refine AllReady.cons rfl (fun K hK => ?_) AllReady.nil
              go_simp
              refine hK _ _ ?_
              clear hK K
              refine wpAny_cast (l' := #[true, true, true, true, true, true, true, true, true, true, true, true, true, true, true, true, true, true, true, true, false, false, false]) rfl ?Sc0_1_2_3_4_5_6_7_8_9_10_11_12_13_14_15_16_17_18_19
              rotate_left
              refine wpAny_ready (rs := [18]) (by kernel_rfl) (by simp) ?_
              refine AllReady.cons rfl (fun K hK => ?_) AllReady.nil
              go_simp
              refine hK _ _ ?_
              clear hK K
              refine wpAny_cast (l' := #[true, true, true, true, true, true, true, true, true, true, true, true, true, true, true, true, true, true, true, true, false, false, false]) rfl ?_
              exact ?Sc0_1_2_3_4_5_6_7_8_9_10_11_12_13_14_15_16_17_18_19
              refine wpAny_ready (rs := [20]) (by kernel_rfl) (by simp) ?_
              refine AllReady.cons rfl (fun K hK => ?_) AllReady.nil
              go_simp
              refine hK _ _ ?_
              clear hK K
              refine wpAny_cast (l' := #[true, true, true, true, true, true, true, true, true, true, true, true, true, true, true, true, true, true, true, true, true, false, false]) rfl ?Sc0_1_2_3_4_5_6_7_8_9_10_11_12_13_14_15_16_17_18_19_20
              refine wpAny_ready (rs := [21]) (by kernel_rfl) (by simp) ?_
              refine AllReady.cons rfl (fun K hK => ?_) AllReady.nil
              go_simp
              refine hK _ _ ?_
              clear hK K
              refine wpAny_cast (l' := #[true, true, true, true, true, true, true, true, true, true, true, true, true, true, true, true, true, true, true, true, true, true, false]) rfl ?Sc0_1_2_3_4_5_6_7_8_9_10_11_12_13_14_15_16_17_18_19_20_21
              refine wpAny_ready (rs := [22]) (by kernel_rfl) (by simp) ?_
              refine AllReady.cons rfl (fun K hK => ?_) AllReady.nil
              go_simp
              refine hK _ _ ?_
              clear hK K
              refine wpAny_cast (l' := #[true, true, true, true, true, true, true, true, true, true, true, true, true, true, true, true, true, true, true, true, true, true, true]) rfl ?Sc0_1_2_3_4_5_6_7_8_9_10_11_12_13_14_15_16_17_18_19_20_21_22
              refine wpAny_done (by kernel_rfl) ?_ _
              go_wp2_with fail
              go_meet
              exact ⟨by rw [HPE2.out]; simp, (HD.out 1).1, (HD.out 1).2, HPL.out⟩
            | true =>
              have hpn2 : ((path.extract 0 y.size).toList != y.toList) = false := hpn
              have hpn3 : (path.extract 0 y.size).toList = y.toList := by simpa using hpe
              by_cases q : x.toList = []
              · have q' : (x.toList != []) = false := by simpa using q
                have q2 : (x.toList == []) = true := by simpa using q
                have Q2 := vl q2
                go_quiet (fail)
                go_wp2_with fail
                go_meet
                exact ⟨by rw [HPE2.out, Q2.out]; simp; omega, (HD.out _).1, (HD.out _).2, HPL.out⟩
              · have q' : (x.toList != []) = true := by simpa using q
                have q2 : (x.toList == []) = false := by simpa using q
                obtain ⟨hh, hhh⟩ : ∃ hh, (x.toList == host.toList) = hh := ⟨_, rfl⟩
                have hhn : (x.toList != host.toList) = !hh := by rw [← hhh]; rfl
                have HH := vl hhh
                have Q2 := vl q2
                cases hh with
                | false =>
                  have hhn2 : (x.toList != host.toList) = true := hhn
                  go_quiet (fail)
                  go_wp2_with fail
                  go_meet
                  exact ⟨by rw [HPE2.out, Q2.out, HH.out]; simp, (HD.out _).1, (HD.out _).2, HPL.out⟩
                | true =>
                  have hhn2 : (x.toList != host.toList) = false := hhn
                  go_quiet (fail)
                  go_wp2_with fail
                  go_meet
                  exact ⟨by rw [HPE2.out, Q2.out, HH.out]; simp; omega, (HD.out _).1, (HD.out _).2, HPL.out⟩
          · have hgt : decide ((path.size : Int) < (y.size : Int)) = true := decide_eq_true (by omega)
            have hgt2 : (path.size : Int) < (y.size : Int) := by omega
            have HPE2 : Vl ((unums y).isPrefixOf (unums path) = false) := by
              show _ = _
              rw [Bool.eq_false_iff]
              intro h
              exact hle (HPL.out h)
            go_quiet (fail)
            go_wp2_with fail
            go_meet
            exact ⟨by rw [HPE2.out]; simp, (HD.out _).1, (HD.out _).2, HPL.out⟩
      case rest =>
        obtain ⟨rfl, HBX2, HB2, HPL⟩ := hcut
        obtain ⟨w6, hw6⟩ : ∃ q, q = wc := ⟨_, rfl⟩
        subst hw6
        obtain ⟨f0, f1, f2⟩ := HBX2.out
        have HRB := vl (HR.out.below HB2.out)
        clear d0 d1 d2 HBX HB1 HB
        generalize (unums y).isPrefixOf (unums path) = P at *
        obtain ⟨H, hH⟩ : ∃ H, ((x.toList == []) || (x.toList == host.toList)) = H := ⟨_, rfl⟩
        rw [hH] at HFT ⊢
        clear hH
        cases hPH : (H && P) with
        | false =>
          have HNF : Vl (fitsR (unums host) (unums path) (rtO (x, y, z)) = false) := by
            show _ = _
            rw [HFT.out]
            cases H <;> cases P <;> first | rfl | (simp at hPH)
          clear hPH
          go_wp2_with fail
          go_roundw
          case rel => exact ⟨k + 1, o, rfl, by go_num, by omega, best_skip HK.out (by rw [HAT.out]; exact HNF.out), HB2⟩
          case measure => simp [intOf]; omega
        | true =>
          obtain ⟨rfl, rfl⟩ : H = true ∧ P = true := by cases H <;> cases P <;> simp_all
          clear hPH
          have hle := HPL.out rfl
          have HFT2 : Vl (fitsR (unums host) (unums path) (rtO (x, y, z)) = (decide (path.size = y.size) || decide ((unums path).getD y.size 0 = 47) || decide ((unums y).getD (y.size - 1) 0 = 47))) := HFT.out
          clear HFT HPL
          go_upto_region 8 with fail
          go_cut [64] (fun r wz => r = .bool (!fitsR (unums host) (unums path) (rtO (x, y, z))) ∧ wz = w6)
          case first =>
            as_aux_lemma =>
              by_cases hlp : y.size < path.size
              · have hlp' : (y.size : Int) < (path.size : Int) := by omega
                have hip := unums_at path y.size hlp
                have hiy := unums_at y (y.size - 1) (by omega)
                obtain ⟨c, hc⟩ : ∃ c, (unums path).getD y.size 0 = c := ⟨_, rfl⟩
                obtain ⟨d, hd⟩ : ∃ d, (unums y).getD (y.size - 1) 0 = d := ⟨_, rfl⟩
                rw [hc] at hip HFT2
                rw [hd] at hiy HFT2
                rw [decide_eq_false (show ¬ path.size = y.size by omega)] at HFT2
                have hp1 : (1 : Int) ≤ (y.size : Int) := by omega
                clear hc hd
                by_cases q : c = 47
                · subst q
                  go_wp2_with fail
                  go_meet
                  exact ⟨by rw [HFT2.out]; simp, rfl⟩
                · have q' : (c != 47) = true := by simpa using q
                  rw [decide_eq_false q] at HFT2
                  by_cases q2 : d = 47
                  · subst q2
                    go_wp2_with fail
                    go_meet
                    exact ⟨by rw [HFT2.out]; simp, rfl⟩
                  · have q2' : (d != 47) = true := by simpa using q2
                    rw [decide_eq_false q2] at HFT2
                    go_wp2_with fail
                    go_meet
                    exact ⟨by rw [HFT2.out]; simp, rfl⟩
              · have hlt3 : decide ((y.size : Int) < (path.size : Int)) = false := decide_eq_false (by omega)
                have hlt2 : ¬ (y.size : Int) < (path.size : Int) := by omega
                rw [decide_eq_true (show path.size = y.size by omega)] at HFT2
                go_wp2_with fail
                go_meet
                exact ⟨by rw [HFT2.out]; simp, rfl⟩
          case rest =>
            obtain ⟨rfl, hwc⟩ := hcut
            have hwc2 := hwc.symm
            subst hwc2
            clear HFT2
            cases hfit : fitsR (unums host) (unums path) (rtO (x, y, z)) with
            | false =>
              have HNF := vl hfit
              clear hfit
              go_wp2_with fail
              go_roundw
              case rel => exact ⟨k + 1, o, rfl, by go_num, by omega, best_skip HK.out (by rw [HAT.out]; exact HNF.out), HB2⟩
              case measure => simp [intOf]; omega
            | true =>
              have HF : Vl (fitsR (unums host) (unums path) ((rtsOf L).getD k rt0) = true) := by show _ = _; rw [HAT.out]; exact hfit
              clear hfit
              cases o with
              | none =>
                have e1 : bestZ none = -1 := rfl
                rw [e1]
                go_wp2_with fail
                go_roundw
                case rel => exact ⟨k + 1, some k, rfl, by go_num, by omega, best_first HK.out HF.out, HB2⟩
                case measure => simp [intOf]; omega
              | some j =>
                have e1 : bestZ (some j) = (j : Int) := rfl
                rw [e1]
                have hj := HK.out.1
                have hjl : j < len := by omega
                have hj' : (j : Int) < (len : Int) := by omega
                have hj0 : (0 : Int) ≤ (j : Int) := by omega
                have hjn : ¬ (j : Int) < 0 := by omega
                have e0 := HRB.out.h0 j hjl
                have e1' := HRB.out.h1 j hjl
                have HAJ := vl (rts_at L j)
                generalize L.getD j rbn = f at *
                obtain ⟨p, q, r⟩ := f
                have HLK : Vl (((rtsOf L).getD k rt0).2.1.length = y.size) := by show _ = _; rw [HAT.out]; exact unums_len y
                have HLJ : Vl (((rtsOf L).getD j rt0).2.1.length = q.size) := by show _ = _; rw [HAJ.out]; exact unums_len q
                by_cases hgt : q.size < y.size
                · have hgt' : (q.size : Int) < (y.size : Int) := by omega
                  go_wp2_with fail
                  go_roundw
                  case rel => exact ⟨k + 1, some k, rfl, by go_num, by omega, best_longer HK.out HF.out (by rw [HLK.out, HLJ.out]; exact hgt), HB2⟩
                  case measure => simp [intOf]; omega
                · have hgt' : ¬ (q.size : Int) < (y.size : Int) := by omega
                  have hgtd : decide ((q.size : Int) < (y.size : Int)) = false := decide_eq_false hgt'
                  by_cases heq : y.size = q.size
                  · have heq' : (y.size : Int) = (q.size : Int) := by omega
                    have heqb : ((y.size : Int) == (q.size : Int)) = true := by simpa using heq'
                    by_cases qp : p.toList = []
                    · have qp' : (p.toList == []) = true := by simpa using qp
                      have HBH : Vl (BestIn (rtsOf L) (unums host) (unums path) (k + 1) (some k)) := by
                        have hpj : ((rtsOf L).getD j rt0).1 = [] := by rw [HAJ.out]; exact un_lit.1 qp
                        rcases fits_apart HCK.out hj HKL.out HK.out.2.1 HF.out (by rw [HLK.out, HLJ.out]; exact heq.symm) with ⟨_, h2⟩ | ⟨h1, _⟩
                        · exact best_host HK.out HF.out (by rw [HLK.out, HLJ.out]; exact heq.symm) hpj h2
                        · exact absurd hpj h1
                      go_wp2_with fail
                      go_roundw
                      case rel => exact ⟨k + 1, some k, rfl, by go_num, by omega, HBH.out, HB2⟩
                      case measure => simp [intOf]; omega
                    · have qp' : (p.toList == []) = false := by simpa using qp
                      have HBH : Vl (BestIn (rtsOf L) (unums host) (unums path) (k + 1) (some j)) := by
                        have hpj : ((rtsOf L).getD j rt0).1 ≠ [] := by rw [HAJ.out]; exact fun h => qp (un_lit.2 h)
                        rcases fits_apart HCK.out hj HKL.out HK.out.2.1 HF.out (by rw [HLK.out, HLJ.out]; exact heq.symm) with ⟨h1, _⟩ | ⟨h1, h2⟩
                        · exact absurd h1 hpj
                        · exact best_stays HK.out (by rw [HLK.out, HLJ.out]; exact heq.symm) h1 h2
                      go_wp2_with fail
                      go_roundw
                      case rel => exact ⟨k + 1, some j, rfl, by go_num, by omega, HBH.out, HB2⟩
                      case measure => simp [intOf]; omega
                  · have heq' : ¬ (y.size : Int) = (q.size : Int) := by omega
                    have heqb : ((y.size : Int) == (q.size : Int)) = false := by simpa using heq'
                    go_wp2_with fail
                    go_roundw
                    case rel => exact ⟨k + 1, some j, rfl, by go_num, by omega, best_shorter HK.out (by rw [HLK.out, HLJ.out]; omega), HB2⟩
                    case measure => simp [intOf]; omega
    · have hlt' : ¬ (k : Int) < (len : Int) := by omega
      have HQ : Vl (RFE (rtsOf L) (unums host) (unums path) (.returned (.int .i64 (bestZ o)))) := ⟨o, rfl, by rw [rts_len, HL.out, show len = k by omega]; exact HK.out⟩
      go_wp2_with fail
      go_ret
      exact ⟨HQ.out, HB.out⟩
theorem rfind_any (a : Option Addr) (len cap : Nat) (L : List Rb) (host path : ByteArray) (w : World) (hA : RtArg w a len cap L) (hc : chkR (rtsOf L) = 0) :
    Calls Tryd.prog 11 #[.slice a len cap, .string host, .string path] w fun e w' => RFE (rtsOf L) (unums host) (unums path) e ∧ Below w.heap.size w w' := by
  rcases hA with ⟨rfl, rfl⟩ | ⟨g, off, rfl, hr⟩
  · have HQ : Vl (RFE (rtsOf []) (unums host) (unums path) (.returned (.int .i64 (-1)))) := ⟨none, rfl, fun j hj => by simp [rtsOf] at hj⟩
    go_enter Tryd.func11, Tryd.ntmps11
    go_wp2_with fail
    go_loopw [7, 8, 9, 10] (fun x i _ _ wr => x = .int .i64 (-1) ∧ i = .int .i64 0 ∧ wr = w) (fun _ _ _ _ _ => 0)
    case atStart => exact ⟨rfl, rfl, rfl⟩
    case round =>
      obtain ⟨rfl, rfl, rfl⟩ := hrel
      go_wp2_with fail
      go_ret
      exact ⟨HQ.out, Below.refl _ _⟩
  · exact rfind_row g off len cap L host path w hr hc
theorem rrest_any (r : Rb) (path : ByteArray) (w : World) (hp : (unums r.2.1).isPrefixOf (unums path) = true) (hs : path.size ≤ 140737488351232) :
    Calls Tryd.prog 12 #[.agg #[.string r.1, .string r.2.1, .string r.2.2], .string path] w fun e w' => (∃ s, e = .returned (.string s) ∧ unums s = restR (unums r.2.1) (unums path)) ∧ Below w.heap.size w w' := by
  obtain ⟨x, y, z⟩ := r
  have hle : y.size ≤ path.size := by
    have := (pre_iff.1 hp).1
    rwa [unums_len, unums_len] at this
  have hleI : (y.size : Int) ≤ (path.size : Int) := by omega
  have HB : Vl (Below w.heap.size w (w.alloc (.cells #[.string x, .string y, .string z] 33))) := (Below.refl _ w).alloc (Nat.le_refl _) _
  have HU : Vl (unums (path.extract y.size path.size) = (unums path).drop (unums y).length) := by show _ = _; rw [un_drop, unums_len]
  have HSZ : Vl ((path.extract y.size path.size).size = path.size - y.size) := by show _ = _; rw [ByteArray.size_extract]; omega
  have HRR : Vl (restR (unums y) (unums path) = if begins 47 (unums (path.extract y.size path.size)) = true then unums (path.extract y.size path.size) else 47 :: unums (path.extract y.size path.size)) := by
    show _ = _
    rw [HU.out]
    unfold restR
    by_cases h : ((unums path).drop (unums y).length).headD 0 = 47
    · rw [if_pos h, if_pos (by rw [begins47]; exact decide_eq_true h)]
    · rw [if_neg h, if_neg (by rw [begins47]; simpa using h)]
  have hadd : ¬ 9223372036854775807 < 1 + (path.size - y.size) := by omega
  by_cases q : (path.extract y.size path.size).toList = []
  · have q' : ((path.extract y.size path.size).toList == []) = true := by simpa using q
    have HF : Vl (unums (⟨#[47]⟩ ++ path.extract y.size path.size) = restR (unums y) (unums path)) := by
      show _ = _
      have hn : unums (path.extract y.size path.size) = [] := un_lit.1 q
      rw [HRR.out, unums_app, hn]; rfl
    clear hp
    go_enter Tryd.func12, Tryd.ntmps12
    go_wp2_with fail
    go_ret
    exact ⟨⟨_, rfl, HF.out⟩, HB.out⟩
  · have q' : ((path.extract y.size path.size).toList == []) = false := by simpa using q
    have hpos : 0 < (path.extract y.size path.size).size := by
      rcases Nat.eq_zero_or_pos (path.extract y.size path.size).size with e | e
      · exact absurd (un_lit.2 (unums_nil.2 e)) q
      · exact e
    have hix := unums_at (path.extract y.size path.size) 0 hpos
    have hpos2 : (0 : Int) < ((path.extract y.size path.size).size : Int) := by omega
    have hpos3 : 0 < path.size - y.size := by rw [← HSZ.out]; exact hpos
    obtain ⟨t, ht⟩ : ∃ t, path.extract y.size path.size = t := ⟨_, rfl⟩
    rw [ht] at hix q q' HRR hpos2 HSZ hpos
    obtain ⟨c, hc⟩ : ∃ c, (unums t).getD 0 0 = c := ⟨_, rfl⟩
    rw [hc] at hix
    have HC := vl hc
    have HNE : Vl (unums t ≠ []) := fun e => by have := unums_nil.1 e; omega
    clear hc hp
    have hadd2 : ¬ 9223372036854775807 < 1 + t.size := by rw [HSZ.out]; exact hadd
    by_cases q47 : c = 47
    · have HF : Vl (unums t = restR (unums y) (unums path)) := by
        show _ = _
        rw [HRR.out, if_pos (by rw [begins47]; exact decide_eq_true (by rw [head_at HNE.out, HC.out, q47]))]
      subst q47
      go_enter Tryd.func12, Tryd.ntmps12
      go_wp2_with fail
      go_ret
      exact ⟨⟨_, rfl, HF.out⟩, HB.out⟩
    · have q47' : (c != 47) = true := by simpa using q47
      have HF : Vl (unums (⟨#[47]⟩ ++ t) = restR (unums y) (unums path)) := by
        show _ = _
        rw [HRR.out, if_neg (by rw [begins47, head_at HNE.out, HC.out]; simpa using q47), unums_app]
        rfl
      go_enter Tryd.func12, Tryd.ntmps12
      go_wp2_with fail
      go_ret
      exact ⟨⟨_, rfl, HF.out⟩, HB.out⟩
end Go.Proofs.YtmjdfbbhlbecdaaDoor
