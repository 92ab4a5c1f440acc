/-
  WHERETO: the developers' closest. No claim by itself.
-/
import Derived.Test.YtmjdfbbhlbecdaaDoorWh5
import Derived.Deep.DeepCutAuto
namespace Go.Proofs.YtmjdfbbhlbecdaaDoor
open Go Go.RowKit
set_option maxRecDepth 100000
attribute [local go_sem] run_store_func run_store_nilFunc
theorem best_step {L : List Rt} (hc : chkR L = 0) {host path : List Int} {n k : Nat} (hn : n < L.length) (h : BestIn L host path n (some k)) (hf : fitsR host path (L.getD n rt0) = true) :
    BestIn L host path (n + 1) (some (if closerB (L.getD n rt0) (L.getD k rt0) = true then n else k)) := by
  unfold closerB
  by_cases e : (L.getD n rt0).2.1.length = (L.getD k rt0).2.1.length
  · rw [if_pos e]
    rcases fits_apart hc h.1 hn h.2.1 hf e.symm with ⟨h1, h2⟩ | ⟨h1, h2⟩
    · rw [if_pos (by rw [decide_eq_false h2, decide_eq_true h1]; rfl)]
      exact best_host h hf e.symm h1 h2
    · rw [if_neg (by rw [decide_eq_true h2]; exact Bool.noConfusion)]
      exact best_stays h e.symm h1 h2
  · rw [if_neg e]
    by_cases e2 : (L.getD k rt0).2.1.length < (L.getD n rt0).2.1.length
    · rw [if_pos (decide_eq_true e2)]
      exact best_longer h hf e2
    · rw [if_neg (by simpa using e2)]
      exact best_shorter h (by omega)
theorem wpAny_cast {P : Program} {md : Region.Mode} {ops : Array Oper} {Q : Exit → Act → World → Prop} {fuel : Nat} {l l' : Array Bool} {a : Act} {w : World} (e : l = l') (h : wpAny P md ops Q fuel l' a w) : wpAny P md ops Q fuel l a w := by rw [e]; exact h
/-- Is it taken in the place of what was the best? -/
def pickB (fits : Bool) (o : Option Nat) (L : List Rt) (k : Nat) : Bool := fits && (match o with
  | none => true
  | some j => closerB (L.getD k rt0) (L.getD j rt0))
theorem best_pick {L : List Rt} (hc : chkR L = 0) {host path : List Int} {k : Nat} (hk : k < L.length) {o : Option Nat} (h : BestIn L host path k o) {b : Bool} (hb : fitsR host path (L.getD k rt0) = b) : BestIn L host path (k + 1) (if pickB b o L k = true then some k else o) := by
  cases b with
  | false => exact best_skip h hb
  | true =>
    cases o with
    | none => exact best_first h hb
    | some j =>
      have := best_step hc hk h hb
      show BestIn L host path (k + 1) (if closerB (L.getD k rt0) (L.getD j rt0) = true then some k else some j)
      split
      · rename_i e; rw [if_pos e] at this; exact this
      · rename_i e; rw [if_neg e] at this; exact this
def atV : Option Nat → Value
  | none => .int .i64 0
  | some k => .int .i64 (k : Int)
def CloE (L : List Rt) (host path : List Int) (e : Ending) : Prop := ∃ o, e = .returned (.tuple #[atV o, .bool o.isSome]) ∧ BestIn L host path L.length o
set_option maxHeartbeats 4000000 in
theorem wclo_row (g off len cap : Nat) (L : List Rb) (F : Value) (host path : List Int) (w : World) (hr : RtRow w g off len cap L) (hs : SzL L) (hc : chkR (rtsOf L) = 0) (hF : PrdR w F (fitsR host path)) :
    Calls Tryd.prog 23 #[.slice (some ⟨g, off, none⟩) len cap, F] w fun e w' => CloE (rtsOf L) host path e ∧ Below w.heap.size w w' := by
  obtain ⟨gf, lb, rfl, eg, HC0⟩ := hF
  have HC := vl HC0
  have HR := vl hr
  have HS := vl hs
  have HCK := vl hc
  have hcap := hr.hcap
  have hmax := hr.hmax
  unfold maxLen at hmax
  have HL := vl hr.hlen
  clear HC0 hr hs hc
  go_enter Tryd.func23, Tryd.ntmps23
  go_wp2_with fail
  go_loopw [4, 5, 10] (fun at_ ok i wr => ∃ (k : Nat) (o : Option Nat), i = .int .i64 k ∧ at_ = atV o ∧ ok = .bool o.isSome ∧ k ≤ len ∧ Vl (BestIn (rtsOf L) host path k o) ∧ Vl (Below w.heap.size w wr)) (fun _ _ i _ => len - (intOf i).toNat)
  case atStart => exact ⟨0, none, rfl, rfl, rfl, by omega, best_zero _ _ _, Below.refl _ _⟩
  case round =>
    obtain ⟨k, o, rfl, rfl, rfl, hk, HK, HB⟩ := hrel
    by_cases hlt : k < len
    · have hlt' : (k : Int) < (len : Int) := by omega
      have hr2 := HR.out.below HB.out
      have c0 := hr2.h0 k hlt
      have c1 := hr2.h1 k hlt
      have c2 := hr2.h2 k hlt
      have hsz := HS.out k
      have HAT := vl (rts_at L k)
      obtain ⟨f, hf⟩ : ∃ f, L.getD k rbn = f := ⟨_, rfl⟩
      rw [hf] at HAT hsz c0 c1 c2
      obtain ⟨x, y, z⟩ := f
      obtain ⟨W1, hW1⟩ : ∃ W1, W1 = wr.alloc (.cells #[.string x, .string y, .string z] 33) := ⟨_, rfl⟩
      have HB1 : Vl (Below w.heap.size w W1) := by rw [hW1]; exact HB.out.alloc HB.out.size _
      have HBX : Vl (RtBox W1 wr.heap.size (x, y, z)) := by rw [hW1]; exact rtbox_new wr x y z _
      have HCF := vl (fun W (hb : Below w.heap.size w W) => HC.out W (x, y, z) hsz hb)
      obtain ⟨d0, d1, d2⟩ := HBX.out
      obtain ⟨b, hb⟩ : ∃ b, fitsR host path (rtO (x, y, z)) = b := ⟨_, rfl⟩
      rw [hb] at HCF
      have HFB : Vl (fitsR host path ((rtsOf L).getD k rt0) = b) := by show _ = _; rw [HAT.out]; exact hb
      have HF := vl hf
      have HBL : Vl (∀ w1, Below W1.drew.heap.size W1.drew w1 → Below w.heap.size w w1) := fun w1 hb => HB1.out.trans (((Below.refl _ W1).drew.trans hb).mono HB1.out.size)
      clear hb hsz hr2 hf
      have HD := vl (HCF.out W1.drew (HBL.out _ (Below.refl _ _)))
      have HCL : Vl (∀ j, o = some j → BestIn (rtsOf L) host path k (some j)) := fun j e => by rw [← e]; exact HK.out
      go_upto_region 4 with fail
      rw [← hW1]
      clear hW1 c0 c1 c2
      go_cut [29] (fun r wz => r = .bool (pickB b o (rtsOf L) k) ∧ Vl (Below w.heap.size w wz))
      case first =>
        as_aux_lemma =>
          cases b with
          | false =>
            refine wp_region_any (by kernel_rfl) ?_
            change wpAny _ _ _ _ _ _ _ (World.drew _)
            refine wpAny_cast (l' := #[false, false, false, false, false, false, false, false, false, false, false, false, false, false, false]) rfl ?_
            refine wpAny_ready (rs := [0, 1]) (by kernel_rfl) (by simp) ?_
            refine AllReady.cons rfl (fun K hK => ?_) (AllReady.cons rfl (fun K hK => ?_) AllReady.nil)
            go_simp
            refine hK _ _ ?_
            clear hK K
            refine wpAny_cast (l' := #[true, false, false, false, false, false, false, false, false, false, false, false, false, false, false]) rfl ?Sa0
            rotate_left
            go_simp
            refine hK _ _ ?_
            clear hK K
            refine wpAny_cast (l' := #[false, true, false, false, false, false, false, false, false, false, false, false, false, false, false]) rfl ?Sa1
            rotate_left
            refine wpAny_ready (rs := [1]) (by kernel_rfl) (by simp) ?_
            refine AllReady.cons rfl (fun K hK => ?_) AllReady.nil
            go_simp
            refine hK _ _ ?_
            clear hK K
            refine wpAny_cast (l' := #[true, true, false, false, false, false, false, false, false, false, false, false, false, false, false]) rfl ?Sa0_1
            rotate_left
            refine wpAny_ready (rs := [0]) (by kernel_rfl) (by simp) ?_
            refine AllReady.cons rfl (fun K hK => ?_) AllReady.nil
            go_simp
            refine hK _ _ ?_
            clear hK K
            refine wpAny_cast (l' := #[true, true, false, false, false, false, false, false, false, false, false, false, false, false, false]) rfl ?_
            exact ?Sa0_1
            refine wpAny_ready (rs := [2]) (by kernel_rfl) (by simp) ?_
            refine AllReady.cons rfl (fun K hK => ?_) AllReady.nil
            go_simp
            go_wp2_with (refine HD.out.mono ?_; rintro e w1 ⟨rfl, hb⟩)
            refine wpAny_cast (l' := #[true, true, true, false, false, false, false, false, false, false, false, false, false, false, false]) rfl ?_
            refine wpAny_ready (rs := [3]) (by kernel_rfl) (by simp) ?_
            refine AllReady.cons rfl (fun K hK => ?_) AllReady.nil
            go_simp
            refine hK _ _ ?_
            clear hK K
            refine wpAny_cast (l' := #[true, true, true, true, false, false, false, false, false, false, false, false, false, false, false]) rfl ?Sa0_1_2_3
            refine wpAny_ready (rs := [4]) (by kernel_rfl) (by simp) ?_
            refine AllReady.cons rfl (fun K hK => ?_) AllReady.nil
            go_simp
            refine hK _ _ ?_
            clear hK K
            refine wpAny_cast (l' := #[true, true, true, true, true, false, false, false, false, false, false, false, false, false, false]) rfl ?Sa0_1_2_3_4
            refine wpAny_ready (rs := [5]) (by kernel_rfl) (by simp) ?_
            refine AllReady.cons rfl (fun K hK => ?_) AllReady.nil
            go_simp
            refine hK _ _ ?_
            clear hK K
            refine wpAny_cast (l' := #[true, true, true, true, true, true, false, false, false, false, false, false, false, false, false]) rfl ?Sa0_1_2_3_4_5
            refine wpAny_ready (rs := [6]) (by kernel_rfl) (by simp) ?_
            refine AllReady.cons rfl (fun K hK => ?_) AllReady.nil
            go_simp
            refine hK _ _ ?_
            clear hK K
            refine wpAny_cast (l' := #[true, true, true, true, true, true, true, false, false, false, false, false, false, false, false]) rfl ?Sa0_1_2_3_4_5_6
            refine wpAny_ready (rs := [7, 8, 9]) (by kernel_rfl) (by simp) ?_
            refine AllReady.cons rfl (fun K hK => ?_) (AllReady.cons rfl (fun K hK => ?_) (AllReady.cons rfl (fun K hK => ?_) AllReady.nil))
            go_simp
            refine hK _ _ ?_
            clear hK K
            refine wpAny_cast (l' := #[true, true, true, true, true, true, true, true, false, false, false, false, false, false, false]) rfl ?Sa0_1_2_3_4_5_6_7
            rotate_left
            go_simp
            refine hK _ _ ?_
            clear hK K
            refine wpAny_cast (l' := #[true, true, true, true, true, true, true, false, true, false, false, false, false, false, false]) rfl ?Sa0_1_2_3_4_5_6_8
            rotate_left
            go_simp
            refine hK _ _ ?_
            clear hK K
            refine wpAny_cast (l' := #[true, true, true, true, true, true, true, false, false, true, false, false, false, false, false]) rfl ?Sa0_1_2_3_4_5_6_9
            rotate_left
            refine wpAny_ready (rs := [8, 9]) (by kernel_rfl) (by simp) ?_
            refine AllReady.cons rfl (fun K hK => ?_) (AllReady.cons rfl (fun K hK => ?_) AllReady.nil)
            go_simp
            refine hK _ _ ?_
            clear hK K
            refine wpAny_cast (l' := #[true, true, true, true, true, true, true, true, true, false, false, false, false, false, false]) rfl ?Sa0_1_2_3_4_5_6_7_8
            rotate_left
            go_simp
            refine hK _ _ ?_
            clear hK K
            refine wpAny_cast (l' := #[true, true, true, true, true, true, true, true, false, true, false, false, false, false, false]) rfl ?Sa0_1_2_3_4_5_6_7_9
            rotate_left
            refine wpAny_ready (rs := [7, 9]) (by kernel_rfl) (by simp) ?_
            refine AllReady.cons rfl (fun K hK => ?_) (AllReady.cons rfl (fun K hK => ?_) AllReady.nil)
            go_simp
            refine hK _ _ ?_
            clear hK K
            refine wpAny_cast (l' := #[true, true, true, true, true, true, true, true, true, false, false, false, false, false, false]) rfl ?_
            exact ?Sa0_1_2_3_4_5_6_7_8
            go_simp
            refine hK _ _ ?_
            clear hK K
            refine wpAny_cast (l' := #[true, true, true, true, true, true, true, false, true, true, false, false, false, false, false]) rfl ?Sa0_1_2_3_4_5_6_8_9
            rotate_left
            refine wpAny_ready (rs := [7, 8]) (by kernel_rfl) (by simp) ?_
            refine AllReady.cons rfl (fun K hK => ?_) (AllReady.cons rfl (fun K hK => ?_) AllReady.nil)
            go_simp
            refine hK _ _ ?_
            clear hK K
            refine wpAny_cast (l' := #[true, true, true, true, true, true, true, true, false, true, false, false, false, false, false]) rfl ?_
            exact ?Sa0_1_2_3_4_5_6_7_9
            go_simp
            refine hK _ _ ?_
            clear hK K
            refine wpAny_cast (l' := #[true, true, true, true, true, true, true, false, true, true, false, false, false, false, false]) rfl ?_
            exact ?Sa0_1_2_3_4_5_6_8_9
            refine wpAny_ready (rs := [9]) (by kernel_rfl) (by simp) ?_
            refine AllReady.cons rfl (fun K hK => ?_) AllReady.nil
            go_simp
            refine hK _ _ ?_
            clear hK K
            refine wpAny_cast (l' := #[true, true, true, true, true, true, true, true, true, true, false, false, false, false, false]) rfl ?Sa0_1_2_3_4_5_6_7_8_9
            rotate_left
            refine wpAny_ready (rs := [8]) (by kernel_rfl) (by simp) ?_
            refine AllReady.cons rfl (fun K hK => ?_) AllReady.nil
            go_simp
            refine hK _ _ ?_
            clear hK K
            refine wpAny_cast (l' := #[true, true, true, true, true, true, true, true, true, true, false, false, false, false, false]) rfl ?_
            exact ?Sa0_1_2_3_4_5_6_7_8_9
            refine wpAny_ready (rs := [7, 10]) (by kernel_rfl) (by simp) ?_
            refine AllReady.cons rfl (fun K hK => ?_) (AllReady.cons rfl (fun K hK => ?_) AllReady.nil)
            go_simp
            refine hK _ _ ?_
            clear hK K
            refine wpAny_cast (l' := #[true, true, true, true, true, true, true, true, true, true, false, false, false, false, false]) rfl ?_
            exact ?Sa0_1_2_3_4_5_6_7_8_9
            go_simp
            refine hK _ _ ?_
            clear hK K
            refine wpAny_cast (l' := #[true, true, true, true, true, true, true, false, true, true, true, false, false, false, false]) rfl ?Sa0_1_2_3_4_5_6_8_9_10
            rotate_left
            refine wpAny_ready (rs := [10]) (by kernel_rfl) (by simp) ?_
            refine AllReady.cons rfl (fun K hK => ?_) AllReady.nil
            go_simp
            refine hK _ _ ?_
            clear hK K
            refine wpAny_cast (l' := #[true, true, true, true, true, true, true, true, true, true, true, false, false, false, false]) rfl ?Sa0_1_2_3_4_5_6_7_8_9_10
            rotate_left
            refine wpAny_ready (rs := [7, 11]) (by kernel_rfl) (by simp) ?_
            refine AllReady.cons rfl (fun K hK => ?_) (AllReady.cons rfl (fun K hK => ?_) AllReady.nil)
            go_simp
            refine hK _ _ ?_
            clear hK K
            refine wpAny_cast (l' := #[true, true, true, true, true, true, true, true, true, true, true, false, false, false, false]) rfl ?_
            exact ?Sa0_1_2_3_4_5_6_7_8_9_10
            go_simp
            refine hK _ _ ?_
            clear hK K
            refine wpAny_cast (l' := #[true, true, true, true, true, true, true, false, true, true, true, true, false, false, false]) rfl ?Sa0_1_2_3_4_5_6_8_9_10_11
            rotate_left
            refine wpAny_ready (rs := [11]) (by kernel_rfl) (by simp) ?_
            refine AllReady.cons rfl (fun K hK => ?_) AllReady.nil
            go_simp
            refine hK _ _ ?_
            clear hK K
            refine wpAny_cast (l' := #[true, true, true, true, true, true, true, true, true, true, true, true, false, false, false]) rfl ?Sa0_1_2_3_4_5_6_7_8_9_10_11
            rotate_left
            refine wpAny_ready (rs := [7]) (by kernel_rfl) (by simp) ?_
            refine AllReady.cons rfl (fun K hK => ?_) AllReady.nil
            go_simp
            refine hK _ _ ?_
            clear hK K
            refine wpAny_cast (l' := #[true, true, true, true, true, true, true, true, true, true, true, true, false, false, false]) rfl ?_
            exact ?Sa0_1_2_3_4_5_6_7_8_9_10_11
            refine wpAny_ready (rs := [12]) (by kernel_rfl) (by simp) ?_
            refine AllReady.cons rfl (fun K hK => ?_) AllReady.nil
            go_simp
            refine hK _ _ ?_
            clear hK K
            refine wpAny_cast (l' := #[true, true, true, true, true, true, true, true, true, true, true, true, true, false, false]) rfl ?Sa0_1_2_3_4_5_6_7_8_9_10_11_12
            refine wpAny_ready (rs := [13]) (by kernel_rfl) (by simp) ?_
            refine AllReady.cons rfl (fun K hK => ?_) AllReady.nil
            go_simp
            refine hK _ _ ?_
            clear hK K
            refine wpAny_cast (l' := #[true, true, true, true, true, true, true, true, true, true, true, true, true, true, false]) rfl ?Sa0_1_2_3_4_5_6_7_8_9_10_11_12_13
            refine wpAny_ready (rs := [14]) (by kernel_rfl) (by simp) ?_
            refine AllReady.cons rfl (fun K hK => ?_) AllReady.nil
            go_simp
            refine hK _ _ ?_
            clear hK K
            refine wpAny_cast (l' := #[true, true, true, true, true, true, true, true, true, true, true, true, true, true, true]) rfl ?Sa0_1_2_3_4_5_6_7_8_9_10_11_12_13_14
            refine wpAny_done (by kernel_rfl) ?_ _
            have HBW := vl (HBL.out _ hb)
            go_wp2
            go_meet
            exact ⟨rfl, HBW.out⟩
          | true =>
            cases o with
            | none =>
              unfold atV
              simp only [Option.isSome]
              refine wp_region_any (by kernel_rfl) ?_
              change wpAny _ _ _ _ _ _ _ (World.drew _)
              refine wpAny_cast (l' := #[false, false, false, false, false, false, false, false, false, false, false, false, false, false, false]) rfl ?_
              refine wpAny_ready (rs := [0, 1]) (by kernel_rfl) (by simp) ?_
              refine AllReady.cons rfl (fun K hK => ?_) (AllReady.cons rfl (fun K hK => ?_) AllReady.nil)
              go_simp
              refine hK _ _ ?_
              clear hK K
              refine wpAny_cast (l' := #[true, false, false, false, false, false, false, false, false, false, false, false, false, false, false]) rfl ?Sb0
              rotate_left
              go_simp
              refine hK _ _ ?_
              clear hK K
              refine wpAny_cast (l' := #[false, true, false, false, false, false, false, false, false, false, false, false, false, false, false]) rfl ?Sb1
              rotate_left
              refine wpAny_ready (rs := [1]) (by kernel_rfl) (by simp) ?_
              refine AllReady.cons rfl (fun K hK => ?_) AllReady.nil
              go_simp
              refine hK _ _ ?_
              clear hK K
              refine wpAny_cast (l' := #[true, true, false, false, false, false, false, false, false, false, false, false, false, false, false]) rfl ?Sb0_1
              rotate_left
              refine wpAny_ready (rs := [0]) (by kernel_rfl) (by simp) ?_
              refine AllReady.cons rfl (fun K hK => ?_) AllReady.nil
              go_simp
              refine hK _ _ ?_
              clear hK K
              refine wpAny_cast (l' := #[true, true, false, false, false, false, false, false, false, false, false, false, false, false, false]) rfl ?_
              exact ?Sb0_1
              refine wpAny_ready (rs := [2]) (by kernel_rfl) (by simp) ?_
              refine AllReady.cons rfl (fun K hK => ?_) AllReady.nil
              go_simp
              go_wp2_with (refine HD.out.mono ?_; rintro e w1 ⟨rfl, hb⟩)
              refine wpAny_cast (l' := #[true, true, true, false, false, false, false, false, false, false, false, false, false, false, false]) rfl ?_
              refine wpAny_ready (rs := [3]) (by kernel_rfl) (by simp) ?_
              refine AllReady.cons rfl (fun K hK => ?_) AllReady.nil
              go_simp
              refine hK _ _ ?_
              clear hK K
              refine wpAny_cast (l' := #[true, true, true, true, false, false, false, false, false, false, false, false, false, false, false]) rfl ?Sb0_1_2_3
              refine wpAny_ready (rs := [4]) (by kernel_rfl) (by simp) ?_
              refine AllReady.cons rfl (fun K hK => ?_) AllReady.nil
              go_simp
              refine hK _ _ ?_
              clear hK K
              refine wpAny_cast (l' := #[true, true, true, true, true, false, false, false, false, false, false, false, false, false, false]) rfl ?Sb0_1_2_3_4
              refine wpAny_ready (rs := [5]) (by kernel_rfl) (by simp) ?_
              refine AllReady.cons rfl (fun K hK => ?_) AllReady.nil
              go_simp
              refine hK _ _ ?_
              clear hK K
              refine wpAny_cast (l' := #[true, true, true, true, true, true, false, false, false, false, false, false, false, false, false]) rfl ?Sb0_1_2_3_4_5
              refine wpAny_ready (rs := [6]) (by kernel_rfl) (by simp) ?_
              refine AllReady.cons rfl (fun K hK => ?_) AllReady.nil
              go_simp
              refine hK _ _ ?_
              clear hK K
              refine wpAny_cast (l' := #[true, true, true, true, true, true, true, false, false, false, false, false, false, false, false]) rfl ?Sb0_1_2_3_4_5_6
              refine wpAny_ready (rs := [7, 8, 9]) (by kernel_rfl) (by simp) ?_
              refine AllReady.cons rfl (fun K hK => ?_) (AllReady.cons rfl (fun K hK => ?_) (AllReady.cons rfl (fun K hK => ?_) AllReady.nil))
              go_simp
              refine hK _ _ ?_
              clear hK K
              refine wpAny_cast (l' := #[true, true, true, true, true, true, true, true, false, false, false, false, false, false, false]) rfl ?Sb0_1_2_3_4_5_6_7
              rotate_left
              go_simp
              refine hK _ _ ?_
              clear hK K
              refine wpAny_cast (l' := #[true, true, true, true, true, true, true, false, true, false, false, false, false, false, false]) rfl ?Sb0_1_2_3_4_5_6_8
              rotate_left
              go_simp
              refine hK _ _ ?_
              clear hK K
              refine wpAny_cast (l' := #[true, true, true, true, true, true, true, false, false, true, false, false, false, false, false]) rfl ?Sb0_1_2_3_4_5_6_9
              rotate_left
              refine wpAny_ready (rs := [8, 9]) (by kernel_rfl) (by simp) ?_
              refine AllReady.cons rfl (fun K hK => ?_) (AllReady.cons rfl (fun K hK => ?_) AllReady.nil)
              go_simp
              refine hK _ _ ?_
              clear hK K
              refine wpAny_cast (l' := #[true, true, true, true, true, true, true, true, true, false, false, false, false, false, false]) rfl ?Sb0_1_2_3_4_5_6_7_8
              rotate_left
              go_simp
              refine hK _ _ ?_
              clear hK K
              refine wpAny_cast (l' := #[true, true, true, true, true, true, true, true, false, true, false, false, false, false, false]) rfl ?Sb0_1_2_3_4_5_6_7_9
              rotate_left
              refine wpAny_ready (rs := [7, 9]) (by kernel_rfl) (by simp) ?_
              refine AllReady.cons rfl (fun K hK => ?_) (AllReady.cons rfl (fun K hK => ?_) AllReady.nil)
              go_simp
              refine hK _ _ ?_
              clear hK K
              refine wpAny_cast (l' := #[true, true, true, true, true, true, true, true, true, false, false, false, false, false, false]) rfl ?_
              exact ?Sb0_1_2_3_4_5_6_7_8
              go_simp
              refine hK _ _ ?_
              clear hK K
              refine wpAny_cast (l' := #[true, true, true, true, true, true, true, false, true, true, false, false, false, false, false]) rfl ?Sb0_1_2_3_4_5_6_8_9
              rotate_left
              refine wpAny_ready (rs := [7, 8]) (by kernel_rfl) (by simp) ?_
              refine AllReady.cons rfl (fun K hK => ?_) (AllReady.cons rfl (fun K hK => ?_) AllReady.nil)
              go_simp
              refine hK _ _ ?_
              clear hK K
              refine wpAny_cast (l' := #[true, true, true, true, true, true, true, true, false, true, false, false, false, false, false]) rfl ?_
              exact ?Sb0_1_2_3_4_5_6_7_9
              go_simp
              refine hK _ _ ?_
              clear hK K
              refine wpAny_cast (l' := #[true, true, true, true, true, true, true, false, true, true, false, false, false, false, false]) rfl ?_
              exact ?Sb0_1_2_3_4_5_6_8_9
              refine wpAny_ready (rs := [9]) (by kernel_rfl) (by simp) ?_
              refine AllReady.cons rfl (fun K hK => ?_) AllReady.nil
              go_simp
              refine hK _ _ ?_
              clear hK K
              refine wpAny_cast (l' := #[true, true, true, true, true, true, true, true, true, true, false, false, false, false, false]) rfl ?Sb0_1_2_3_4_5_6_7_8_9
              rotate_left
              refine wpAny_ready (rs := [8]) (by kernel_rfl) (by simp) ?_
              refine AllReady.cons rfl (fun K hK => ?_) AllReady.nil
              go_simp
              refine hK _ _ ?_
              clear hK K
              refine wpAny_cast (l' := #[true, true, true, true, true, true, true, true, true, true, false, false, false, false, false]) rfl ?_
              exact ?Sb0_1_2_3_4_5_6_7_8_9
              refine wpAny_ready (rs := [7, 10]) (by kernel_rfl) (by simp) ?_
              refine AllReady.cons rfl (fun K hK => ?_) (AllReady.cons rfl (fun K hK => ?_) AllReady.nil)
              go_simp
              refine hK _ _ ?_
              clear hK K
              refine wpAny_cast (l' := #[true, true, true, true, true, true, true, true, true, true, false, false, false, false, false]) rfl ?_
              exact ?Sb0_1_2_3_4_5_6_7_8_9
              go_simp
              refine hK _ _ ?_
              clear hK K
              refine wpAny_cast (l' := #[true, true, true, true, true, true, true, false, true, true, true, false, false, false, false]) rfl ?Sb0_1_2_3_4_5_6_8_9_10
              rotate_left
              refine wpAny_ready (rs := [10]) (by kernel_rfl) (by simp) ?_
              refine AllReady.cons rfl (fun K hK => ?_) AllReady.nil
              go_simp
              refine hK _ _ ?_
              clear hK K
              refine wpAny_cast (l' := #[true, true, true, true, true, true, true, true, true, true, true, false, false, false, false]) rfl ?Sb0_1_2_3_4_5_6_7_8_9_10
              rotate_left
              refine wpAny_ready (rs := [7, 11]) (by kernel_rfl) (by simp) ?_
              refine AllReady.cons rfl (fun K hK => ?_) (AllReady.cons rfl (fun K hK => ?_) AllReady.nil)
              go_simp
              refine hK _ _ ?_
              clear hK K
              refine wpAny_cast (l' := #[true, true, true, true, true, true, true, true, true, true, true, false, false, false, false]) rfl ?_
              exact ?Sb0_1_2_3_4_5_6_7_8_9_10
              go_simp
              refine hK _ _ ?_
              clear hK K
              refine wpAny_cast (l' := #[true, true, true, true, true, true, true, false, true, true, true, true, false, false, false]) rfl ?Sb0_1_2_3_4_5_6_8_9_10_11
              rotate_left
              refine wpAny_ready (rs := [11]) (by kernel_rfl) (by simp) ?_
              refine AllReady.cons rfl (fun K hK => ?_) AllReady.nil
              go_simp
              refine hK _ _ ?_
              clear hK K
              refine wpAny_cast (l' := #[true, true, true, true, true, true, true, true, true, true, true, true, false, false, false]) rfl ?Sb0_1_2_3_4_5_6_7_8_9_10_11
              rotate_left
              refine wpAny_ready (rs := [7]) (by kernel_rfl) (by simp) ?_
              refine AllReady.cons rfl (fun K hK => ?_) AllReady.nil
              go_simp
              refine hK _ _ ?_
              clear hK K
              refine wpAny_cast (l' := #[true, true, true, true, true, true, true, true, true, true, true, true, false, false, false]) rfl ?_
              exact ?Sb0_1_2_3_4_5_6_7_8_9_10_11
              refine wpAny_ready (rs := [12]) (by kernel_rfl) (by simp) ?_
              refine AllReady.cons rfl (fun K hK => ?_) AllReady.nil
              go_simp
              refine hK _ _ ?_
              clear hK K
              refine wpAny_cast (l' := #[true, true, true, true, true, true, true, true, true, true, true, true, true, false, false]) rfl ?Sb0_1_2_3_4_5_6_7_8_9_10_11_12
              refine wpAny_ready (rs := [13]) (by kernel_rfl) (by simp) ?_
              refine AllReady.cons rfl (fun K hK => ?_) AllReady.nil
              go_simp
              refine hK _ _ ?_
              clear hK K
              refine wpAny_cast (l' := #[true, true, true, true, true, true, true, true, true, true, true, true, true, true, false]) rfl ?Sb0_1_2_3_4_5_6_7_8_9_10_11_12_13
              refine wpAny_ready (rs := [14]) (by kernel_rfl) (by simp) ?_
              refine AllReady.cons rfl (fun K hK => ?_) AllReady.nil
              go_simp
              refine hK _ _ ?_
              clear hK K
              refine wpAny_cast (l' := #[true, true, true, true, true, true, true, true, true, true, true, true, true, true, true]) rfl ?Sb0_1_2_3_4_5_6_7_8_9_10_11_12_13_14
              refine wpAny_done (by kernel_rfl) ?_ _
              have HBW := vl (HBL.out _ hb)
              go_wp2
              go_meet
              exact ⟨rfl, HBW.out⟩
            | some j =>
              have hj := (HCL.out j rfl).1
              have hj1 : j < len := by omega
              have hj' : (j : Int) < (len : Int) := by omega
              have hr3 := HR.out.below HB1.out
              have c0 := hr3.h0 j hj1
              have c1 := hr3.h1 j hj1
              have c2 := hr3.h2 j hj1
              have HAJ := vl (rts_at L j)
              generalize L.getD j rbn = f at *
              obtain ⟨a1, b1, z1⟩ := f
              have HI := vl (fun W => wisc_any (x, y, z) (a1, b1, z1) W)
              have HP : Vl (pickB true (some j) (rtsOf L) k = closerB (rtO (x, y, z)) (rtO (a1, b1, z1))) := by show closerB ((rtsOf L).getD k rt0) ((rtsOf L).getD j rt0) = _; rw [HAT.out, HAJ.out]
              generalize closerB (rtO (x, y, z)) (rtO (a1, b1, z1)) = cb at *
              clear hr3
              have hgl := blk_of_cell c0
              have HZ : Vl (∀ w1, Below W1.drew.heap.size W1.drew w1 → (w1.cell? ⟨wr.heap.size, 0, none⟩ = some (.string x) ∧ w1.cell? ⟨wr.heap.size, 1, none⟩ = some (.string y) ∧ w1.cell? ⟨wr.heap.size, 2, none⟩ = some (.string z)) ∧ w1.cell? ⟨g, off + j * 3, none⟩ = some (.string a1) ∧ w1.cell? ⟨g, off + j * 3 + 1, none⟩ = some (.string b1) ∧ w1.cell? ⟨g, off + j * 3 + 2, none⟩ = some (.string z1)) := fun w1 hb =>
                ⟨HBX.out.below ((Below.refl _ W1).drew.trans hb) (blk_of_cell d0), (hb.cell (p := ⟨g, off + j * 3, none⟩) hgl).trans c0, (hb.cell (p := ⟨g, off + j * 3 + 1, none⟩) hgl).trans c1, (hb.cell (p := ⟨g, off + j * 3 + 2, none⟩) hgl).trans c2⟩
              unfold atV
              simp only [Option.isSome]
              have h0j : (0 : Int) ≤ (j : Int) := by omega
              go_region_held3 (fun w' => (w'.cell? ⟨wr.heap.size, 0, none⟩ = some (.string x) ∧ w'.cell? ⟨wr.heap.size, 1, none⟩ = some (.string y) ∧ w'.cell? ⟨wr.heap.size, 2, none⟩ = some (.string z)) ∧ w'.cell? ⟨g, off + j * 3, none⟩ = some (.string a1) ∧ w'.cell? ⟨g, off + j * 3 + 1, none⟩ = some (.string b1) ∧ w'.cell? ⟨g, off + j * 3 + 2, none⟩ = some (.string z1))
                (first | go_keep | (exact HZ.out _ hq) | (exact HZ.out _ hb))
                (first
                  | (go_at_call 40; refine (HI.out _).mono ?_; rintro e w2 ⟨rfl, hq0⟩; have hq := hb.trans (hq0.mono hb.size))
                  | (refine HD.out.mono ?_; rintro e w1 ⟨rfl, hb⟩))
              have HBW := vl (HBL.out _ hq)
              go_wp2
              go_meet
              exact ⟨by rw [HP.out], HBW.out⟩
      case rest =>
        obtain ⟨rfl, HB2⟩ := hcut
        obtain ⟨wz, hwz⟩ : ∃ x, x = wc := ⟨_, rfl⟩
        subst hwz
        have HN := vl (best_pick HCK.out (k := k) (by rw [rts_len, HL.out]; exact hlt) HK.out HFB.out)
        generalize pickB b o (rtsOf L) k = pb at *
        clear HD HCF HBX d0 d1 d2
        cases pb with
        | true =>
          go_wp2_with fail
          go_roundw
          case rel => exact ⟨k + 1, some k, by go_num, rfl, rfl, by omega, HN.out, HB2⟩
          case measure => simp [intOf]; omega
        | false =>
          go_wp2_with fail
          go_roundw
          case rel => exact ⟨k + 1, o, by go_num, rfl, rfl, by omega, HN.out, HB2⟩
          case measure => simp [intOf]; omega
    · have hke : k = len := by omega
      subst hke
      have HQ : Vl (CloE (rtsOf L) host path (.returned (.tuple #[atV o, .bool o.isSome]))) := ⟨o, rfl, by rw [rts_len, HL.out]; exact HK.out⟩
      go_wp2_with fail
      go_ret2
      exact ⟨HQ.out, HB.out⟩
theorem wclo_any (a : Option Addr) (len cap : Nat) (L : List Rb) (F : Value) (host path : List Int) (w : World) (hA : RtArg w a len cap L) (hs : SzL L) (hc : chkR (rtsOf L) = 0) (hF : PrdR w F (fitsR host path)) :
    Calls Tryd.prog 23 #[.slice a len cap, F] w fun e w' => CloE (rtsOf L) host path e ∧ Below w.heap.size w w' := by
  rcases hA with ⟨rfl, rfl⟩ | ⟨g, off, rfl, hr⟩
  · have HQ : Vl (CloE (rtsOf []) host path (.returned (.tuple #[.int .i64 0, .bool false]))) := ⟨none, rfl, fun j hj => by simp [rtsOf] at hj⟩
    go_enter Tryd.func23, Tryd.ntmps23
    go_wp2_with fail
    go_loopw [4, 5, 10] (fun x y i wr => x = .int .i64 0 ∧ y = .bool false ∧ i = .int .i64 0 ∧ wr = w) (fun _ _ _ _ => 0)
    case atStart => exact ⟨rfl, rfl, rfl, rfl⟩
    case round =>
      obtain ⟨rfl, rfl, rfl, rfl⟩ := hrel
      go_wp2_with fail
      go_ret2
      exact ⟨HQ.out, Below.refl _ _⟩
  · exact wclo_row g off len cap L F host path w hr hs hc hF
end Go.Proofs.YtmjdfbbhlbecdaaDoor
