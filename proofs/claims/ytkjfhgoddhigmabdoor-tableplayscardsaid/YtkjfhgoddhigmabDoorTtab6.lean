/-
  CONTRACT of the method Add of tollref1.T, where nothing was added. No claim by itself.
-/
import Derived.Test.YtkjfhgoddhigmabDoorTtab5
namespace Go.Proofs.YtkjfhgoddhigmabDoor
open Go.RowKit
theorem rshrink_nil2 (tb : Nat) (most : Int) (w : World) (h0 : w.cell? ⟨tb, 0, none⟩ = some (.slice none 0 0)) (hf : w.frozen? ⟨tb, 0, none⟩ = false) :
    Calls Tryd.prog 11 #[.pointer (some ⟨tb, 0, none⟩), .int .i64 most] w fun e w' => e = .returned (.tuple #[]) ∧ ∃ w1, Below w.heap.size w w1 ∧ w' = w1.setCell ⟨tb, 0, none⟩ (.slice none 0 0) :=
  (rshrink_nil tb most w h0 hf).mono fun _ _ ⟨he, hw⟩ => ⟨he, w, Below.refl _ _, hw⟩
set_option maxRecDepth 100000 in
set_option maxHeartbeats 4000000 in
theorem radd_nil (tb : Nat) (max : Int) (n v : ByteArray) (w : World) (hmax : w.cell? ⟨tb, 1, none⟩ = some (.int .i64 max)) (hfz : w.frozen? ⟨tb, 0, none⟩ = false) (hfz1 : w.frozen? ⟨tb, 1, none⟩ = false)
    (h0 : w.cell? ⟨tb, 0, none⟩ = some (.slice none 0 0))
    (hnv : n.size + v.size ≤ 1152921504606846976) (hle : (fsize (n, v) : Int) ≤ max) (hm : max ≤ 1152921504606846976) :
    Calls Tryd.prog 10 #[.pointer (some ⟨tb, 0, none⟩), .agg #[.string n, .string v]] w fun e w' => e = .returned (.bool true) ∧ But tb w w' ∧ TabR w' tb max [(n, v)] (fun q => w.heap.size ≤ q) := by
  have htb : tb < w.heap.size := blk_lt h0
  have k1 : (w.alloc (.cells #[.string n, .string v] 36)).cell? ⟨tb, 1, none⟩ = some (.int .i64 max) := by rw [World.cell?_alloc_lt _ _ ⟨tb, 1, none⟩ htb]; exact hmax
  have k0 : (w.alloc (.cells #[.string n, .string v] 36)).cell? ⟨tb, 0, none⟩ = some (.slice none 0 0) := by rw [World.cell?_alloc_lt _ _ ⟨tb, 0, none⟩ htb]; exact h0
  obtain ⟨i0, hi, hz0, hz1, hz2⟩ := info_parts infoF
  go_enter Tryd.func10, Tryd.ntmps10
  go_wp2_with fail
  go_region_held3 (fun w' => w'.cell? ⟨w.heap.size, 0, none⟩ = some (.string n) ∧ w'.cell? ⟨w.heap.size, 1, none⟩ = some (.string v) ∧ w'.cell? ⟨tb, 1, none⟩ = some (.int .i64 max))
    (first | go_keep | (simp [World.cell?_alloc_lt, htb, hmax]))
    ((go_at_call 21; refine (rsize_any n v _ hnv).mono ?_; rintro e w' ⟨rfl, rfl⟩))
  obtain ⟨y, hy⟩ : ∃ y, fsize (n, v) = y := ⟨_, rfl⟩
  rw [hy] at hle
  rw [hy]
  have HY : Hid (fsize (n, v) = y) := hy
  clear hy
  have hd : decide (max < (y : Int)) = false := by simp; omega
  go_wp2_with fail
  obtain ⟨W2, hW2⟩ : ∃ W2, W2 = ((w.alloc (.cells #[.string n, .string v] 36)).alloc (.cells #[.string n, .string v] 36)).drew := ⟨_, rfl⟩
  have hbW : Below w.heap.size w W2 := by rw [hW2]; exact (((Below.refl _ _).alloc (Nat.le_refl _) _).alloc (by simp) _).drew
  have hsW : W2.heap.size = w.heap.size + 2 := by rw [hW2]; simp
  have b0 : W2.cell? ⟨w.heap.size, 0, none⟩ = some (.string n) := by rw [hW2]; simp
  have b1 : W2.cell? ⟨w.heap.size, 1, none⟩ = some (.string v) := by rw [hW2]; simp
  rw [← hW2]
  have m1 : W2.cell? ⟨tb, 1, none⟩ = some (.int .i64 max) := (hbW.cell (p := ⟨tb, 1, none⟩) htb).trans hmax
  have m0 : W2.cell? ⟨tb, 0, none⟩ = some (.slice none 0 0) := (hbW.cell (p := ⟨tb, 0, none⟩) htb).trans h0
  have mf1 := hide ((hbW.frozen (p := ⟨tb, 1, none⟩) htb).trans hfz1)
  have mf : W2.frozen? ⟨tb, 0, none⟩ = false := (hbW.frozen (p := ⟨tb, 0, none⟩) htb).trans hfz
  have HX : Hid (∀ wx, Below W2.heap.size W2 wx → wx.cell? ⟨tb, 0, none⟩ = some (.slice none 0 0) ∧ wx.frozen? ⟨tb, 0, none⟩ = false) := by
    intro wx hb
    have hlt : tb < W2.heap.size := by omega
    exact ⟨(hb.cell (p := ⟨tb, 0, none⟩) hlt).trans m0, (hb.frozen (p := ⟨tb, 0, none⟩) hlt).trans mf⟩
  have hW3 := hide hW2
  have htn : ¬ w.heap.size = tb := by omega
  have htl : tb < W2.heap.size := by omega
  have hwl : w.heap.size < W2.heap.size := by omega
  clear hW2 k1 k0
  go_region_held3 (fun w' => w'.cell? ⟨w.heap.size, 0, none⟩ = some (.string n) ∧ w'.cell? ⟨w.heap.size, 1, none⟩ = some (.string v) ∧ w'.cell? ⟨tb, 1, none⟩ = some (.int .i64 max))
    (first | go_keep | (refine keep3 hb5 (fun h => htn h.symm) ?_; (first | assumption | (refine ⟨?_, ?_, ?_⟩ <;> simp [World.cell?_alloc_lt, htl, hwl, b0, b1, m1]))) | (refine ⟨?_, ?_, ?_⟩ <;> simp [World.cell?_alloc_lt, htl, hwl, b0, b1, m1]))
    (first
      | (go_at_call 21; refine (rsize_any n v _ hnv).mono ?_; rintro e w' ⟨rfl, rfl⟩; rw [HY.out])
      | (go_at_call 11; refine (rshrink_nil2 tb _ _ (HX.out _ (by first | exact ((Below.refl _ _).alloc (Nat.le_refl _) _).drew | exact ((Below.refl _ _).drew).alloc (Nat.le_refl _) _)).1 (HX.out _ (by first | exact ((Below.refl _ _).alloc (Nat.le_refl _) _).drew | exact ((Below.refl _ _).drew).alloc (Nat.le_refl _) _)).2).mono ?_; rintro e w' ⟨rfl, w5, hb5, rfl⟩))
  have hbC : Below W2.heap.size W2 w5 := ((Below.refl _ _).alloc (Nat.le_refl _) _).drew.trans (hb5.mono (by simp))
  have hs5 := hbC.size
  have hT5 : TabR w5 tb max [] (fun _ => True) := ⟨(hbC.cell (p := ⟨tb, 1, none⟩) htl).trans m1, ⟨(HX.out w5 hbC).2, (hbC.frozen (p := ⟨tb, 1, none⟩) htl).trans mf1.out⟩, _, (HX.out w5 hbC).1, Or.inl ⟨rfl, rfl⟩⟩
  have n0 : w5.cell? ⟨w.heap.size, 0, none⟩ = some (.string n) := (hbC.cell (p := ⟨w.heap.size, 0, none⟩) hwl).trans b0
  have n1 : w5.cell? ⟨w.heap.size, 1, none⟩ = some (.string v) := (hbC.cell (p := ⟨w.heap.size, 1, none⟩) hwl).trans b1
  have hT6 := hT5.set (B := []) (G' := fun _ => True) (.slice none 0 0) (Or.inl ⟨rfl, rfl⟩)
  have o0 : (w5.setCell ⟨tb, 0, none⟩ (.slice none 0 0)).cell? ⟨w.heap.size, 0, none⟩ = some (.string n) := by rw [World.cell?_setCell_far _ ⟨tb, 0, none⟩ ⟨w.heap.size, 0, none⟩ _ (fun h => htn h.symm)]; exact n0
  have o1 : (w5.setCell ⟨tb, 0, none⟩ (.slice none 0 0)).cell? ⟨w.heap.size, 1, none⟩ = some (.string v) := by rw [World.cell?_setCell_far _ ⟨tb, 0, none⟩ ⟨w.heap.size, 1, none⟩ _ (fun h => htn h.symm)]; exact n1
  have o2 : (w5.setCell ⟨tb, 0, none⟩ (.slice none 0 0)).cell? ⟨tb, 0, none⟩ = some (.slice none 0 0) := World.cell?_setCell_same _ _ _ (HX.out w5 hbC).1
  have hs6 : (w5.setCell ⟨tb, 0, none⟩ (.slice none 0 0)).heap.size = w5.heap.size := by simp
  have hB6 : But tb w (w5.setCell ⟨tb, 0, none⟩ (.slice none 0 0)) := (But.of_below (hbW.trans (hbC.mono (by omega)))).setCell 0 _
  generalize w5.setCell ⟨tb, 0, none⟩ (.slice none 0 0) = W6 at *
  have htb6 : tb < W6.heap.size := by rw [hs6]; omega
  have hbx6 : w.heap.size < W6.heap.size := by rw [hs6]; omega
  clear hs6
  have HT6 := hide hT6
  have HB6 := hide hB6
  have pf := hT6.hfz
  clear hT6 hT5 n0 n1 b0 b1 m0 m1 mf hB6 hb5 HX hmax hfz h0
  have HOWN := hide (World.ownsRow_lit (base := W6.heap.size) (e := 36) (size := 2) W6 (fcells [(n, v)]).toArray 1 (Nat.le_refl _) (by decide) (by rfl))
  go_wp2_with (at_builtin; refine wpList_append_own_none rfl _ _ 22 rfl W6.heap.size 36 i0 2 Tryd.underlying22 hi _ _ _ rfl HOWN.out rfl ?_)
  have hb7 : Below W6.heap.size W6 (W6.alloc (.cells #[.string n, .string v] 36)) := (Below.refl _ _).alloc (Nat.le_refl _) _
  have hT7 := HT6.out.below hb7
  have hfr := frow_of (L := [(n, v)]) rfl HOWN.out
  have hT8 := hT7.set (B := [(n, v)]) (G' := fun q => w.heap.size ≤ q) (.slice (some ⟨W6.heap.size, 0, none⟩) 1 1) (Or.inr ⟨W6.heap.size, 1, rfl, by omega, fun _ => (by show w.heap.size ≤ W6.heap.size; omega), hfr⟩)
  have HT8 := hide hT8
  have HB8 := hide ((HB6.out.trans (But.of_below hb7)).setCell 0 (.slice (some ⟨W6.heap.size, 0, none⟩) 1 1))
  clear hT8 hT7 hfr o0 o1
  go_wp2
  go_ret
  have e6 := World.setCell_alloc_past (w := W6) (.cells #[.string n, .string v] 36) tb 0 (.slice (some ⟨W6.heap.size, 0, none⟩) 1 1) htb6
  refine ⟨rfl, ?_, ?_⟩
  · rw [← e6]; exact HB8.out
  · rw [← e6]; exact HT8.out
/-- Add, whatever the table holds. -/
theorem radd_any (tb : Nat) (max : Int) (A : List (ByteArray × ByteArray)) (n v : ByteArray) (w : World) {G : Nat → Prop} (hT : TabR w tb max A G) (hF : Fit max A) (hnv : n.size + v.size ≤ 1152921504606846976) :
    Calls Tryd.prog 10 #[.pointer (some ⟨tb, 0, none⟩), .agg #[.string n, .string v]] w fun e w' => e = .returned (.bool (addL A (n, v) max).1) ∧ But tb w w' ∧ TabR w' tb max (addL A (n, v) max).2 (fun q => w.heap.size ≤ q) := by
  have h1 := hF.h1
  have h2 := hF.h2
  have hl := hF.len
  by_cases hgt : max < (fsize (n, v) : Int)
  · have e : addL A (n, v) max = (false, []) := by unfold addL; rw [if_pos hgt]
    rw [e]
    exact radd_over tb max A n v w hT hnv hgt
  · have e : addL A (n, v) max = (true, (n, v) :: A.take (keepN A (max - fsize (n, v)) A.length)) := by unfold addL; rw [if_neg hgt]
    rw [e]
    obtain ⟨hmax, hfz, v0, h0, ⟨rfl, rfl⟩ | ⟨g, cap, rfl, hg, hG, hr⟩⟩ := hT
    · exact radd_nil tb max n v w hmax hfz.1 hfz.2 h0 hnv (by omega) (by omega)
    · exact radd_row tb g cap max A n v w hmax hfz.1 hfz.2 h0 hg hr (by omega) (by omega) hnv (by omega) (by omega)
/-- Shrink, whatever the table holds. -/
theorem rshrink_any (tb : Nat) (max most : Int) (A : List (ByteArray × ByteArray)) (w : World) {G : Nat → Prop} (hT : TabR w tb max A G) (hw : weight A ≤ 1152921504606846976) :
    Calls Tryd.prog 11 #[.pointer (some ⟨tb, 0, none⟩), .int .i64 most] w fun e w' => e = .returned (.tuple #[]) ∧ But tb w w' ∧ TabR w' tb max (A.take (keepN A most A.length)) G := by
  have hT0 := hT
  obtain ⟨hmax, hfz, v0, h0, ⟨rfl, rfl⟩ | ⟨g, cap, rfl, hg, hG, hr⟩⟩ := hT
  · refine (rshrink_nil2 tb most w h0 hfz.1).mono ?_
    rintro e w' ⟨rfl, w1, hb, rfl⟩
    exact ⟨rfl, (But.of_below hb).setCell 0 _, (hT0.below hb).set _ (Or.inl ⟨rfl, by simp⟩)⟩
  · refine (rshrink_row tb g cap A most w h0 hfz.1 hr hw).mono ?_
    rintro e w' ⟨rfl, w1, hb, rfl⟩
    have hk := keepN_le A most A.length
    have hlk : (A.take (keepN A most A.length)).length = keepN A most A.length := by rw [List.length_take]; omega
    exact ⟨rfl, (But.of_below hb).setCell 0 _, (hT0.below hb).set _ (Or.inr ⟨g, cap, by rw [hlk], hg, fun h => hG (fun e => h (by rw [e]; simp)), by rw [hlk]; exact (hr.below hb).take _ hk⟩)⟩
/-- A table whose own blocks are as they were is as it was. -/
theorem TabR.kept {w w' : World} {tb : Nat} {max : Int} {A : List (ByteArray × ByteArray)} {G : Nat → Prop} (h : TabR w tb max A G) (ht : w'.heap[tb]? = w.heap[tb]?) (hG : ∀ q, q < w.heap.size → G q → w'.heap[q]? = w.heap[q]?) : TabR w' tb max A G := by
  have hc : ∀ o, w'.cell? ⟨tb, o, none⟩ = w.cell? ⟨tb, o, none⟩ := fun o => World.cell?_of_block (w := w) (a := ⟨tb, o, none⟩) ht
  have hf : ∀ o, w'.frozen? ⟨tb, o, none⟩ = w.frozen? ⟨tb, o, none⟩ := fun o => by unfold World.frozen?; rw [ht]
  obtain ⟨h1, h2, v, h3, h4⟩ := h
  refine ⟨(hc _).trans h1, ⟨(hf _).trans h2.1, (hf _).trans h2.2⟩, v, (hc _).trans h3, ?_⟩
  rcases h4 with h4 | ⟨g, cap, hv, hg, hGg, hr⟩
  · exact Or.inl h4
  · have hne : ∀ t, t < A.length → A ≠ [] := fun t ht e => by rw [e] at ht; simp at ht
    refine Or.inr ⟨g, cap, hv, hg, hGg, hr.hlen, hr.hcap, hr.hmax, fun t ht => ?_, fun t ht => ?_⟩
    · have k := hr.hname t ht
      exact (World.cell?_of_block (w := w) (a := ⟨g, _, none⟩) (hG g (blk_lt k) (hGg (hne t ht)))).trans k
    · have k := hr.hvalue t ht
      exact (World.cell?_of_block (w := w) (a := ⟨g, _, none⟩) (hG g (blk_lt k) (hGg (hne t ht)))).trans k
theorem TabR.imp {w : World} {tb : Nat} {max : Int} {A : List (ByteArray × ByteArray)} {G G' : Nat → Prop} (h : TabR w tb max A G) (hi : ∀ q, q < w.heap.size → G q → G' q) : TabR w tb max A G' := by
  obtain ⟨h1, h2, v, h3, h4⟩ := h
  refine ⟨h1, h2, v, h3, ?_⟩
  rcases h4 with h4 | ⟨g, cap, hv, hg, hGg, hr⟩
  · exact Or.inl h4
  · refine Or.inr ⟨g, cap, hv, hg, fun h => ?_, hr⟩
    have h0 : 0 < A.length := by
      rcases Nat.eq_zero_or_pos A.length with e | e
      · exact absurd (List.eq_nil_of_length_eq_zero e) h
      · exact e
    exact hi g (blk_lt (hr.hname 0 h0)) (hGg h)
end Go.Proofs.YtkjfhgoddhigmabDoor
