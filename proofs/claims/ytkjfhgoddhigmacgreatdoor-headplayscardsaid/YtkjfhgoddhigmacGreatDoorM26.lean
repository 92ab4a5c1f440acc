/-
  CONTRACT of the method Add of tollref1.T, where the field fits. No claim by itself.
-/
import Derived.Test.YtkjfhgoddhigmacGreatDoorM25
namespace Go.Proofs.YtkjfhgoddhigmacGreatDoor
open Go.RowKit
theorem keep3 {a b : World} {tb o bx : Nat} {V x y z : Value} (hb : Below a.heap.size a b) (hne : tb ≠ bx) (h : a.cell? ⟨bx, 0, none⟩ = some x ∧ a.cell? ⟨bx, 1, none⟩ = some y ∧ a.cell? ⟨tb, o + 1, none⟩ = some z) :
    (b.setCell ⟨tb, o, none⟩ V).cell? ⟨bx, 0, none⟩ = some x ∧ (b.setCell ⟨tb, o, none⟩ V).cell? ⟨bx, 1, none⟩ = some y ∧ (b.setCell ⟨tb, o, none⟩ V).cell? ⟨tb, o + 1, none⟩ = some z := by
  obtain ⟨h1, h2, h3⟩ := h
  refine ⟨?_, ?_, ?_⟩
  · rw [World.cell?_setCell_far b ⟨tb, o, none⟩ ⟨bx, 0, none⟩ V hne, hb.cell (p := ⟨bx, 0, none⟩) (blk_lt h1)]; exact h1
  · rw [World.cell?_setCell_far b ⟨tb, o, none⟩ ⟨bx, 1, none⟩ V hne, hb.cell (p := ⟨bx, 1, none⟩) (blk_lt h2)]; exact h2
  · rw [World.cell?_setCell_other b ⟨tb, o, none⟩ ⟨tb, o + 1, none⟩ V (by simp), hb.cell (p := ⟨tb, o + 1, none⟩) (blk_lt h3)]; exact h3
set_option maxRecDepth 100000 in
set_option maxHeartbeats 4000000 in
theorem radd_row (tb o g cap : Nat) (max : Int) (A : List (ByteArray × ByteArray)) (n v : ByteArray) (w : World) (hmax : w.cell? ⟨tb, o + 1, none⟩ = some (.int .i64 max)) (hfz : w.frozen? ⟨tb, o, none⟩ = false) (hfz1 : w.frozen? ⟨tb, o + 1, none⟩ = false)
    (h0 : w.cell? ⟨tb, o, none⟩ = some (.slice (some ⟨g, 0, none⟩) A.length cap)) (hgt : g ≠ tb) (hr : FRow w g 0 A.length cap A) (hw : weight A ≤ 1152921504606846976) (hA : A.length ≤ 1048576)
    (hnv : n.size + v.size ≤ 1152921504606846976) (hle : (fsize (n, v) : Int) ≤ max) (hm : max ≤ 1152921504606846976) :
    Calls Tryz.prog 23 #[.pointer (some ⟨tb, o, none⟩), .agg #[.string n, .string v]] w fun e w' => e = .returned (.bool true) ∧ But tb o w w' ∧ TabR w' tb o max ((n, v) :: A.take (keepN A (max - fsize (n, v)) A.length)) (fun q => w.heap.size ≤ q) := by
  have htb : tb < w.heap.size := blk_lt h0
  have k1 : (w.alloc (.cells #[.string n, .string v] 60)).cell? ⟨tb, o + 1, none⟩ = some (.int .i64 max) := by rw [World.cell?_alloc_lt _ _ ⟨tb, o + 1, none⟩ htb]; exact hmax
  have k0 : (w.alloc (.cells #[.string n, .string v] 60)).cell? ⟨tb, o, none⟩ = some (.slice (some ⟨g, 0, none⟩) A.length cap) := by rw [World.cell?_alloc_lt _ _ ⟨tb, o, none⟩ htb]; exact h0
  obtain ⟨i0, hi, hz0, hz1, hz2⟩ := info_parts infoF
  have HR : Hid (FRow w g 0 A.length cap A) := hr
  clear hr
  go_enter Tryz.func23, Tryz.ntmps23
  go_wp2_with fail
  go_region_held3 (fun w' => w'.cell? ⟨w.heap.size, 0, none⟩ = some (.string n) ∧ w'.cell? ⟨w.heap.size, 1, none⟩ = some (.string v) ∧ w'.cell? ⟨tb, o + 1, none⟩ = some (.int .i64 max))
    (first | go_keep | (simp [World.cell?_alloc_lt, htb, hmax]))
    ((go_at_call 30; refine (rsize_any n v _ hnv).mono ?_; rintro e w' ⟨rfl, rfl⟩))
  obtain ⟨y, hy⟩ : ∃ y, fsize (n, v) = y := ⟨_, rfl⟩
  rw [hy] at hle
  rw [hy]
  have HY : Hid (fsize (n, v) = y) := hy
  clear hy
  have hd : decide (max < (y : Int)) = false := by simp; omega
  go_wp2_with fail
  obtain ⟨W2, hW2⟩ : ∃ W2, W2 = ((w.alloc (.cells #[.string n, .string v] 60)).alloc (.cells #[.string n, .string v] 60)).drew := ⟨_, rfl⟩
  have hbW : Below w.heap.size w W2 := by rw [hW2]; exact (((Below.refl _ _).alloc (Nat.le_refl _) _).alloc (by simp) _).drew
  have hsW : W2.heap.size = w.heap.size + 2 := by rw [hW2]; simp
  have b0 : W2.cell? ⟨w.heap.size, 0, none⟩ = some (.string n) := by rw [hW2]; simp
  have b1 : W2.cell? ⟨w.heap.size, 1, none⟩ = some (.string v) := by rw [hW2]; simp
  rw [← hW2]
  have m1 : W2.cell? ⟨tb, o + 1, none⟩ = some (.int .i64 max) := (hbW.cell (p := ⟨tb, o + 1, none⟩) htb).trans hmax
  have m0 : W2.cell? ⟨tb, o, none⟩ = some (.slice (some ⟨g, 0, none⟩) A.length cap) := (hbW.cell (p := ⟨tb, o, none⟩) htb).trans h0
  have mf1 := hide ((hbW.frozen (p := ⟨tb, o + 1, none⟩) htb).trans hfz1)
  have mf : W2.frozen? ⟨tb, o, none⟩ = false := (hbW.frozen (p := ⟨tb, o, none⟩) htb).trans hfz
  have HX : Hid (∀ wx, Below W2.heap.size W2 wx → wx.cell? ⟨tb, o, none⟩ = some (.slice (some ⟨g, 0, none⟩) A.length cap) ∧ wx.frozen? ⟨tb, o, none⟩ = false ∧ FRow wx g 0 A.length cap A) := by
    intro wx hb
    have hlt : tb < W2.heap.size := by omega
    exact ⟨(hb.cell (p := ⟨tb, o, none⟩) hlt).trans m0, (hb.frozen (p := ⟨tb, o, none⟩) hlt).trans mf, (HR.out.below hbW).below hb⟩
  have hW3 := hide hW2
  have htn : ¬ w.heap.size = tb := by omega
  have htl : tb < W2.heap.size := by omega
  have hwl : w.heap.size < W2.heap.size := by omega
  clear hW2 k1 k0
  go_region_held3 (fun w' => w'.cell? ⟨w.heap.size, 0, none⟩ = some (.string n) ∧ w'.cell? ⟨w.heap.size, 1, none⟩ = some (.string v) ∧ w'.cell? ⟨tb, o + 1, none⟩ = some (.int .i64 max))
    (first | go_keep | (refine keep3 hb5 (fun h => htn h.symm) ?_; (first | assumption | (refine ⟨?_, ?_, ?_⟩ <;> simp [World.cell?_alloc_lt, htl, hwl, b0, b1, m1]))) | (refine ⟨?_, ?_, ?_⟩ <;> simp [World.cell?_alloc_lt, htl, hwl, b0, b1, m1]))
    (first
      | (go_at_call 30; refine (rsize_any n v _ hnv).mono ?_; rintro e w' ⟨rfl, rfl⟩; rw [HY.out])
      | (go_at_call 18; refine (rshrink_row tb o g cap A _ _ (HX.out _ (by first | exact ((Below.refl _ _).alloc (Nat.le_refl _) _).drew | exact ((Below.refl _ _).drew).alloc (Nat.le_refl _) _)).1 (HX.out _ (by first | exact ((Below.refl _ _).alloc (Nat.le_refl _) _).drew | exact ((Below.refl _ _).drew).alloc (Nat.le_refl _) _)).2.1 (HX.out _ (by first | exact ((Below.refl _ _).alloc (Nat.le_refl _) _).drew | exact ((Below.refl _ _).drew).alloc (Nat.le_refl _) _)).2.2 hw).mono ?_; rintro e w' ⟨rfl, w5, hb5, rfl⟩))
  have hwr : IntKind.i64.wrap (max - (y : Int)) = max - (y : Int) := by simp only [IntKind.wrap, IntKind.bits, IntKind.signed]; simp; omega
  rw [hwr]
  have hbC : Below W2.heap.size W2 w5 := ((Below.refl _ _).alloc (Nat.le_refl _) _).drew.trans (hb5.mono (by simp))
  have hkn := keepN_le A (max - (y : Int)) A.length
  have hs5 := hbC.size
  have hrow := ((HX.out w5 hbC).2.2).take (keepN A (max - (y : Int)) A.length) hkn
  have hcm := (HX.out w5 hbC).2.2.hmax
  unfold maxLen at hcm
  have hT5 : TabR w5 tb o max A (fun _ => True) := ⟨(hbC.cell (p := ⟨tb, o + 1, none⟩) htl).trans m1, ⟨(HX.out w5 hbC).2.1, (hbC.frozen (p := ⟨tb, o + 1, none⟩) htl).trans mf1.out⟩, _, (HX.out w5 hbC).1, Or.inr ⟨g, cap, rfl, hgt, fun _ => trivial, (HX.out w5 hbC).2.2⟩⟩
  have n0 : w5.cell? ⟨w.heap.size, 0, none⟩ = some (.string n) := (hbC.cell (p := ⟨w.heap.size, 0, none⟩) hwl).trans b0
  have n1 : w5.cell? ⟨w.heap.size, 1, none⟩ = some (.string v) := (hbC.cell (p := ⟨w.heap.size, 1, none⟩) hwl).trans b1
  generalize hkk : keepN A (max - (y : Int)) A.length = kn at *
  have HKK := hide hkk
  clear hkk
  have hlk : (A.take kn).length = kn := by rw [List.length_take]; omega
  have hT6 := hT5.set (B := A.take kn) (G' := fun _ => True) (.slice (some ⟨g, 0, none⟩) kn cap) (Or.inr ⟨g, cap, by rw [hlk], hgt, fun _ => trivial, by rw [hlk]; exact hrow⟩)
  have hrow6 : FRow (w5.setCell ⟨tb, o, none⟩ (.slice (some ⟨g, 0, none⟩) kn cap)) g 0 kn cap (A.take kn) := hrow.setCell hgt _
  have o0 : (w5.setCell ⟨tb, o, none⟩ (.slice (some ⟨g, 0, none⟩) kn cap)).cell? ⟨w.heap.size, 0, none⟩ = some (.string n) := by rw [World.cell?_setCell_far _ ⟨tb, o, none⟩ ⟨w.heap.size, 0, none⟩ _ (fun h => htn h.symm)]; exact n0
  have o1 : (w5.setCell ⟨tb, o, none⟩ (.slice (some ⟨g, 0, none⟩) kn cap)).cell? ⟨w.heap.size, 1, none⟩ = some (.string v) := by rw [World.cell?_setCell_far _ ⟨tb, o, none⟩ ⟨w.heap.size, 1, none⟩ _ (fun h => htn h.symm)]; exact n1
  have o2 : (w5.setCell ⟨tb, o, none⟩ (.slice (some ⟨g, 0, none⟩) kn cap)).cell? ⟨tb, o, none⟩ = some (.slice (some ⟨g, 0, none⟩) kn cap) := World.cell?_setCell_same _ _ _ (HX.out w5 hbC).1
  have hs6 : (w5.setCell ⟨tb, o, none⟩ (.slice (some ⟨g, 0, none⟩) kn cap)).heap.size = w5.heap.size := by simp
  have hB6 : But tb o w (w5.setCell ⟨tb, o, none⟩ (.slice (some ⟨g, 0, none⟩) kn cap)) := (But.of_below (hbW.trans (hbC.mono (by omega))  )).setCell _
  generalize w5.setCell ⟨tb, o, none⟩ (.slice (some ⟨g, 0, none⟩) kn cap) = W6 at *
  have htb6 : tb < W6.heap.size := by rw [hs6]; omega
  have hbx6 : w.heap.size < W6.heap.size := by rw [hs6]; omega
  clear hs6
  have HT6 := hide hT6
  have HB6 := hide hB6
  have HR6 := hide hrow6
  clear hT6 hT5 hrow n0 n1 b0 b1 m0 m1 mf hB6 hrow6 hb5 HX hmax hfz h0
  have HOWN := hide (World.ownsRow_lit (base := W6.heap.size) (e := 60) (size := 2) W6 (fcells [(n, v)]).toArray 1 (Nat.le_refl _) (by decide) (by rfl))
  have HC : Hid (∀ j u, (fcells (A.take kn))[j]? = some u → (W6.alloc (.cells #[.string n, .string v] 60)).cell? ((⟨g, 0, none⟩ : Addr).add j) = some u) := fcells_get (HR6.out.below ((Below.refl _ _).alloc (Nat.le_refl _) _))
  have HL : Hid ((fcells (A.take kn)).length = kn * 2) := by show _ = kn * 2; rw [fcells_len, hlk]
  go_wp2_with (at_builtin; refine wpList_append_own _ rfl _ _ 38 rfl W6.heap.size 60 i0 _ 2 32 Tryz.underlying38 hi hz0 hz1 hz2 rfl (by decide) _ _ _ rfl HOWN.out ⟨g, 0, none⟩ kn cap (fcells (A.take kn)) rfl HL.out HC.out (fcells_one _) ?c3 ?c4 ?c5 ?_)
  case c3 => unfold maxLen; omega
  case c4 => omega
  intro v' w7 hown' hgrow _
  have hb7 : Below W6.heap.size W6 w7 := ((Below.refl _ _).alloc (Nat.le_refl _) _).grown hgrow (by simp) (fun k hk => (HOWN.out.lt k hk).1)
  have hsh : ∃ gg cc, v' = .slice (some ⟨gg, 0, none⟩) (1 + kn) cc ∧ W6.heap.size ≤ gg := by
    obtain ⟨_, ⟨_, h0⟩ | ⟨g', cap', cur, hv, hb, _⟩⟩ := id hown'
    · omega
    · exact ⟨g', cap', hv, hb⟩
  obtain ⟨gg, cc, rfl, hgg⟩ := hsh
  have hT7 := HT6.out.below hb7
  have hfr := frow_of (L := (n, v) :: A.take kn) (by rw [List.length_cons, hlk]; omega) hown'
  have p0 : w7.cell? ⟨tb, o, none⟩ = some (.slice (some ⟨g, 0, none⟩) kn cap) := (hb7.cell (p := ⟨tb, o, none⟩) (blk_lt o2)).trans o2
  have pf := hT7.hfz
  have hT8 := hT7.set (B := (n, v) :: A.take kn) (G' := fun q => w.heap.size ≤ q) (.slice (some ⟨gg, 0, none⟩) (1 + kn) cc) (Or.inr ⟨gg, cc, by rw [List.length_cons, hlk, Nat.add_comm], by have := blk_lt o2; simp at this; omega, fun _ => (by show w.heap.size ≤ gg; omega), by rw [List.length_cons, hlk, Nat.add_comm kn 1]; exact hfr⟩)
  have HT8 := hide hT8
  have HB8 := hide ((HB6.out.trans (But.of_below hb7)).setCell (.slice (some ⟨gg, 0, none⟩) (1 + kn) cc))
  clear hown' hgrow hT8 hT7 hfr o0 o1 o2
  go_wp2
  go_ret
  have h9 := HT8.out
  refine ⟨rfl, HB8.out, ?_⟩
  rw [HY.out, HKK.out]
  exact h9
end Go.Proofs.YtkjfhgoddhigmacGreatDoor
/-
  CONTRACT of the method Add of tollref1.T, where nothing was added. No claim by itself.
-/
namespace Go.Proofs.YtkjfhgoddhigmacGreatDoor
open Go.RowKit
theorem rshrink_nil2 (tb o : Nat) (most : Int) (w : World) (h0 : w.cell? ⟨tb, o, none⟩ = some (.slice none 0 0)) (hf : w.frozen? ⟨tb, o, none⟩ = false) :
    Calls Tryz.prog 18 #[.pointer (some ⟨tb, o, none⟩), .int .i64 most] w fun e w' => e = .returned (.tuple #[]) ∧ ∃ w1, Below w.heap.size w w1 ∧ w' = w1.setCell ⟨tb, o, none⟩ (.slice none 0 0) :=
  (rshrink_nil tb o most w h0 hf).mono fun _ _ ⟨he, hw⟩ => ⟨he, w, Below.refl _ _, hw⟩
set_option maxRecDepth 100000 in
set_option maxHeartbeats 4000000 in
theorem radd_nil (tb o : Nat) (max : Int) (n v : ByteArray) (w : World) (hmax : w.cell? ⟨tb, o + 1, none⟩ = some (.int .i64 max)) (hfz : w.frozen? ⟨tb, o, none⟩ = false) (hfz1 : w.frozen? ⟨tb, o + 1, none⟩ = false)
    (h0 : w.cell? ⟨tb, o, none⟩ = some (.slice none 0 0))
    (hnv : n.size + v.size ≤ 1152921504606846976) (hle : (fsize (n, v) : Int) ≤ max) (hm : max ≤ 1152921504606846976) :
    Calls Tryz.prog 23 #[.pointer (some ⟨tb, o, none⟩), .agg #[.string n, .string v]] w fun e w' => e = .returned (.bool true) ∧ But tb o w w' ∧ TabR w' tb o max [(n, v)] (fun q => w.heap.size ≤ q) := by
  have htb : tb < w.heap.size := blk_lt h0
  have k1 : (w.alloc (.cells #[.string n, .string v] 60)).cell? ⟨tb, o + 1, none⟩ = some (.int .i64 max) := by rw [World.cell?_alloc_lt _ _ ⟨tb, o + 1, none⟩ htb]; exact hmax
  have k0 : (w.alloc (.cells #[.string n, .string v] 60)).cell? ⟨tb, o, none⟩ = some (.slice none 0 0) := by rw [World.cell?_alloc_lt _ _ ⟨tb, o, none⟩ htb]; exact h0
  obtain ⟨i0, hi, hz0, hz1, hz2⟩ := info_parts infoF
  go_enter Tryz.func23, Tryz.ntmps23
  go_wp2_with fail
  go_region_held3 (fun w' => w'.cell? ⟨w.heap.size, 0, none⟩ = some (.string n) ∧ w'.cell? ⟨w.heap.size, 1, none⟩ = some (.string v) ∧ w'.cell? ⟨tb, o + 1, none⟩ = some (.int .i64 max))
    (first | go_keep | (simp [World.cell?_alloc_lt, htb, hmax]))
    ((go_at_call 30; refine (rsize_any n v _ hnv).mono ?_; rintro e w' ⟨rfl, rfl⟩))
  obtain ⟨y, hy⟩ : ∃ y, fsize (n, v) = y := ⟨_, rfl⟩
  rw [hy] at hle
  rw [hy]
  have HY : Hid (fsize (n, v) = y) := hy
  clear hy
  have hd : decide (max < (y : Int)) = false := by simp; omega
  go_wp2_with fail
  obtain ⟨W2, hW2⟩ : ∃ W2, W2 = ((w.alloc (.cells #[.string n, .string v] 60)).alloc (.cells #[.string n, .string v] 60)).drew := ⟨_, rfl⟩
  have hbW : Below w.heap.size w W2 := by rw [hW2]; exact (((Below.refl _ _).alloc (Nat.le_refl _) _).alloc (by simp) _).drew
  have hsW : W2.heap.size = w.heap.size + 2 := by rw [hW2]; simp
  have b0 : W2.cell? ⟨w.heap.size, 0, none⟩ = some (.string n) := by rw [hW2]; simp
  have b1 : W2.cell? ⟨w.heap.size, 1, none⟩ = some (.string v) := by rw [hW2]; simp
  rw [← hW2]
  have m1 : W2.cell? ⟨tb, o + 1, none⟩ = some (.int .i64 max) := (hbW.cell (p := ⟨tb, o + 1, none⟩) htb).trans hmax
  have m0 : W2.cell? ⟨tb, o, none⟩ = some (.slice none 0 0) := (hbW.cell (p := ⟨tb, o, none⟩) htb).trans h0
  have mf1 := hide ((hbW.frozen (p := ⟨tb, o + 1, none⟩) htb).trans hfz1)
  have mf : W2.frozen? ⟨tb, o, none⟩ = false := (hbW.frozen (p := ⟨tb, o, none⟩) htb).trans hfz
  have HX : Hid (∀ wx, Below W2.heap.size W2 wx → wx.cell? ⟨tb, o, none⟩ = some (.slice none 0 0) ∧ wx.frozen? ⟨tb, o, none⟩ = false) := by
    intro wx hb
    have hlt : tb < W2.heap.size := by omega
    exact ⟨(hb.cell (p := ⟨tb, o, none⟩) hlt).trans m0, (hb.frozen (p := ⟨tb, o, none⟩) hlt).trans mf⟩
  have hW3 := hide hW2
  have htn : ¬ w.heap.size = tb := by omega
  have htl : tb < W2.heap.size := by omega
  have hwl : w.heap.size < W2.heap.size := by omega
  clear hW2 k1 k0
  go_region_held3 (fun w' => w'.cell? ⟨w.heap.size, 0, none⟩ = some (.string n) ∧ w'.cell? ⟨w.heap.size, 1, none⟩ = some (.string v) ∧ w'.cell? ⟨tb, o + 1, none⟩ = some (.int .i64 max))
    (first | go_keep | (refine keep3 hb5 (fun h => htn h.symm) ?_; (first | assumption | (refine ⟨?_, ?_, ?_⟩ <;> simp [World.cell?_alloc_lt, htl, hwl, b0, b1, m1]))) | (refine ⟨?_, ?_, ?_⟩ <;> simp [World.cell?_alloc_lt, htl, hwl, b0, b1, m1]))
    (first
      | (go_at_call 30; refine (rsize_any n v _ hnv).mono ?_; rintro e w' ⟨rfl, rfl⟩; rw [HY.out])
      | (go_at_call 18; refine (rshrink_nil2 tb o _ _ (HX.out _ (by first | exact ((Below.refl _ _).alloc (Nat.le_refl _) _).drew | exact ((Below.refl _ _).drew).alloc (Nat.le_refl _) _)).1 (HX.out _ (by first | exact ((Below.refl _ _).alloc (Nat.le_refl _) _).drew | exact ((Below.refl _ _).drew).alloc (Nat.le_refl _) _)).2).mono ?_; rintro e w' ⟨rfl, w5, hb5, rfl⟩))
  have hbC : Below W2.heap.size W2 w5 := ((Below.refl _ _).alloc (Nat.le_refl _) _).drew.trans (hb5.mono (by simp))
  have hs5 := hbC.size
  have hT5 : TabR w5 tb o max [] (fun _ => True) := ⟨(hbC.cell (p := ⟨tb, o + 1, none⟩) htl).trans m1, ⟨(HX.out w5 hbC).2, (hbC.frozen (p := ⟨tb, o + 1, none⟩) htl).trans mf1.out⟩, _, (HX.out w5 hbC).1, Or.inl ⟨rfl, rfl⟩⟩
  have n0 : w5.cell? ⟨w.heap.size, 0, none⟩ = some (.string n) := (hbC.cell (p := ⟨w.heap.size, 0, none⟩) hwl).trans b0
  have n1 : w5.cell? ⟨w.heap.size, 1, none⟩ = some (.string v) := (hbC.cell (p := ⟨w.heap.size, 1, none⟩) hwl).trans b1
  have hT6 := hT5.set (B := []) (G' := fun _ => True) (.slice none 0 0) (Or.inl ⟨rfl, rfl⟩)
  have o0 : (w5.setCell ⟨tb, o, none⟩ (.slice none 0 0)).cell? ⟨w.heap.size, 0, none⟩ = some (.string n) := by rw [World.cell?_setCell_far _ ⟨tb, o, none⟩ ⟨w.heap.size, 0, none⟩ _ (fun h => htn h.symm)]; exact n0
  have o1 : (w5.setCell ⟨tb, o, none⟩ (.slice none 0 0)).cell? ⟨w.heap.size, 1, none⟩ = some (.string v) := by rw [World.cell?_setCell_far _ ⟨tb, o, none⟩ ⟨w.heap.size, 1, none⟩ _ (fun h => htn h.symm)]; exact n1
  have o2 : (w5.setCell ⟨tb, o, none⟩ (.slice none 0 0)).cell? ⟨tb, o, none⟩ = some (.slice none 0 0) := World.cell?_setCell_same _ _ _ (HX.out w5 hbC).1
  have hs6 : (w5.setCell ⟨tb, o, none⟩ (.slice none 0 0)).heap.size = w5.heap.size := by simp
  have hB6 : But tb o w (w5.setCell ⟨tb, o, none⟩ (.slice none 0 0)) := (But.of_below (hbW.trans (hbC.mono (by omega))  )).setCell _
  generalize w5.setCell ⟨tb, o, none⟩ (.slice none 0 0) = W6 at *
  have htb6 : tb < W6.heap.size := by rw [hs6]; omega
  have hbx6 : w.heap.size < W6.heap.size := by rw [hs6]; omega
  clear hs6
  have HT6 := hide hT6
  have HB6 := hide hB6
  have pf := hT6.hfz
  clear hT6 hT5 n0 n1 b0 b1 m0 m1 mf hB6 hb5 HX hmax hfz h0
  have HOWN := hide (World.ownsRow_lit (base := W6.heap.size) (e := 60) (size := 2) W6 (fcells [(n, v)]).toArray 1 (Nat.le_refl _) (by decide) (by rfl))
  go_wp2_with (at_builtin; refine wpList_append_own_none rfl _ _ 38 rfl W6.heap.size 60 i0 2 Tryz.underlying38 hi _ _ _ rfl HOWN.out rfl ?_)
  have hb7 : Below W6.heap.size W6 (W6.alloc (.cells #[.string n, .string v] 60)) := (Below.refl _ _).alloc (Nat.le_refl _) _
  have hT7 := HT6.out.below hb7
  have hfr := frow_of (L := [(n, v)]) rfl HOWN.out
  have hT8 := hT7.set (B := [(n, v)]) (G' := fun q => w.heap.size ≤ q) (.slice (some ⟨W6.heap.size, 0, none⟩) 1 1) (Or.inr ⟨W6.heap.size, 1, rfl, by omega, fun _ => (by show w.heap.size ≤ W6.heap.size; omega), hfr⟩)
  have HT8 := hide hT8
  have HB8 := hide ((HB6.out.trans (But.of_below hb7)).setCell (.slice (some ⟨W6.heap.size, 0, none⟩) 1 1))
  clear hT8 hT7 hfr o0 o1
  go_wp2
  go_ret
  have e6 := World.setCell_alloc_past (w := W6) (.cells #[.string n, .string v] 60) tb o (.slice (some ⟨W6.heap.size, 0, none⟩) 1 1) htb6
  refine ⟨rfl, ?_, ?_⟩
  · rw [← e6]; exact HB8.out
  · rw [← e6]; exact HT8.out
/-- Add, whatever the table holds. -/
theorem radd_any (tb o : Nat) (max : Int) (A : List (ByteArray × ByteArray)) (n v : ByteArray) (w : World) {G : Nat → Prop} (hT : TabR w tb o max A G) (hF : Fit max A) (hnv : n.size + v.size ≤ 1152921504606846976) :
    Calls Tryz.prog 23 #[.pointer (some ⟨tb, o, none⟩), .agg #[.string n, .string v]] w fun e w' => e = .returned (.bool (addL A (n, v) max).1) ∧ But tb o w w' ∧ TabR w' tb o max (addL A (n, v) max).2 (fun q => w.heap.size ≤ q) := by
  have h1 := hF.h1
  have h2 := hF.h2
  have hl := hF.len
  by_cases hgt : max < (fsize (n, v) : Int)
  · have e : addL A (n, v) max = (false, []) := by unfold addL; rw [if_pos hgt]
    rw [e]
    exact radd_over tb o max A n v w hT hnv hgt
  · have e : addL A (n, v) max = (true, (n, v) :: A.take (keepN A (max - fsize (n, v)) A.length)) := by unfold addL; rw [if_neg hgt]
    rw [e]
    obtain ⟨hmax, hfz, v0, h0, ⟨rfl, rfl⟩ | ⟨g, cap, rfl, hg, hG, hr⟩⟩ := hT
    · exact radd_nil tb o max n v w hmax hfz.1 hfz.2 h0 hnv (by omega) (by omega)
    · exact radd_row tb o g cap max A n v w hmax hfz.1 hfz.2 h0 hg hr (by omega) (by omega) hnv (by omega) (by omega)
/-- Shrink, whatever the table holds. -/
theorem rshrink_any (tb o : Nat) (max most : Int) (A : List (ByteArray × ByteArray)) (w : World) {G : Nat → Prop} (hT : TabR w tb o max A G) (hw : weight A ≤ 1152921504606846976) :
    Calls Tryz.prog 18 #[.pointer (some ⟨tb, o, none⟩), .int .i64 most] w fun e w' => e = .returned (.tuple #[]) ∧ But tb o w w' ∧ TabR w' tb o max (A.take (keepN A most A.length)) G := by
  have hT0 := hT
  obtain ⟨hmax, hfz, v0, h0, ⟨rfl, rfl⟩ | ⟨g, cap, rfl, hg, hG, hr⟩⟩ := hT
  · refine (rshrink_nil2 tb o most w h0 hfz.1).mono ?_
    rintro e w' ⟨rfl, w1, hb, rfl⟩
    exact ⟨rfl, (But.of_below hb).setCell _, (hT0.below hb).set _ (Or.inl ⟨rfl, by simp⟩)⟩
  · refine (rshrink_row tb o g cap A most w h0 hfz.1 hr hw).mono ?_
    rintro e w' ⟨rfl, w1, hb, rfl⟩
    have hk := keepN_le A most A.length
    have hlk : (A.take (keepN A most A.length)).length = keepN A most A.length := by rw [List.length_take]; omega
    exact ⟨rfl, (But.of_below hb).setCell _, (hT0.below hb).set _ (Or.inr ⟨g, cap, by rw [hlk], hg, fun h => hG (fun e => h (by rw [e]; simp)), by rw [hlk]; exact (hr.below hb).take _ hk⟩)⟩
/-- A table whose own blocks are as they were is as it was. -/
theorem TabR.kept {w w' : World} {tb o : Nat} {max : Int} {A : List (ByteArray × ByteArray)} {G : Nat → Prop} (h : TabR w tb o max A G) (ht : w'.heap[tb]? = w.heap[tb]?) (hG : ∀ q, q < w.heap.size → G q → w'.heap[q]? = w.heap[q]?) : TabR w' tb o max A G := by
  have hc : ∀ o, w'.cell? ⟨tb, o, none⟩ = w.cell? ⟨tb, o, none⟩ := fun o => World.cell?_of_block (w := w) (a := ⟨tb, o, none⟩) ht
  have hf : ∀ o, w'.frozen? ⟨tb, o, none⟩ = w.frozen? ⟨tb, o, none⟩ := fun o => by unfold World.frozen?; rw [ht]
  obtain ⟨h1, h2, v, h3, h4⟩ := h
  refine ⟨(hc _).trans h1, ⟨(hf _).trans h2.1, (hf _).trans h2.2⟩, v, (hc _).trans h3, ?_⟩
  rcases h4 with h4 | ⟨g, cap, hv, hg, hGg, hr⟩
  · exact Or.inl h4
  · have hne : ∀ t, t < A.length → A ≠ [] := fun t ht e => by rw [e] at ht; simp at ht
    refine Or.inr ⟨g, cap, hv, hg, hGg, hr.hlen, hr.hcap, hr.hmax, fun t ht => ?_, fun t ht => ?_⟩
    · have k := hr.hname t ht
      exact (World.cell?_of_block (w := w) (a := ⟨g, _, none⟩) (hG g (blk_lt k) (hGg (hne t ht)))).trans k
    · have k := hr.hvalue t ht
      exact (World.cell?_of_block (w := w) (a := ⟨g, _, none⟩) (hG g (blk_lt k) (hGg (hne t ht)))).trans k
theorem TabR.imp {w : World} {tb o : Nat} {max : Int} {A : List (ByteArray × ByteArray)} {G G' : Nat → Prop} (h : TabR w tb o max A G) (hi : ∀ q, q < w.heap.size → G q → G' q) : TabR w tb o max A G' := by
  obtain ⟨h1, h2, v, h3, h4⟩ := h
  refine ⟨h1, h2, v, h3, ?_⟩
  rcases h4 with h4 | ⟨g, cap, hv, hg, hGg, hr⟩
  · exact Or.inl h4
  · refine Or.inr ⟨g, cap, hv, hg, fun h => ?_, hr⟩
    have h0 : 0 < A.length := by
      rcases Nat.eq_zero_or_pos A.length with e | e
      · exact absurd (List.eq_nil_of_length_eq_zero e) h
      · exact e
    exact hi g (blk_lt (hr.hname 0 h0)) (hGg h)
end Go.Proofs.YtkjfhgoddhigmacGreatDoor
/-
  CONTRACTS of tollref1's All, Find and Weight, whatever a table holds. No claim by itself.
-/
namespace Go.Proofs.YtkjfhgoddhigmacGreatDoor
open Go.RowKit
theorem rall_any (tb o : Nat) (max : Int) (A : List (ByteArray × ByteArray)) {G : Nat → Prop} (w : World) (hT : TabR w tb o max A G) (hn : A.length ≤ 1048576) :
    Calls Tryz.prog 37 #[.pointer (some ⟨tb, o, none⟩)] w fun e w' => ∃ gg cc, e = .returned (.slice (some ⟨gg, 0, none⟩) (12 + A.length) cc) ∧ FRow w' gg 0 (12 + A.length) cc (alwaysL ++ A) ∧ Below w.heap.size w w' := by
  obtain ⟨hmax, hfz, v0, h0, ⟨rfl, rfl⟩ | ⟨g, cap, rfl, hg, hG, hr⟩⟩ := hT
  · refine (rall_nil tb o w h0).mono ?_
    rintro e w' ⟨gg, cc, rfl, hr, hb⟩
    exact ⟨gg, cc, rfl, by simpa using hr, hb⟩
  · exact rall_row tb o g cap A w h0 hr hn
theorem rfind_any (tb o : Nat) (max : Int) (A : List (ByteArray × ByteArray)) {G : Nat → Prop} (n v : ByteArray) (w : World) (hT : TabR w tb o max A G) (hn : A.length ≤ 1048576) :
    Calls Tryz.prog 21 #[.pointer (some ⟨tb, o, none⟩), .agg #[.string n, .string v]] w fun e w' => e = .returned (.tuple #[.int .i64 (fnd (isF n v) (alwaysL ++ A) 0), .int .i64 (fnd (isN n) (alwaysL ++ A) 0)]) ∧ Below w.heap.size w w' :=
  find_loop tb o (alwaysL ++ A) n v w (12 + A.length) (by omega) (fun wx hb => rall_any tb o max A wx (hT.below hb) hn)
theorem rweight_nil (w : World) (a : Option Addr) (cap : Nat) :
    Calls Tryz.prog 12 #[.slice a 0 cap] w fun e w' => e = .returned (.int .i64 0) ∧ Below w.heap.size w w' := by
  go_enter Tryz.func12, Tryz.ntmps12
  go_wp2_with fail
  refine wp_loop_rounds 1 ?_
  rw [rounds_succ]
  go_wp2
  go_ret
  exact ⟨rfl, Below.refl _ _⟩
/-- What a table's list weighs. -/
theorem rweight_tab (tb o : Nat) (max : Int) (A : List (ByteArray × ByteArray)) {G : Nat → Prop} (v0 : Value) (w w2 : World) (hT : TabR w tb o max A G) (hv : w.cell? ⟨tb, o, none⟩ = some v0) (hb : Below w.heap.size w w2) (hw : weight A ≤ 1152921504606846976) :
    Calls Tryz.prog 12 #[v0] w2 fun e w' => e = .returned (.int .i64 (weight A : Int)) ∧ Below w2.heap.size w2 w' := by
  obtain ⟨hmax, hfz, v1, h0, h4⟩ := hT
  obtain rfl : v0 = v1 := Option.some.inj (hv.symm.trans h0)
  rcases h4 with ⟨rfl, rfl⟩ | ⟨g, cap, rfl, hg, hG, hr⟩
  · exact rweight_nil w2 none 0
  · exact rweight_any g 0 A.length cap A w2 (hr.below hb) hw
end Go.Proofs.YtkjfhgoddhigmacGreatDoor
