/-
  CONTRACT of the method Add of tollref1.T, where the field fits. No claim by itself.
-/
import Derived.Test.YtkjfhgoddhigmabDoorTtab4
namespace Go.Proofs.YtkjfhgoddhigmabDoor
open Go.RowKit
theorem keep3 {a b : World} {tb bx : Nat} {V x y z : Value} (hb : Below a.heap.size a b) (hne : tb ≠ bx) (h : a.cell? ⟨bx, 0, none⟩ = some x ∧ a.cell? ⟨bx, 1, none⟩ = some y ∧ a.cell? ⟨tb, 1, none⟩ = some z) :
    (b.setCell ⟨tb, 0, none⟩ V).cell? ⟨bx, 0, none⟩ = some x ∧ (b.setCell ⟨tb, 0, none⟩ V).cell? ⟨bx, 1, none⟩ = some y ∧ (b.setCell ⟨tb, 0, none⟩ V).cell? ⟨tb, 1, none⟩ = some z := by
  obtain ⟨h1, h2, h3⟩ := h
  refine ⟨?_, ?_, ?_⟩
  · rw [World.cell?_setCell_far b ⟨tb, 0, none⟩ ⟨bx, 0, none⟩ V hne, hb.cell (p := ⟨bx, 0, none⟩) (blk_lt h1)]; exact h1
  · rw [World.cell?_setCell_far b ⟨tb, 0, none⟩ ⟨bx, 1, none⟩ V hne, hb.cell (p := ⟨bx, 1, none⟩) (blk_lt h2)]; exact h2
  · rw [World.cell?_setCell_other b ⟨tb, 0, none⟩ ⟨tb, 1, none⟩ V (by simp), hb.cell (p := ⟨tb, 1, none⟩) (blk_lt h3)]; exact h3
set_option maxRecDepth 100000 in
set_option maxHeartbeats 4000000 in
theorem radd_row (tb g cap : Nat) (max : Int) (A : List (ByteArray × ByteArray)) (n v : ByteArray) (w : World) (hmax : w.cell? ⟨tb, 1, none⟩ = some (.int .i64 max)) (hfz : w.frozen? ⟨tb, 0, none⟩ = false) (hfz1 : w.frozen? ⟨tb, 1, none⟩ = false)
    (h0 : w.cell? ⟨tb, 0, none⟩ = some (.slice (some ⟨g, 0, none⟩) A.length cap)) (hgt : g ≠ tb) (hr : FRow w g 0 A.length cap A) (hw : weight A ≤ 1152921504606846976) (hA : A.length ≤ 1048576)
    (hnv : n.size + v.size ≤ 1152921504606846976) (hle : (fsize (n, v) : Int) ≤ max) (hm : max ≤ 1152921504606846976) :
    Calls Tryd.prog 10 #[.pointer (some ⟨tb, 0, none⟩), .agg #[.string n, .string v]] w fun e w' => e = .returned (.bool true) ∧ But tb w w' ∧ TabR w' tb max ((n, v) :: A.take (keepN A (max - fsize (n, v)) A.length)) (fun q => w.heap.size ≤ q) := by
  have htb : tb < w.heap.size := blk_lt h0
  have k1 : (w.alloc (.cells #[.string n, .string v] 36)).cell? ⟨tb, 1, none⟩ = some (.int .i64 max) := by rw [World.cell?_alloc_lt _ _ ⟨tb, 1, none⟩ htb]; exact hmax
  have k0 : (w.alloc (.cells #[.string n, .string v] 36)).cell? ⟨tb, 0, none⟩ = some (.slice (some ⟨g, 0, none⟩) A.length cap) := by rw [World.cell?_alloc_lt _ _ ⟨tb, 0, none⟩ htb]; exact h0
  obtain ⟨i0, hi, hz0, hz1, hz2⟩ := info_parts infoF
  have HR : Hid (FRow w g 0 A.length cap A) := hr
  clear hr
  go_enter Tryd.func10, Tryd.ntmps10
  go_wp2_with fail
  go_region_held3 (fun w' => w'.cell? ⟨w.heap.size, 0, none⟩ = some (.string n) ∧ w'.cell? ⟨w.heap.size, 1, none⟩ = some (.string v) ∧ w'.cell? ⟨tb, 1, none⟩ = some (.int .i64 max))
    (first | go_keep | (simp [World.cell?_alloc_lt, htb, hmax]))
    ((go_at_call 21; refine (rsize_any n v _ hnv).mono ?_; rintro e w' ⟨rfl, rfl⟩))
  obtain ⟨y, hy⟩ : ∃ y, fsize (n, v) = y := ⟨_, rfl⟩
  rw [hy] at hle
  rw [hy]
  have HY : Hid (fsize (n, v) = y) := hy
  clear hy
  have hd : decide (max < (y : Int)) = false := by simp; omega
  go_wp2_with fail
  obtain ⟨W2, hW2⟩ : ∃ W2, W2 = ((w.alloc (.cells #[.string n, .string v] 36)).alloc (.cells #[.string n, .string v] 36)).drew := ⟨_, rfl⟩
  have hbW : Below w.heap.size w W2 := by rw [hW2]; exact (((Below.refl _ _).alloc (Nat.le_refl _) _).alloc (by simp) _).drew
  have hsW : W2.heap.size = w.heap.size + 2 := by rw [hW2]; simp
  have b0 : W2.cell? ⟨w.heap.size, 0, none⟩ = some (.string n) := by rw [hW2]; simp
  have b1 : W2.cell? ⟨w.heap.size, 1, none⟩ = some (.string v) := by rw [hW2]; simp
  rw [← hW2]
  have m1 : W2.cell? ⟨tb, 1, none⟩ = some (.int .i64 max) := (hbW.cell (p := ⟨tb, 1, none⟩) htb).trans hmax
  have m0 : W2.cell? ⟨tb, 0, none⟩ = some (.slice (some ⟨g, 0, none⟩) A.length cap) := (hbW.cell (p := ⟨tb, 0, none⟩) htb).trans h0
  have mf1 := hide ((hbW.frozen (p := ⟨tb, 1, none⟩) htb).trans hfz1)
  have mf : W2.frozen? ⟨tb, 0, none⟩ = false := (hbW.frozen (p := ⟨tb, 0, none⟩) htb).trans hfz
  have HX : Hid (∀ wx, Below W2.heap.size W2 wx → wx.cell? ⟨tb, 0, none⟩ = some (.slice (some ⟨g, 0, none⟩) A.length cap) ∧ wx.frozen? ⟨tb, 0, none⟩ = false ∧ FRow wx g 0 A.length cap A) := by
    intro wx hb
    have hlt : tb < W2.heap.size := by omega
    exact ⟨(hb.cell (p := ⟨tb, 0, none⟩) hlt).trans m0, (hb.frozen (p := ⟨tb, 0, none⟩) hlt).trans mf, (HR.out.below hbW).below hb⟩
  have hW3 := hide hW2
  have htn : ¬ w.heap.size = tb := by omega
  have htl : tb < W2.heap.size := by omega
  have hwl : w.heap.size < W2.heap.size := by omega
  clear hW2 k1 k0
  go_region_held3 (fun w' => w'.cell? ⟨w.heap.size, 0, none⟩ = some (.string n) ∧ w'.cell? ⟨w.heap.size, 1, none⟩ = some (.string v) ∧ w'.cell? ⟨tb, 1, none⟩ = some (.int .i64 max))
    (first | go_keep | (refine keep3 hb5 (fun h => htn h.symm) ?_; (first | assumption | (refine ⟨?_, ?_, ?_⟩ <;> simp [World.cell?_alloc_lt, htl, hwl, b0, b1, m1]))) | (refine ⟨?_, ?_, ?_⟩ <;> simp [World.cell?_alloc_lt, htl, hwl, b0, b1, m1]))
    (first
      | (go_at_call 21; refine (rsize_any n v _ hnv).mono ?_; rintro e w' ⟨rfl, rfl⟩; rw [HY.out])
      | (go_at_call 11; refine (rshrink_row tb g cap A _ _ (HX.out _ (by first | exact ((Below.refl _ _).alloc (Nat.le_refl _) _).drew | exact ((Below.refl _ _).drew).alloc (Nat.le_refl _) _)).1 (HX.out _ (by first | exact ((Below.refl _ _).alloc (Nat.le_refl _) _).drew | exact ((Below.refl _ _).drew).alloc (Nat.le_refl _) _)).2.1 (HX.out _ (by first | exact ((Below.refl _ _).alloc (Nat.le_refl _) _).drew | exact ((Below.refl _ _).drew).alloc (Nat.le_refl _) _)).2.2 hw).mono ?_; rintro e w' ⟨rfl, w5, hb5, rfl⟩))
  have hwr : IntKind.i64.wrap (max - (y : Int)) = max - (y : Int) := by simp only [IntKind.wrap, IntKind.bits, IntKind.signed]; simp; omega
  rw [hwr]
  have hbC : Below W2.heap.size W2 w5 := ((Below.refl _ _).alloc (Nat.le_refl _) _).drew.trans (hb5.mono (by simp))
  have hkn := keepN_le A (max - (y : Int)) A.length
  have hs5 := hbC.size
  have hrow := ((HX.out w5 hbC).2.2).take (keepN A (max - (y : Int)) A.length) hkn
  have hcm := (HX.out w5 hbC).2.2.hmax
  unfold maxLen at hcm
  have hT5 : TabR w5 tb max A (fun _ => True) := ⟨(hbC.cell (p := ⟨tb, 1, none⟩) htl).trans m1, ⟨(HX.out w5 hbC).2.1, (hbC.frozen (p := ⟨tb, 1, none⟩) htl).trans mf1.out⟩, _, (HX.out w5 hbC).1, Or.inr ⟨g, cap, rfl, hgt, fun _ => trivial, (HX.out w5 hbC).2.2⟩⟩
  have n0 : w5.cell? ⟨w.heap.size, 0, none⟩ = some (.string n) := (hbC.cell (p := ⟨w.heap.size, 0, none⟩) hwl).trans b0
  have n1 : w5.cell? ⟨w.heap.size, 1, none⟩ = some (.string v) := (hbC.cell (p := ⟨w.heap.size, 1, none⟩) hwl).trans b1
  generalize hkk : keepN A (max - (y : Int)) A.length = kn at *
  have HKK := hide hkk
  clear hkk
  have hlk : (A.take kn).length = kn := by rw [List.length_take]; omega
  have hT6 := hT5.set (B := A.take kn) (G' := fun _ => True) (.slice (some ⟨g, 0, none⟩) kn cap) (Or.inr ⟨g, cap, by rw [hlk], hgt, fun _ => trivial, by rw [hlk]; exact hrow⟩)
  have hrow6 : FRow (w5.setCell ⟨tb, 0, none⟩ (.slice (some ⟨g, 0, none⟩) kn cap)) g 0 kn cap (A.take kn) := hrow.setCell hgt _
  have o0 : (w5.setCell ⟨tb, 0, none⟩ (.slice (some ⟨g, 0, none⟩) kn cap)).cell? ⟨w.heap.size, 0, none⟩ = some (.string n) := by rw [World.cell?_setCell_far _ ⟨tb, 0, none⟩ ⟨w.heap.size, 0, none⟩ _ (fun h => htn h.symm)]; exact n0
  have o1 : (w5.setCell ⟨tb, 0, none⟩ (.slice (some ⟨g, 0, none⟩) kn cap)).cell? ⟨w.heap.size, 1, none⟩ = some (.string v) := by rw [World.cell?_setCell_far _ ⟨tb, 0, none⟩ ⟨w.heap.size, 1, none⟩ _ (fun h => htn h.symm)]; exact n1
  have o2 : (w5.setCell ⟨tb, 0, none⟩ (.slice (some ⟨g, 0, none⟩) kn cap)).cell? ⟨tb, 0, none⟩ = some (.slice (some ⟨g, 0, none⟩) kn cap) := World.cell?_setCell_same _ _ _ (HX.out w5 hbC).1
  have hs6 : (w5.setCell ⟨tb, 0, none⟩ (.slice (some ⟨g, 0, none⟩) kn cap)).heap.size = w5.heap.size := by simp
  have hB6 : But tb w (w5.setCell ⟨tb, 0, none⟩ (.slice (some ⟨g, 0, none⟩) kn cap)) := (But.of_below (hbW.trans (hbC.mono (by omega)))).setCell 0 _
  generalize w5.setCell ⟨tb, 0, none⟩ (.slice (some ⟨g, 0, none⟩) kn cap) = W6 at *
  have htb6 : tb < W6.heap.size := by rw [hs6]; omega
  have hbx6 : w.heap.size < W6.heap.size := by rw [hs6]; omega
  clear hs6
  have HT6 := hide hT6
  have HB6 := hide hB6
  have HR6 := hide hrow6
  clear hT6 hT5 hrow n0 n1 b0 b1 m0 m1 mf hB6 hrow6 hb5 HX hmax hfz h0
  have HOWN := hide (World.ownsRow_lit (base := W6.heap.size) (e := 36) (size := 2) W6 (fcells [(n, v)]).toArray 1 (Nat.le_refl _) (by decide) (by rfl))
  have HC : Hid (∀ j u, (fcells (A.take kn))[j]? = some u → (W6.alloc (.cells #[.string n, .string v] 36)).cell? ((⟨g, 0, none⟩ : Addr).add j) = some u) := fcells_get (HR6.out.below ((Below.refl _ _).alloc (Nat.le_refl _) _))
  have HL : Hid ((fcells (A.take kn)).length = kn * 2) := by show _ = kn * 2; rw [fcells_len, hlk]
  go_wp2_with (at_builtin; refine wpList_append_own _ rfl _ _ 22 rfl W6.heap.size 36 i0 _ 2 32 Tryd.underlying22 hi hz0 hz1 hz2 rfl (by decide) _ _ _ rfl HOWN.out ⟨g, 0, none⟩ kn cap (fcells (A.take kn)) rfl HL.out HC.out (fcells_one _) ?c3 ?c4 ?c5 ?_)
  case c3 => unfold maxLen; omega
  case c4 => omega
  intro v' w7 hown' hgrow _
  have hb7 : Below W6.heap.size W6 w7 := ((Below.refl _ _).alloc (Nat.le_refl _) _).grown hgrow (by simp) (fun k hk => (HOWN.out.lt k hk).1)
  have hsh : ∃ gg cc, v' = .slice (some ⟨gg, 0, none⟩) (1 + kn) cc ∧ W6.heap.size ≤ gg := by
    obtain ⟨_, ⟨_, h0⟩ | ⟨g', cap', cur, hv, hb, _⟩⟩ := id hown'
    · omega
    · exact ⟨g', cap', hv, hb⟩
  obtain ⟨gg, cc, rfl, hgg⟩ := hsh
  have hT7 := HT6.out.below hb7
  have hfr := frow_of (L := (n, v) :: A.take kn) (by rw [List.length_cons, hlk]; omega) hown'
  have p0 : w7.cell? ⟨tb, 0, none⟩ = some (.slice (some ⟨g, 0, none⟩) kn cap) := (hb7.cell (p := ⟨tb, 0, none⟩) (blk_lt o2)).trans o2
  have pf := hT7.hfz
  have hT8 := hT7.set (B := (n, v) :: A.take kn) (G' := fun q => w.heap.size ≤ q) (.slice (some ⟨gg, 0, none⟩) (1 + kn) cc) (Or.inr ⟨gg, cc, by rw [List.length_cons, hlk, Nat.add_comm], by have := blk_lt o2; simp at this; omega, fun _ => (by show w.heap.size ≤ gg; omega), by rw [List.length_cons, hlk, Nat.add_comm kn 1]; exact hfr⟩)
  have HT8 := hide hT8
  have HB8 := hide ((HB6.out.trans (But.of_below hb7)).setCell 0 (.slice (some ⟨gg, 0, none⟩) (1 + kn) cc))
  clear hown' hgrow hT8 hT7 hfr o0 o1 o2
  go_wp2
  go_ret
  have h9 := HT8.out
  refine ⟨rfl, HB8.out, ?_⟩
  rw [HY.out, HKK.out]
  exact h9
end Go.Proofs.YtkjfhgoddhigmabDoor
