/-
  NOT TOO OFTEN: the Go functions look and renew of package limit. No claim by itself.
-/
import Derived.Test.YtdcjkdoedkjpfahBl1
namespace Go.Proofs.Ytdcjkdoedkjpfah
open Go.RowKit Go.Maps
set_option maxRecDepth 100000
/-- What look answers. -/
def LookE (w : World) (x : Int × Int × Int) (e : Ending) (w' : World) : Prop := e = .returned (.tuple #[.agg #[.int .i64 x.2.1, .int .i64 x.2.2], errW x.1]) ∧ Below w.heap.size w w'
section
variable {r b : Int} {f : BSt} {n : Nat} {s : List UInt8} {now k : Int}
theorem lookF_bad (h : ¬ (1 ≤ k ∧ k ≤ b) ∨ ¬ (0 ≤ now ∧ now ≤ 1000000)) : lookF r b f n s now k = (1, 0, 0) := by unfold lookF; rw [if_pos h]
theorem lookF_some (h1 : 1 ≤ k ∧ k ≤ b) (h2 : 0 ≤ now ∧ now ≤ 1000000) {l a : Int} (hf : f s = some (l, a)) : lookF r b f n s now k = if now < a then (6, 0, 0) else (0, min (l + (now - a) * r) b, now) := by unfold lookF; rw [if_neg (by omega)]; simp only [hf]
theorem lookF_none (h1 : 1 ≤ k ∧ k ≤ b) (h2 : 0 ≤ now ∧ now ≤ 1000000) (hf : f s = none) : lookF r b f n s now k = if 100 ≤ n then (4, 0, 0) else (0, b, now) := by unfold lookF; rw [if_neg (by omega)]; simp only [hf]
end
theorem set2 {W : World} {g : Nat} {u v : Value} (k0 : W.cell? ⟨g, 0, none⟩ = some u) (k1 : W.cell? ⟨g, 1, none⟩ = some v) (x y : Int) :
    ((W.setCell ⟨g, 0, none⟩ (.int .i64 x)).setCell ⟨g, 1, none⟩ (.int .i64 y)).cell? ⟨g, 0, none⟩ = some (.int .i64 x) ∧ ((W.setCell ⟨g, 0, none⟩ (.int .i64 x)).setCell ⟨g, 1, none⟩ (.int .i64 y)).cell? ⟨g, 1, none⟩ = some (.int .i64 y) :=
  ⟨by rw [World.cell?_setCell_other _ ⟨g, 1, none⟩ ⟨g, 0, none⟩ _ (by simp)]; exact World.cell?_setCell_same _ _ _ k0,
   World.cell?_setCell_same _ _ _ (by rw [World.cell?_setCell_other _ ⟨g, 0, none⟩ ⟨g, 1, none⟩ _ (by simp)]; exact k1)⟩
set_option maxHeartbeats 1000000 in
theorem look_any {w : World} {lb mb : Nat} {r b : Int} {D : BDat} {f : BSt} {n : Nat} (h : LimM w lb mb r b D f n) (hI : BlI r b f n) {s : ByteArray} (hs : s.size ≤ 140737488351232) (now k : Int) :
    Calls Try.prog 9 #[lptr lb, .string s, .int .i64 now, .int .i64 k] w (LookE w (lookF r b f n s.data.toList now k)) := by
  obtain ⟨W0, hW0⟩ : ∃ W0, W0 = w.alloc (.cells #[.int .i64 0, .int .i64 0] 40) := ⟨_, rfl⟩
  have HB0 : Vl (Below w.heap.size w W0) := by rw [hW0]; exact (Below.refl _ w).alloc (Nat.le_refl _) _
  have HN0 : Vl (w.heap.size < W0.heap.size) := by rw [hW0]; exact vl (by simp)
  have hM0 := h.below (Nat.le_refl _) HB0.out
  have c0 := hM0.c0
  have c1 := hM0.c1
  have c2 := hM0.c2
  have g0 : W0.cell? ⟨w.heap.size, 0, none⟩ = some (.int .i64 0) := by rw [hW0]; simp
  have g1 : W0.cell? ⟨w.heap.size, 1, none⟩ = some (.int .i64 0) := by rw [hW0]; simp
  have z0 : W0.frozen? ⟨w.heap.size, 0, none⟩ = false := by rw [hW0]; simp
  have z1 : W0.frozen? ⟨w.heap.size, 1, none⟩ = false := by rw [hW0]; simp
  have c1a : (w.alloc (.cells #[.int .i64 0, .int .i64 0] 40)).cell? ⟨lb, 1, none⟩ = some (.int .i64 b) := by rw [← hW0]; exact c1
  unfold lptr
  by_cases h1 : 1 ≤ k ∧ k ≤ b
  · have H1 := vl (within_yes h1.1 h1.2 W0)
    by_cases h2 : 0 ≤ now ∧ now ≤ 1000000
    · have H2 := vl (within_yes h2.1 h2.2 W0)
      cases hf : f s.data.toList with
      | some o =>
        obtain ⟨l, a⟩ := o
        rw [lookF_some h1 h2 hf]
        have lk := hM0.look hs hf
        have hb := hI.each _ _ _ hf
        obtain ⟨W1, hW1⟩ : ∃ W1, W1 = W0.alloc (.cells #[.int .i64 l, .int .i64 a] 40) := ⟨_, rfl⟩
        have HB1 : Vl (Below W0.heap.size W0 W1) := by rw [hW1]; exact (Below.refl _ W0).alloc (Nat.le_refl _) _
        have b0 : W1.cell? ⟨W0.heap.size, 0, none⟩ = some (.int .i64 l) := by rw [hW1]; simp
        have b1 : W1.cell? ⟨W0.heap.size, 1, none⟩ = some (.int .i64 a) := by rw [hW1]; simp
        have hM1 := hM0.below (Nat.le_refl _) HB1.out
        have d0 := hM1.c0
        have d1 := hM1.c1
        have k0 : W1.cell? ⟨w.heap.size, 0, none⟩ = some (.int .i64 0) := (HB1.out.cell (p := ⟨w.heap.size, 0, none⟩) HN0.out).trans g0
        have k1 : W1.cell? ⟨w.heap.size, 1, none⟩ = some (.int .i64 0) := (HB1.out.cell (p := ⟨w.heap.size, 1, none⟩) HN0.out).trans g1
        have y0 : W1.frozen? ⟨w.heap.size, 0, none⟩ = false := (HB1.out.frozen (p := ⟨w.heap.size, 0, none⟩) HN0.out).trans z0
        have y1 : W1.frozen? ⟨w.heap.size, 1, none⟩ = false := (HB1.out.frozen (p := ⟨w.heap.size, 1, none⟩) HN0.out).trans z1
        have HB2 : Vl (Below w.heap.size w W1) := HB0.out.trans (HB1.out.mono HB0.out.size)
        have e0 := k0
        have e1 := k1
        have x0 := y0
        have x1 := y1
        rw [hW1] at e0 e1 x0 x1
        by_cases h3 : now < a
        · rw [if_pos h3]
          have r0 : ((W0.alloc (.cells #[.int .i64 l, .int .i64 a] 40)).setCell ⟨w.heap.size, 0, none⟩ (.int .i64 0)).cell? ⟨w.heap.size, 0, none⟩ = some (.int .i64 0) := World.cell?_setCell_same _ _ _ e0
          have r1 : (((W0.alloc (.cells #[.int .i64 l, .int .i64 a] 40)).setCell ⟨w.heap.size, 0, none⟩ (.int .i64 0)).setCell ⟨w.heap.size, 1, none⟩ (.int .i64 0)).cell? ⟨w.heap.size, 1, none⟩ = some (.int .i64 0) := World.cell?_setCell_same _ _ _ (by rw [World.cell?_setCell_other _ ⟨w.heap.size, 0, none⟩ ⟨w.heap.size, 1, none⟩ _ (by simp)]; exact e1)
          rw [hW1] at HB2
          clear h hI hf hM0 hM1 h1 h2 k0 k1 y0 y1 b0 b1 HB1 d0 d1 hW1
          go_enter Try.func9, Try.ntmps9
          go_wp2_with fail
          rw [← hW0]
          clear hW0 c1a
          refine H1.out.mono ?_
          rintro e w' ⟨rfl, rfl⟩
          go_wp2_with fail
          refine H2.out.mono ?_
          rintro e w' ⟨rfl, rfl⟩
          go_wp2
          (try simp only [Exit.inBlock, Exit.then])
          refine bodyPost_ret (by simp [results, Try.results9, go_sem, r0, r1]; try rfl) rfl ?_
          exact ⟨rfl, (HB2.out.setCell (Nat.le_refl _) _).setCell (Nat.le_refl _) _⟩
        · rw [if_neg h3]
          have hmul : 0 ≤ (now - a) * r := Int.mul_nonneg (by omega) (by have := hI.r0; omega)
          have hmul2 : (now - a) * r ≤ 1000000 * 1000000 := Int.mul_le_mul (by omega) hI.r1 (by have := hI.r0; omega) (by omega)
          have i1 : IntKind.i64.wrap (now - a) = now - a := IntWalk.i64_in _ ⟨by omega, by omega⟩
          have i2 : IntKind.i64.wrap ((now - a) * r) = (now - a) * r := IntWalk.i64_in _ ⟨by omega, by omega⟩
          have i3 : IntKind.i64.wrap (l + (now - a) * r) = l + (now - a) * r := IntWalk.i64_in _ ⟨by omega, by have := hI.b1; omega⟩
          clear h hI hf hM0 hM1 h1 h2 
          go_enter Try.func9, Try.ntmps9
          go_wp2_with fail
          rw [← hW0]
          clear hW0 c1a
          refine H1.out.mono ?_
          rintro e w' ⟨rfl, rfl⟩
          go_wp2_with fail
          refine H2.out.mono ?_
          rintro e w' ⟨rfl, rfl⟩
          go_wp2_with fail
          rw [← hW1]
          clear hW1 e0 e1 x0 x1
          clear HB1 g0 g1 z0 z1 c0 c1 c2 lk
          have r0 : ∀ x y : Int, ((W1.setCell ⟨w.heap.size, 0, none⟩ (.int .i64 x)).setCell ⟨w.heap.size, 1, none⟩ (.int .i64 y)).drew.cell? ⟨w.heap.size, 0, none⟩ = some (.int .i64 x) := fun x y => (set2 k0 k1 x y).1
          have r1 : ∀ x y : Int, ((W1.setCell ⟨w.heap.size, 0, none⟩ (.int .i64 x)).setCell ⟨w.heap.size, 1, none⟩ (.int .i64 y)).drew.cell? ⟨w.heap.size, 1, none⟩ = some (.int .i64 y) := fun x y => (set2 k0 k1 x y).2
          go_region
          go_wp2
          (try simp only [Exit.inBlock, Exit.then])
          refine bodyPost_ret (by simp [results, Try.results9, go_sem, r0, r1]; try rfl) rfl ?_
          exact ⟨rfl, ((HB2.out.setCell (Nat.le_refl _) _).setCell (Nat.le_refl _) _).drew⟩
      | none =>
        rw [lookF_none h1 h2 hf]
        have lk := hM0.look0 hs hf
        obtain ⟨W1, hW1⟩ : ∃ W1, W1 = W0.alloc (.cells #[.int .i64 0, .int .i64 0] 40) := ⟨_, rfl⟩
        have HB1 : Vl (Below W0.heap.size W0 W1) := by rw [hW1]; exact (Below.refl _ W0).alloc (Nat.le_refl _) _
        have hM1 := hM0.below (Nat.le_refl _) HB1.out
        have HM1 := vl hM1
        have d1 := hM1.c1
        have d2 := hM1.c2
        have k0 : W1.cell? ⟨w.heap.size, 0, none⟩ = some (.int .i64 0) := (HB1.out.cell (p := ⟨w.heap.size, 0, none⟩) HN0.out).trans g0
        have k1 : W1.cell? ⟨w.heap.size, 1, none⟩ = some (.int .i64 0) := (HB1.out.cell (p := ⟨w.heap.size, 1, none⟩) HN0.out).trans g1
        have y0 : W1.frozen? ⟨w.heap.size, 0, none⟩ = false := (HB1.out.frozen (p := ⟨w.heap.size, 0, none⟩) HN0.out).trans z0
        have y1 : W1.frozen? ⟨w.heap.size, 1, none⟩ = false := (HB1.out.frozen (p := ⟨w.heap.size, 1, none⟩) HN0.out).trans z1
        have HB2 : Vl (Below w.heap.size w W1) := HB0.out.trans (HB1.out.mono HB0.out.size)
        have hsz := h.rel.size
        have HS2 := vl (set2 k0 k1)
        rw [hW1] at HM1 d1 d2 k0 k1 y0 y1 HB2 HS2
        by_cases h3 : 100 ≤ n
        · rw [if_pos h3]
          have hz : (100 : Int) ≤ (Maps.size D : Int) := by omega
          have r0 := (HS2.out 0 0).1
          have r1 := (HS2.out 0 0).2
          clear h hI hf hM0 hM1 h1 h2 HB1 hW1 hsz h3
          go_enter Try.func9, Try.ntmps9
          go_wp2_with fail
          rw [← hW0]
          clear hW0 c1a
          refine H1.out.mono ?_
          rintro e w' ⟨rfl, rfl⟩
          go_wp2_with fail
          refine H2.out.mono ?_
          rintro e w' ⟨rfl, rfl⟩
          go_wp2_with (first | (at_len; refine wpList_len_own _ rfl _ 36 rfl 9 40 Try.underlying36 _ mb n D rfl HM1.out.own ?_) | go_in)
          (try simp only [Exit.inBlock, Exit.then])
          refine bodyPost_ret (by simp [results, Try.results9, go_sem, r0, r1]; try rfl) rfl ?_
          exact ⟨rfl, (HB2.out.setCell (Nat.le_refl _) _).setCell (Nat.le_refl _) _⟩
        · rw [if_neg h3]
          have hz : (Maps.size D : Int) < 100 := by omega
          have r0 := (HS2.out b now).1
          have r1 := (HS2.out b now).2
          clear h hI hf hM0 hM1 h1 h2 HB1 hW1 hsz h3
          go_enter Try.func9, Try.ntmps9
          go_wp2_with fail
          rw [← hW0]
          clear hW0 c1a
          refine H1.out.mono ?_
          rintro e w' ⟨rfl, rfl⟩
          go_wp2_with fail
          refine H2.out.mono ?_
          rintro e w' ⟨rfl, rfl⟩
          go_wp2_with (first | (at_len; refine wpList_len_own _ rfl _ 36 rfl 9 40 Try.underlying36 _ mb n D rfl HM1.out.own ?_) | go_in)
          (try simp only [Exit.inBlock, Exit.then])
          refine bodyPost_ret (by simp [results, Try.results9, go_sem, r0, r1]; try rfl) rfl ?_
          exact ⟨rfl, (HB2.out.setCell (Nat.le_refl _) _).setCell (Nat.le_refl _) _⟩
    · have H2 := vl (within_no h2 W0)
      rw [lookF_bad (Or.inr h2)]
      have r0 := (set2 g0 g1 0 0).1
      have r1 := (set2 g0 g1 0 0).2
      clear h hI hM0 h1 h2
      go_enter Try.func9, Try.ntmps9
      go_wp2_with fail
      rw [← hW0]
      clear hW0 c1a
      refine H1.out.mono ?_
      rintro e w' ⟨rfl, rfl⟩
      go_wp2_with fail
      refine H2.out.mono ?_
      rintro e w' ⟨rfl, rfl⟩
      go_wp2
      (try simp only [Exit.inBlock, Exit.then])
      refine bodyPost_ret (by simp [results, Try.results9, go_sem, r0, r1]; try rfl) rfl ?_
      exact ⟨rfl, (HB0.out.setCell (Nat.le_refl _) _).setCell (Nat.le_refl _) _⟩
  · have H1 := vl (within_no h1 W0)
    rw [lookF_bad (Or.inl h1)]
    have r0 := (set2 g0 g1 0 0).1
    have r1 := (set2 g0 g1 0 0).2
    clear h hI hM0 h1
    go_enter Try.func9, Try.ntmps9
    go_wp2_with fail
    rw [← hW0]
    clear hW0 c1a
    refine H1.out.mono ?_
    rintro e w' ⟨rfl, rfl⟩
    go_wp2
    (try simp only [Exit.inBlock, Exit.then])
    refine bodyPost_ret (by simp [results, Try.results9, go_sem, r0, r1]; try rfl) rfl ?_
    exact ⟨rfl, (HB0.out.setCell (Nat.le_refl _) _).setCell (Nat.le_refl _) _⟩
end Go.Proofs.Ytdcjkdoedkjpfah
