/-
  WHAT WAS DONE: the developers' Parse, walked. No claim by itself.
-/
import Derived.Test.YteohgkgahkkjlaaDoorG7
namespace Go.Proofs.YteohgkgahkkjlaaDoor
open Go Go.RowKit
set_option maxRecDepth 100000
theorem zn_new {X W : World} (hb : Below (X.alloc (.cells #[.int .i64 0, .int .i64 0, .int .i64 0, .int .i64 0, .string ⟨#[]⟩, .string ⟨#[]⟩] 23)).heap.size (X.alloc (.cells #[.int .i64 0, .int .i64 0, .int .i64 0, .int .i64 0, .string ⟨#[]⟩, .string ⟨#[]⟩] 23)) W) : EnB W X.heap.size 0 0 0 0 ⟨#[]⟩ ⟨#[]⟩ := (hb.block _ (by simp)).trans (heap_alloc_new X _)
theorem zn_newd {X W : World} (hb : Below (X.alloc (.cells #[.int .i64 0, .int .i64 0, .int .i64 0, .int .i64 0, .string ⟨#[]⟩, .string ⟨#[]⟩] 23)).drew.heap.size (X.alloc (.cells #[.int .i64 0, .int .i64 0, .int .i64 0, .int .i64 0, .string ⟨#[]⟩, .string ⟨#[]⟩] 23)).drew W) : EnB W X.heap.size 0 0 0 0 ⟨#[]⟩ ⟨#[]⟩ := (hb.block _ (show X.heap.size < (X.alloc (.cells #[.int .i64 0, .int .i64 0, .int .i64 0, .int .i64 0, .string ⟨#[]⟩, .string ⟨#[]⟩] 23)).heap.size by simp)).trans (heap_alloc_new X _)
theorem PH.set6 {w0 wb : World} {bx g : Nat} {x0 x1 x2 x3 x4 x5 : ByteArray} {W : World} (h : PH w0 wb bx g x0 x1 x2 x3 x4 x5 W) {n : Nat} (hb : bx < n) (hg : g < n) {y0 y1 y2 y3 y4 y5 : Value} :
    ((((((W.setCell ⟨n, 0, none⟩ y0).setCell ⟨n, 1, none⟩ y1).setCell ⟨n, 2, none⟩ y2).setCell ⟨n, 3, none⟩ y3).setCell ⟨n, 4, none⟩ y4).setCell ⟨n, 5, none⟩ y5).cell? ⟨bx, 0, none⟩ = some (.slice (some ⟨g, 0, none⟩) 6 6) ∧ ((((((W.setCell ⟨n, 0, none⟩ y0).setCell ⟨n, 1, none⟩ y1).setCell ⟨n, 2, none⟩ y2).setCell ⟨n, 3, none⟩ y3).setCell ⟨n, 4, none⟩ y4).setCell ⟨n, 5, none⟩ y5).cell? ⟨g, 4, none⟩ = some (.string x4) ∧ ((((((W.setCell ⟨n, 0, none⟩ y0).setCell ⟨n, 1, none⟩ y1).setCell ⟨n, 2, none⟩ y2).setCell ⟨n, 3, none⟩ y3).setCell ⟨n, 4, none⟩ y4).setCell ⟨n, 5, none⟩ y5).cell? ⟨g, 5, none⟩ = some (.string x5) :=
  ⟨(World.cell?_of_block (a := ⟨bx, 0, none⟩) (set6_other (Nat.ne_of_lt hb))).trans h.c, (World.cell?_of_block (a := ⟨g, 4, none⟩) (set6_other (Nat.ne_of_lt hg))).trans h.h4, (World.cell?_of_block (a := ⟨g, 5, none⟩) (set6_other (Nat.ne_of_lt hg))).trans h.h5⟩
theorem PH.fin {w0 wb : World} {bx g : Nat} {x0 x1 x2 x3 x4 x5 : ByteArray} {W : World} (h : PH w0 wb bx g x0 x1 x2 x3 x4 x5 W) {n : Nat} (hy : EnB W n 0 0 0 0 ⟨#[]⟩ ⟨#[]⟩) (hn : wb.heap.size ≤ n) (hl : NLaid wb) (v0 v1 v2 v3 : Int) :
    ∃ W7, ((((((W.setCell ⟨n, 0, none⟩ (.int .i64 v0)).setCell ⟨n, 1, none⟩ (.int .i64 v1)).setCell ⟨n, 2, none⟩ (.int .i64 v2)).setCell ⟨n, 3, none⟩ (.int .i64 v3)).setCell ⟨n, 4, none⟩ (.string x4)).setCell ⟨n, 5, none⟩ (.string x5)) = W7 ∧ EnB W7 n v0 v1 v2 v3 x4 x5 ∧ NLaid W7 ∧ EnB W7 w0.heap.size 0 0 0 0 ⟨#[]⟩ ⟨#[]⟩ ∧ Below w0.heap.size w0 W7 ∧ n < W7.heap.size := by
  have hlr := h.lr
  have e1 : EnB ((((((W.setCell ⟨n, 0, none⟩ (.int .i64 v0)).setCell ⟨n, 1, none⟩ (.int .i64 v1)).setCell ⟨n, 2, none⟩ (.int .i64 v2)).setCell ⟨n, 3, none⟩ (.int .i64 v3)).setCell ⟨n, 4, none⟩ (.string x4)).setCell ⟨n, 5, none⟩ (.string x5)) n v0 v1 v2 v3 x4 x5 := zset6 hy
  exact ⟨_, rfl, e1, hl.below (set6_below h.bw hn), (set6_other (by omega)).trans h.zr, set6_below h.be (by omega), e1.lt⟩
theorem PH.fin2 {w0 wb : World} {bx g : Nat} {x0 x1 x2 x3 x4 x5 : ByteArray} {W : World} (h : PH w0 wb bx g x0 x1 x2 x3 x4 x5 W) (v0 v1 v2 v3 : Int) :
    ∃ W7, W.alloc (.cells #[.int .i64 v0, .int .i64 v1, .int .i64 v2, .int .i64 v3, .string x4, .string x5] 23) = W7 ∧ EnB W7 W.heap.size v0 v1 v2 v3 x4 x5 ∧ NLaid W7 ∧ EnB W7 w0.heap.size 0 0 0 0 ⟨#[]⟩ ⟨#[]⟩ ∧ Below w0.heap.size w0 W7 ∧ W.heap.size < W7.heap.size :=
  ⟨_, rfl, heap_alloc_new W _, (h.al _).nl, (h.al _).zr, (h.al _).be, by simp⟩
theorem cutN_size (c : Int) : ∀ (k : Nat) (s y : List Int), y ∈ cutN c k s → y.length ≤ s.length
  | 0, s, y, h => by
    have e : cutN c 0 s = [s] := rfl
    rw [e, List.mem_singleton] at h
    rw [h]
    exact Nat.le_refl _
  | k + 1, s, y, h => by
    by_cases hm : c ∈ s
    · obtain ⟨a, r, e, hn⟩ := mem_first c s hm
      rw [e, cutN_at c k hn] at h
      rw [e]
      rcases List.mem_cons.1 h with h | h
      · rw [h]; simp
      · have := cutN_size c k r y h
        simp
        omega
    · rw [cutN_no c _ hm, List.mem_singleton] at h
      rw [h]
      exact Nat.le_refl _
theorem word_size {s : ByteArray} {l : List ByteArray} {x : ByteArray} (h : unsOf l = cutN 32 5 (unums s)) (hx : x ∈ l) : x.size ≤ s.size := by
  have := cutN_size 32 5 (unums s) (unums x) (by rw [← h]; exact List.mem_map.2 ⟨x, hx, rfl⟩)
  rw [unums_len, unums_len] at this
  exact this
theorem list6 {l : List ByteArray} (h : l.length = 6) : ∃ x0 x1 x2 x3 x4 x5, l = [x0, x1, x2, x3, x4, x5] := by
  match l, h with
  | [x0, x1, x2, x3, x4, x5], _ => exact ⟨x0, x1, x2, x3, x4, x5, rfl⟩
set_option maxHeartbeats 8000000 in
theorem gparse_any (s : ByteArray) (w : World) (hT : NLaid w) (he : erP w) (hs : s.size ≤ 140737488351232) : Calls Tryd.prog 4 #[.string s] w fun e w' => PrsE s e ∧ Below w.heap.size w w' := by
  obtain ⟨W0, hW0⟩ : ∃ W0, W0 = w.alloc (.cells #[.int .i64 0, .int .i64 0, .int .i64 0, .int .i64 0, .string ⟨#[]⟩, .string ⟨#[]⟩] 23) := ⟨_, rfl⟩
  have HB0 : Vl (Below w.heap.size w W0) := by rw [hW0]; exact (Below.refl _ w).alloc (Nat.le_refl _) _
  have HZ0 : Vl (EnB W0 w.heap.size 0 0 0 0 ⟨#[]⟩ ⟨#[]⟩) := by rw [hW0]; exact heap_alloc_new w _
  have HS := vl (splitn_any s W0 hs)
  have HT0 := vl (hT.below HB0.out)
  have HE0 := vl (he.below HB0.out)
  clear hT he
  go_enter Tryd.func4, Tryd.ntmps4
  go_wp2_with fail
  rw [← hW0]
  refine HS.out.mono ?_
  rintro _ w1 ⟨l, N, hcut, hlN, hN6, rfl, hw1⟩
  have HCUT := vl hcut
  have hb1 : Below W0.heap.size W0 w1 := by rw [hw1]; exact (Below.refl _ W0).alloc (Nat.le_refl _) _
  have HCW : Vl (w1.heap[W0.heap.size]? = some (.cells (Lib.cellsOf l N) 9 (0, 0))) := by rw [hw1]; exact heap_alloc_new W0 _
  have HZ1 := vl (HZ0.out.on hb1)
  have HB1 := vl (HB0.out.trans (hb1.mono HB0.out.size))
  have HT1 := vl (HT0.out.below hb1)
  have HE1 := vl (HE0.out.below hb1)
  clear hcut hw1 HS hW0 hb1 HT0 HE0 HZ0
  have hlw : l.length ≤ 6 := Nat.le_trans hlN hN6
  by_cases h6 : l.length = 6
  · have h6' : N = 6 := by omega
    subst h6'
    rw [h6]
    have hl6 : ((6 : Nat) : Int) = 6 := rfl
    go_upto_region 5 with fail
    obtain ⟨x0, x1, x2, x3, x4, x5, rfl⟩ := list6 h6
    have z0 := Nat.le_trans (word_size HCUT.out (x := x0) (by simp)) hs
    have z1 := Nat.le_trans (word_size HCUT.out (x := x1) (by simp)) hs
    have z2 := Nat.le_trans (word_size HCUT.out (x := x2) (by simp)) hs
    have z3 := Nat.le_trans (word_size HCUT.out (x := x3) (by simp)) hs
    have z4 := Nat.le_trans (word_size HCUT.out (x := x4) (by simp)) hs
    have z5 := Nat.le_trans (word_size HCUT.out (x := x5) (by simp)) hs
    obtain ⟨W2, hW2⟩ : ∃ W2, W2 = w1.alloc (.cells #[.slice (some ⟨W0.heap.size, 0, none⟩) 6 6] 37) := ⟨_, rfl⟩
    have hb2 : Below w1.heap.size w1 W2 := by rw [hW2]; exact (Below.refl _ w1).alloc (Nat.le_refl _) _
    have hlg : W0.heap.size < w1.heap.size := (Array.getElem?_eq_some_iff.1 HCW.out).1
    have hcw : W2.heap[W0.heap.size]? = some (.cells #[.string x0, .string x1, .string x2, .string x3, .string x4, .string x5] 9 (0, 0)) := (hb2.block _ hlg).trans HCW.out
    have HP2 : Vl (PH w W2 w1.heap.size W0.heap.size x0 x1 x2 x3 x4 x5 W2) := by
      refine ⟨?_, ?_, ?_, ?_, ?_, ?_, ?_, HE1.out.below hb2, HT1.out.below hb2, HZ1.out.on hb2, HB1.out.trans (hb2.mono HB1.out.size), by rw [hW2]; simp, Nat.lt_of_lt_of_le hlg hb2.size, Nat.lt_of_lt_of_le HZ1.out.lt hb2.size, Below.refl _ _⟩
      · rw [hW2]
        simp only [World.cell?, heap_alloc_new]
        rfl
      all_goals
        simp only [World.cell?, hcw]
        rfl
    have HN0 : Vl (∀ W, PH w W2 w1.heap.size W0.heap.size x0 x1 x2 x3 x4 x5 W → Calls Tryd.prog 9 #[.int .i64 0, .pointer (some ⟨w1.heap.size, 0, none⟩)] W fun e w' => ∃ v, e = .returned (.int .i64 v) ∧ NumIs v x0 ∧ PH w W2 w1.heap.size W0.heap.size x0 x1 x2 x3 x4 x5 w' ∧ Below W.heap.size W w') := fun W h => (gnum_any 0 (by omega) x0 _ _ W h.c h.h0 h.er z0).mono fun e w' ⟨v, a, b, c⟩ => ⟨v, a, b, h.on c, c⟩
    have HN1 : Vl (∀ W, PH w W2 w1.heap.size W0.heap.size x0 x1 x2 x3 x4 x5 W → Calls Tryd.prog 9 #[.int .i64 1, .pointer (some ⟨w1.heap.size, 0, none⟩)] W fun e w' => ∃ v, e = .returned (.int .i64 v) ∧ NumIs v x1 ∧ PH w W2 w1.heap.size W0.heap.size x0 x1 x2 x3 x4 x5 w' ∧ Below W.heap.size W w') := fun W h => (gnum_any 1 (by omega) x1 _ _ W h.c h.h1 h.er z1).mono fun e w' ⟨v, a, b, c⟩ => ⟨v, a, b, h.on c, c⟩
    have HN2 : Vl (∀ W, PH w W2 w1.heap.size W0.heap.size x0 x1 x2 x3 x4 x5 W → Calls Tryd.prog 9 #[.int .i64 2, .pointer (some ⟨w1.heap.size, 0, none⟩)] W fun e w' => ∃ v, e = .returned (.int .i64 v) ∧ NumIs v x2 ∧ PH w W2 w1.heap.size W0.heap.size x0 x1 x2 x3 x4 x5 w' ∧ Below W.heap.size W w') := fun W h => (gnum_any 2 (by omega) x2 _ _ W h.c h.h2 h.er z2).mono fun e w' ⟨v, a, b, c⟩ => ⟨v, a, b, h.on c, c⟩
    have HN3 : Vl (∀ W, PH w W2 w1.heap.size W0.heap.size x0 x1 x2 x3 x4 x5 W → Calls Tryd.prog 9 #[.int .i64 3, .pointer (some ⟨w1.heap.size, 0, none⟩)] W fun e w' => ∃ v, e = .returned (.int .i64 v) ∧ NumIs v x3 ∧ PH w W2 w1.heap.size W0.heap.size x0 x1 x2 x3 x4 x5 w' ∧ Below W.heap.size W w') := fun W h => (gnum_any 3 (by omega) x3 _ _ W h.c h.h3 h.er z3).mono fun e w' ⟨v, a, b, c⟩ => ⟨v, a, b, h.on c, c⟩
    have p0 := HP2.out
    have q0 := HP2.out.dr
    have t0 := q0.three
    rw [← hW2]
    clear hW2 hb2 hlg hcw HCW HZ1 HB1 HT1 HE1 z0 z1 z2 z3 h6 hl6 hlN hN6 hlw HB0
    generalize w1.heap.size = bx at *
    generalize W0.heap.size = g at *
    go_region_held3 (fun w' => w'.cell? ⟨bx, 0, none⟩ = some (.slice (some ⟨g, 0, none⟩) 6 6) ∧ w'.cell? ⟨g, 4, none⟩ = some (.string x4) ∧ w'.cell? ⟨g, 5, none⟩ = some (.string x5))
      (first | (with_reducible assumption) | (with_reducible exact ((p0.al _).dr).three) | (with_reducible exact (q0.al _).three) | (with_reducible exact (q1.al _).three) | (with_reducible exact (q2.al _).three) | (with_reducible exact (q3.al _).three) | (with_reducible exact (q4.al _).three) | (with_reducible exact PH.set6 q4 p0.lb p0.lg) | (with_reducible exact PH.set6 q4 q0.lb q0.lg) | (with_reducible exact PH.set6 q4 q1.lb q1.lg) | (with_reducible exact PH.set6 q4 q2.lb q2.lg) | (with_reducible exact PH.set6 q4 q3.lb q3.lg) | (with_reducible exact PH.set6 (q4.al _) q4.lb q4.lg))
      (first
        | ((fail_if_success (have := w3)); go_at_call 9; refine (HN0.out _ (by first | with_reducible exact q0 | with_reducible exact (p0.al _).dr | with_reducible exact q0.al _)).mono ?_; rintro e w3 ⟨v0, rfl, n0, q1, b1⟩; have t1 := q1.three; (first | (with_reducible have y1 := zn_new b1) | (with_reducible have y1 := zn_newd b1)  | skip))
        | ((fail_if_success (have := w4)); go_at_call 9; refine (HN1.out _ (by first | with_reducible exact q1 | with_reducible exact q1.al _)).mono ?_; rintro e w4 ⟨v1, rfl, n1, q2, b2⟩; have t2 := q2.three; (first | (with_reducible have y2 := zn_new b2) | (have y2 := EnB.on y1 b2) | skip))
        | ((fail_if_success (have := w5)); go_at_call 9; refine (HN2.out _ (by first | with_reducible exact q2 | with_reducible exact q2.al _)).mono ?_; rintro e w5 ⟨v2, rfl, n2, q3, b3⟩; have t3 := q3.three; (first | (with_reducible have y3 := zn_new b3) | (have y3 := EnB.on y2 b3) | skip))
        | ((fail_if_success (have := w6)); go_at_call 9; refine (HN3.out _ (by first | with_reducible exact q3 | with_reducible exact q3.al _)).mono ?_; rintro e w6 ⟨v3, rfl, n3, q4, b4⟩; have t4 := q4.three; (first | (with_reducible have y4 := zn_new b4) | (have y4 := EnB.on y3 b4) | skip); (first | (obtain ⟨c0, c1, c2, c3, c4, c5⟩ := y4.cells; have cf := y4.frozen) | skip)))
    all_goals
      have HNO : Vl (¬ (chkE v0 v1 v2 v3 (unums x4) (unums x5) = 0 ∧ printE v0.toNat v1.toNat v2.toNat v3.toNat (unums x4) (unums x5) = unums s) → ∀ (t c b k : Int) (M P : List Int), chkE t c b k M P = 0 → printE t.toNat c.toNat b.toNat k.toNat M P ≠ unums s) := vl (fun h => prs_no HCUT.out n0 n1 n2 n3 h)
      first
        | (obtain ⟨W7, hW7, hE7, hT7, hZ7, hB7, hl7⟩ := PH.fin q4 y4 (by first | exact Nat.le_refl _ | exact q1.bw.size | exact q2.bw.size | exact q3.bw.size) p0.nl v0 v1 v2 v3
           rw [hW7])
        | (obtain ⟨W7, hW7, hE7, hT7, hZ7, hB7, hl7⟩ := PH.fin2 q4 v0 v1 v2 v3
           rw [hW7])
      have HPR := vl (gprint_any v0 v1 v2 v3 x4 x5 W7 hT7 z4 z5)
      have HB7 := vl hB7
      have HZ7 := vl hZ7
      have HE7 := vl hE7
      have HL7 := vl hl7
      have d := hE7.cells
      clear hW7 hE7 hT7 hZ7 hB7 hl7 HN0 HN1 HN2 HN3 HP2 p0 q0 q1 q2 q3 q4 t0 t1 t2 t3 t4 b1 b2 b3 b4 n0 n1 n2 n3
      obtain ⟨d0, d1, d2, d3, d4, d5⟩ := d
      unfold entV at HPR
      simp only [Exit.then]
      go_wp2_with fail
      refine HPR.out.mono ?_
      rintro _ w8 ⟨⟨s', rfl, hs1, hs2⟩, hb8⟩
      have HB8 := vl (HB7.out.trans (hb8.mono HB7.out.size))
      have HZ8 := vl (HZ7.out.on hb8)
      have HD8 := vl (HE7.out.cells.below hb8 HL7.out)
      clear hb8 HB7 HZ7 HE7 HL7 d0 d1 d2 d3 d4 d5 HPR
      by_cases h0 : chkE v0 v1 v2 v3 (unums x4) (unums x5) = 0
      · have u1 := hs1 h0
        have HOK := vl (chkE_ok h0)
        have h4 := tok_len HOK.out.2.2.2.2.1
        have h5 := word_len HOK.out.2.2.2.2.2
        have HH0 := vl h0
        rw [h0, errW, if_pos rfl]
        clear hs1 hs2 h0 HOK
        by_cases hq : s'.toList = s.toList
        · have q' : (s'.toList == s.toList) = true := by simpa using hq
          have HFIN : Vl (PrsE s (.returned (.tuple #[entV v0 v1 v2 v3 x4 x5, .nilIface]))) := vl (Or.inl ⟨v0, v1, v2, v3, x4, x5, rfl, HH0.out, by rw [← u1]; exact un_list.1 hq, h4, h5⟩)
          clear u1 hq h4 h5 HNO HH0
          obtain ⟨d0, d1, d2, d3, d4, d5⟩ := HD8.out
          go_wp2_with (refine wpList_enstore _ rfl _ _ rfl w.heap.size _ _ _ _ v0 v1 v2 v3 _ _ x4 x5 rfl rfl HZ8.out ?_)
          intro w9 hR hg9
          have HB9 : Vl (Below w.heap.size w w9) := vl (gbelow_grown HB8.out hg9 HB8.out.size (fun k hk => by cases hk; exact Nat.le_refl _))
          obtain ⟨z0, z1, z2, z3, z4, z5⟩ := hR.cells
          clear hR hg9 d0 d1 d2 d3 d4 d5
          go_wp2_with fail
          refine bodyPost_ret (v := .tuple #[entV v0 v1 v2 v3 x4 x5, .nilIface]) (by simp [results, Tryd.results4, go_sem, entV, z0, z1, z2, z3, z4, z5]; try rfl) rfl ?_
          exact ⟨HFIN.out, HB9.out⟩
        · have q' : (s'.toList == s.toList) = false := by simpa using hq
          have HQ : Vl (PrsE s (.returned (.tuple #[entV 0 0 0 0 ⟨#[]⟩ ⟨#[]⟩, .iface 39 (.int .i64 2)]))) := vl (Or.inr ⟨rfl, HNO.out (fun h => hq (un_list.2 (u1.trans h.2)))⟩)
          clear u1 hq h4 h5 HNO HH0
          go_wp2_with (refine wpList_enstore _ rfl _ _ rfl w.heap.size _ _ _ _ 0 0 0 0 _ _ ⟨#[]⟩ ⟨#[]⟩ rfl rfl HZ8.out ?_)
          intro w9 hR hg9
          have HB9 : Vl (Below w.heap.size w w9) := vl (gbelow_grown HB8.out hg9 HB8.out.size (fun k hk => by cases hk; exact Nat.le_refl _))
          obtain ⟨z0, z1, z2, z3, z4, z5⟩ := hR.cells
          clear hR hg9
          go_wp2_with fail
          refine bodyPost_ret (v := .tuple #[entV 0 0 0 0 ⟨#[]⟩ ⟨#[]⟩, .iface 39 (.int .i64 2)]) (by simp [results, Tryd.results4, go_sem, entV, z0, z1, z2, z3, z4, z5]; try rfl) rfl ?_
          exact ⟨HQ.out, HB9.out⟩
      · have HQ : Vl (PrsE s (.returned (.tuple #[entV 0 0 0 0 ⟨#[]⟩ ⟨#[]⟩, .iface 39 (.int .i64 2)]))) := vl (Or.inr ⟨rfl, HNO.out (fun h => h0 h.1)⟩)
        rw [gerr_pos h0]
        generalize chkE v0 v1 v2 v3 (unums x4) (unums x5) = EE at *
        clear hs1 hs2 h0 HNO
        go_wp2_with (refine wpList_enstore _ rfl _ _ rfl w.heap.size _ _ _ _ 0 0 0 0 _ _ ⟨#[]⟩ ⟨#[]⟩ rfl rfl HZ8.out ?_)
        intro w9 hR hg9
        have HB9 : Vl (Below w.heap.size w w9) := vl (gbelow_grown HB8.out hg9 HB8.out.size (fun k hk => by cases hk; exact Nat.le_refl _))
        obtain ⟨z0, z1, z2, z3, z4, z5⟩ := hR.cells
        clear hR hg9
        go_wp2_with fail
        refine bodyPost_ret (v := .tuple #[entV 0 0 0 0 ⟨#[]⟩ ⟨#[]⟩, .iface 39 (.int .i64 2)]) (by simp [results, Tryd.results4, go_sem, entV, z0, z1, z2, z3, z4, z5]; try rfl) rfl ?_
        exact ⟨HQ.out, HB9.out⟩
  · have HNO := vl (prs_no6 HCUT.out h6)
    have h6' : ¬ ((l.length : Int) = 6) := by omega
    go_wp2_with (refine wpList_enstore _ rfl _ _ rfl w.heap.size _ _ _ _ 0 0 0 0 _ _ ⟨#[]⟩ ⟨#[]⟩ rfl rfl (HZ1.out.on (by exact (Below.refl _ w1).alloc (Nat.le_refl _) _)) ?_)
    intro w8 hR hg8
    have HB8 : Vl (Below w.heap.size w w8) := vl (gbelow_grown (HB1.out.alloc HB1.out.size _) hg8 (Nat.le_trans HB1.out.size (by simp)) (fun k hk => by cases hk; exact Nat.le_refl _))
    obtain ⟨z0, z1, z2, z3, z4, z5⟩ := hR.cells
    clear hR hg8
    go_wp2_with fail
    refine bodyPost_ret (v := .tuple #[entV 0 0 0 0 ⟨#[]⟩ ⟨#[]⟩, .iface 39 (.int .i64 2)]) (by simp [results, Tryd.results4, go_sem, entV, z0, z1, z2, z3, z4, z5]; try rfl) rfl ?_
    exact ⟨Or.inr ⟨rfl, HNO.out⟩, HB8.out⟩
end Go.Proofs.YteohgkgahkkjlaaDoor
