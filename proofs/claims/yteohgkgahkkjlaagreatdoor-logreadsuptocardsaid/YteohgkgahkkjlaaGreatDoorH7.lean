/-
  WHAT WAS DONE: LogReads, over what Print, Parse and the document's answer do. No claim by itself.
-/
import Derived.Test.YteohgkgahkkjlaaGreatDoorH6
import Derived.Test.YteohgkgahkkjlaaGreatDoorG8
import Derived.Test.YteohgkgahkkjlaaGreatDoorTold
namespace Go.Proofs.YteohgkgahkkjlaaGreatDoor
open Go Go.RowKit
set_option maxRecDepth 100000
theorem stoodE : Tryz.prog.stoodInHeld 23 = false := by kernel_rfl
/-- An entry is like itself. -/
theorem run_eqlE (t c b k : Int) (m p : ByteArray) (w : World) : (binOp .eql 23 (.agg #[.int .i64 t, .int .i64 c, .int .i64 b, .int .i64 k, .string m, .string p]) (.agg #[.int .i64 t, .int .i64 c, .int .i64 b, .int .i64 k, .string m, .string p])).run Tryz.prog w = .ok (.bool true) w := by
  have hu : Tryz.prog.underlying 23 = some (.struct (Tryz.prog.fieldsOf 23)) := by kernel_rfl
  have h9 := Tryz.underlying9
  have h3 := Tryz.underlying3
  rw [run_eql_struct, run_equalIn_agg w 9999 23 _ _ hu stoodE]
  simp [Program.fieldsOf, Tryz.underlying23, Op.eqFields, go_sem, h9, h3]
theorem herr_zero : errW 0 = .nilIface := if_pos rfl
theorem herr_any (er : Int) (w : World) (hg : Laid w) : Calls Tryz.prog 8 #[errW er, .int .i64 er] w fun e w' => e = .returned (.bool true) ∧ Below w.heap.size w w' := by
  by_cases h : er = 0
  · subst h
    rw [herr_zero]
    refine (error_nil 0 w).mono ?_
    rintro e w' ⟨rfl, rfl⟩
    exact ⟨rfl, Below.refl _ _⟩
  · rw [gerr_pos h]
    refine (error_hit er er w hg).mono ?_
    rintro e w' ⟨rfl, hb⟩
    exact ⟨by simp, hb⟩
attribute [local go_sem] run_eqlE
set_option maxHeartbeats 4000000 in
theorem lreads_ok (t c b k : Int) (m p s : ByteArray) (w : World) (hg : Laid w) (hT : NLaid w) (he : erP w) (hm : m.size ≤ 140737488351232) (hp : p.size ≤ 140737488351232) (hs : s.size ≤ 1048576) :
    Calls Tryz.prog 3 #[entV t c b k m p, .string s] w fun e w' => e = .returned (.bool true) ∧ Below w.heap.size w w' := by
  have HG := vl hg
  have HT := vl hT
  have HER := vl he
  have H1 := vl (fun W => rent_any t c b k m p W hm hp)
  have H2 := vl (fun W hW => gprint_any t c b k m p W hW hm hp)
  have H3 := vl (fun W => rparse1_any s W hs)
  have H4 := vl (fun W hW hE => gparse_any s W hW hE (by omega))
  have H5 : Vl (chkE t c b k (unums m) (unums p) = 0 → ∀ W, Calls Tryz.prog 6 #[entV t c b k m p] W fun e w' => (∃ s : ByteArray, e = .returned (.string s) ∧ unums s = printE t.toNat c.toNat b.toNat k.toNat (unums m) (unums p)) ∧ Below W.heap.size W w') := by
    intro h0 W
    obtain ⟨⟨t1, t2⟩, ⟨c1, c2⟩, ⟨b1, b2⟩, ⟨k1, k2⟩, hM, hP⟩ := chkE_ok h0
    have h := rprint_any t.toNat c.toNat b.toNat k.toNat m p W (by omega) (by omega) (by omega) (by omega) (tok_len hM) (word_len hP)
    rw [Int.toNat_of_nonneg t1, Int.toNat_of_nonneg (show 0 ≤ c by omega), Int.toNat_of_nonneg b1, Int.toNat_of_nonneg k1] at h
    exact h
  clear hg hT he hm hp
  unfold entV at H1 H2 H5 ⊢
  obtain ⟨W1, hW1⟩ : ∃ W1, W1 = w.alloc (.cells #[.int .i64 t, .int .i64 c, .int .i64 b, .int .i64 k, .string m, .string p] 23) := ⟨_, rfl⟩
  have HB1 : Vl (Below w.heap.size w W1) := by rw [hW1]; exact (Below.refl _ w).alloc (Nat.le_refl _) _
  have HX1 : Vl (EnB W1 w.heap.size t c b k m p) := by rw [hW1]; exact heap_alloc_new w _
  obtain ⟨d0, d1, d2, d3, d4, d5⟩ := HX1.out.cells
  go_enter Tryz.func3, Tryz.ntmps3
  go_wp2_with fail
  rw [← hW1]
  clear hW1
  refine (H1.out _).mono ?_
  rintro _ w2 ⟨rfl, hb2⟩
  have HB2 := vl (HB1.out.trans (hb2.mono HB1.out.size))
  have HX2 := vl (HX1.out.on hb2)
  clear hb2 HB1 HX1 d0 d1 d2 d3 d4 d5 H1
  obtain ⟨d0, d1, d2, d3, d4, d5⟩ := HX2.out.cells
  by_cases h0 : chkE t c b k (unums m) (unums p) = 0
  · have H5' := vl (H5.out h0)
    rw [h0]
    go_wp2_with fail
    refine (H5'.out _).mono ?_
    rintro _ w3 ⟨⟨s1, rfl, u1⟩, hb3⟩
    have HB3 := vl (HB2.out.trans (hb3.mono HB2.out.size))
    have HX3 := vl (HX2.out.on hb3)
    clear hb3 d0 d1 d2 d3 d4 d5
    obtain ⟨d0, d1, d2, d3, d4, d5⟩ := HX3.out.cells
    go_wp2_with fail
    refine (H2.out _ (HT.out.below HB3.out)).mono ?_
    rintro _ w4 ⟨⟨s2, rfl, u2, _⟩, hb4⟩
    have hq : s2 = s1 := unums_inj ((u2 h0).trans u1.symm)
    subst hq
    have HB4 := vl (HB3.out.trans (hb4.mono HB3.out.size))
    have HE := vl (herr_any 0 w4 (HG.out.below HB4.out))
    rw [h0]
    clear hb4 u1 u2 d0 d1 d2 d3 d4 d5 H2 H5 H5' h0 HB2 HB3 HX2 HX3
    go_wp2_with fail
    refine HE.out.mono ?_
    rintro _ w5 ⟨rfl, hb5⟩
    have HB5 := vl (HB4.out.trans (hb5.mono HB4.out.size))
    clear hb5 HE HB4
    go_wp2_with fail
    refine (H3.out _).mono ?_
    rintro _ w6 ⟨hR, hb6⟩
    have HBw6 := vl (HB5.out.trans (hb6.mono HB5.out.size))
    clear hb6
    rcases hR with ⟨t1, c1, b1, k1, m1, p1, rfl, r1, r2⟩ | ⟨rfl, r1⟩
    · unfold entV
      have HZw7 : Vl (EnB (w6.alloc (.cells #[.int .i64 0, .int .i64 0, .int .i64 0, .int .i64 0, .string ⟨#[]⟩, .string ⟨#[]⟩] 23)) w6.heap.size 0 0 0 0 ⟨#[]⟩ ⟨#[]⟩) := vl (heap_alloc_new w6 _)
      go_wp2_with (refine wpList_enstore _ rfl _ _ rfl w6.heap.size _ _ _ _ t1 c1 b1 k1 _ _ m1 p1 rfl rfl HZw7.out ?_)
      intro w7 hRw7 hgw7
      have HBw7 : Vl (Below w.heap.size w w7) := vl (gbelow_grown (HBw6.out.alloc HBw6.out.size _) hgw7 (Nat.le_trans HBw6.out.size (by simp)) (fun k hk => by cases hk; exact HBw6.out.size))
      have HXw7 := vl hRw7
      clear hRw7 hgw7 HZw7
      go_wp2_with fail
      refine (H4.out _ (HT.out.below HBw7.out) (HER.out.below HBw7.out)).mono ?_
      rintro _ w8 ⟨hP, hb8⟩
      have HBw8 := vl (HBw7.out.trans (hb8.mono HBw7.out.size))
      have HXw8 := vl (HXw7.out.on hb8)
      clear hb8
      rcases hP with ⟨t2, c2, b2, k2, m2, p2, rfl, r3, r4, _, _⟩ | ⟨rfl, r3⟩
      · obtain ⟨rfl, rfl, rfl, rfl, e1, e2⟩ := print_one r1 r3 (r2.trans r4.symm)
        obtain rfl := unums_inj e1
        obtain rfl := unums_inj e2
        clear e1 e2 r1 r2 r3 r4
        unfold entV
        have HZw9 : Vl (EnB (w8.alloc (.cells #[.int .i64 0, .int .i64 0, .int .i64 0, .int .i64 0, .string ⟨#[]⟩, .string ⟨#[]⟩] 23)) w8.heap.size 0 0 0 0 ⟨#[]⟩ ⟨#[]⟩) := vl (heap_alloc_new w8 _)
        go_wp2_with (refine wpList_enstore _ rfl _ _ rfl w8.heap.size _ _ _ _ t1 c1 b1 k1 _ _ m1 p1 rfl rfl HZw9.out ?_)
        intro w9 hRw9 hgw9
        have HBw9 : Vl (Below w.heap.size w w9) := vl (gbelow_grown (HBw8.out.alloc HBw8.out.size _) hgw9 (Nat.le_trans HBw8.out.size (by simp)) (fun k hk => by cases hk; exact HBw8.out.size))
        have HXw9 := vl hRw9
        have HYw9 : Vl (EnB w9 w6.heap.size t1 c1 b1 k1 m1 p1) := vl (((hgw9.block _ (by have := HXw8.out.lt; simp; omega) (fun e => by have := HXw8.out.lt; injection e with e; omega)).trans (heap_alloc_old w8 _ HXw8.out.lt)).trans HXw8.out)
        have HE2 := vl (herr_any 0 w9 (HG.out.below HBw9.out))
        rw [herr_zero] at HE2
        clear hRw9 hgw9 HZw9
        go_wp2_with fail
        refine HE2.out.mono ?_
        rintro _ wa ⟨rfl, hba⟩
        have HBa := vl (HBw9.out.trans (hba.mono HBw9.out.size))
        obtain ⟨f0, f1, f2, f3, f4, f5⟩ := (HXw9.out.on hba).cells
        obtain ⟨g0, g1, g2, g3, g4, g5⟩ := (HYw9.out.on hba).cells
        clear hba HE2
        go_wp2_with fail
        go_ret
        exact ⟨rfl, HBa.out⟩
      · exact absurd r2 (r3 _ _ _ _ _ _ r1)
    · unfold entV
      have HZw7 : Vl (EnB (w6.alloc (.cells #[.int .i64 0, .int .i64 0, .int .i64 0, .int .i64 0, .string ⟨#[]⟩, .string ⟨#[]⟩] 23)) w6.heap.size 0 0 0 0 ⟨#[]⟩ ⟨#[]⟩) := vl (heap_alloc_new w6 _)
      go_wp2_with (refine wpList_enstore _ rfl _ _ rfl w6.heap.size _ _ _ _ 0 0 0 0 _ _ ⟨#[]⟩ ⟨#[]⟩ rfl rfl HZw7.out ?_)
      intro w7 hRw7 hgw7
      have HBw7 : Vl (Below w.heap.size w w7) := vl (gbelow_grown (HBw6.out.alloc HBw6.out.size _) hgw7 (Nat.le_trans HBw6.out.size (by simp)) (fun k hk => by cases hk; exact HBw6.out.size))
      have HXw7 := vl hRw7
      clear hRw7 hgw7 HZw7
      go_wp2_with fail
      refine (H4.out _ (HT.out.below HBw7.out) (HER.out.below HBw7.out)).mono ?_
      rintro _ w8 ⟨hP, hb8⟩
      have HBw8 := vl (HBw7.out.trans (hb8.mono HBw7.out.size))
      have HXw8 := vl (HXw7.out.on hb8)
      clear hb8
      rcases hP with ⟨t2, c2, b2, k2, m2, p2, rfl, r3, r4, _, _⟩ | ⟨rfl, r3⟩
      · exact absurd r4 (r1 _ _ _ _ _ _ r3)
      · clear r1 r3
        unfold entV
        have HZw9 : Vl (EnB (w8.alloc (.cells #[.int .i64 0, .int .i64 0, .int .i64 0, .int .i64 0, .string ⟨#[]⟩, .string ⟨#[]⟩] 23)) w8.heap.size 0 0 0 0 ⟨#[]⟩ ⟨#[]⟩) := vl (heap_alloc_new w8 _)
        go_wp2_with (refine wpList_enstore _ rfl _ _ rfl w8.heap.size _ _ _ _ 0 0 0 0 _ _ ⟨#[]⟩ ⟨#[]⟩ rfl rfl HZw9.out ?_)
        intro w9 hRw9 hgw9
        have HBw9 : Vl (Below w.heap.size w w9) := vl (gbelow_grown (HBw8.out.alloc HBw8.out.size _) hgw9 (Nat.le_trans HBw8.out.size (by simp)) (fun k hk => by cases hk; exact HBw8.out.size))
        have HXw9 := vl hRw9
        have HYw9 : Vl (EnB w9 w6.heap.size 0 0 0 0 ⟨#[]⟩ ⟨#[]⟩) := vl (((hgw9.block _ (by have := HXw8.out.lt; simp; omega) (fun e => by have := HXw8.out.lt; injection e with e; omega)).trans (heap_alloc_old w8 _ HXw8.out.lt)).trans HXw8.out)
        have HE2 := vl (herr_any 2 w9 (HG.out.below HBw9.out))
        rw [gerr_pos (by decide)] at HE2
        clear hRw9 hgw9 HZw9
        go_wp2_with fail
        refine HE2.out.mono ?_
        rintro _ wa ⟨rfl, hba⟩
        have HBa := vl (HBw9.out.trans (hba.mono HBw9.out.size))
        obtain ⟨f0, f1, f2, f3, f4, f5⟩ := (HXw9.out.on hba).cells
        obtain ⟨g0, g1, g2, g3, g4, g5⟩ := (HYw9.out.on hba).cells
        clear hba HE2
        go_wp2_with fail
        go_ret
        exact ⟨rfl, HBa.out⟩
  · have h0' : (chkE t c b k (unums m) (unums p) == 0) = false := by simpa using h0
    have HH0 := vl h0
    clear H5
    go_wp2_with fail
    refine (H2.out _ (HT.out.below HB2.out)).mono ?_
    rintro _ w4 ⟨⟨sg, rfl, _, u2⟩, hb4⟩
    obtain rfl := u2 HH0.out
    have HB4 := vl (HB2.out.trans (hb4.mono HB2.out.size))
    have HE := vl (herr_any (chkE t c b k (unums m) (unums p)) w4 (HG.out.below HB4.out))
    clear hb4 d0 d1 d2 d3 d4 d5 H2 u2 HB2 HX2
    go_wp2_with fail
    refine HE.out.mono ?_
    rintro _ w5 ⟨rfl, hb5⟩
    have HB5 := vl (HB4.out.trans (hb5.mono HB4.out.size))
    clear hb5 HE HB4 h0 h0' HH0
    go_wp2_with fail
    refine (H3.out _).mono ?_
    rintro _ w6 ⟨hR, hb6⟩
    have HBw6 := vl (HB5.out.trans (hb6.mono HB5.out.size))
    clear hb6
    rcases hR with ⟨t1, c1, b1, k1, m1, p1, rfl, r1, r2⟩ | ⟨rfl, r1⟩
    · unfold entV
      have HZw7 : Vl (EnB (w6.alloc (.cells #[.int .i64 0, .int .i64 0, .int .i64 0, .int .i64 0, .string ⟨#[]⟩, .string ⟨#[]⟩] 23)) w6.heap.size 0 0 0 0 ⟨#[]⟩ ⟨#[]⟩) := vl (heap_alloc_new w6 _)
      go_wp2_with (refine wpList_enstore _ rfl _ _ rfl w6.heap.size _ _ _ _ t1 c1 b1 k1 _ _ m1 p1 rfl rfl HZw7.out ?_)
      intro w7 hRw7 hgw7
      have HBw7 : Vl (Below w.heap.size w w7) := vl (gbelow_grown (HBw6.out.alloc HBw6.out.size _) hgw7 (Nat.le_trans HBw6.out.size (by simp)) (fun k hk => by cases hk; exact HBw6.out.size))
      have HXw7 := vl hRw7
      clear hRw7 hgw7 HZw7
      go_wp2_with fail
      refine (H4.out _ (HT.out.below HBw7.out) (HER.out.below HBw7.out)).mono ?_
      rintro _ w8 ⟨hP, hb8⟩
      have HBw8 := vl (HBw7.out.trans (hb8.mono HBw7.out.size))
      have HXw8 := vl (HXw7.out.on hb8)
      clear hb8
      rcases hP with ⟨t2, c2, b2, k2, m2, p2, rfl, r3, r4, _, _⟩ | ⟨rfl, r3⟩
      · obtain ⟨rfl, rfl, rfl, rfl, e1, e2⟩ := print_one r1 r3 (r2.trans r4.symm)
        obtain rfl := unums_inj e1
        obtain rfl := unums_inj e2
        clear e1 e2 r1 r2 r3 r4
        unfold entV
        have HZw9 : Vl (EnB (w8.alloc (.cells #[.int .i64 0, .int .i64 0, .int .i64 0, .int .i64 0, .string ⟨#[]⟩, .string ⟨#[]⟩] 23)) w8.heap.size 0 0 0 0 ⟨#[]⟩ ⟨#[]⟩) := vl (heap_alloc_new w8 _)
        go_wp2_with (refine wpList_enstore _ rfl _ _ rfl w8.heap.size _ _ _ _ t1 c1 b1 k1 _ _ m1 p1 rfl rfl HZw9.out ?_)
        intro w9 hRw9 hgw9
        have HBw9 : Vl (Below w.heap.size w w9) := vl (gbelow_grown (HBw8.out.alloc HBw8.out.size _) hgw9 (Nat.le_trans HBw8.out.size (by simp)) (fun k hk => by cases hk; exact HBw8.out.size))
        have HXw9 := vl hRw9
        have HYw9 : Vl (EnB w9 w6.heap.size t1 c1 b1 k1 m1 p1) := vl (((hgw9.block _ (by have := HXw8.out.lt; simp; omega) (fun e => by have := HXw8.out.lt; injection e with e; omega)).trans (heap_alloc_old w8 _ HXw8.out.lt)).trans HXw8.out)
        have HE2 := vl (herr_any 0 w9 (HG.out.below HBw9.out))
        rw [herr_zero] at HE2
        clear hRw9 hgw9 HZw9
        go_wp2_with fail
        refine HE2.out.mono ?_
        rintro _ wa ⟨rfl, hba⟩
        have HBa := vl (HBw9.out.trans (hba.mono HBw9.out.size))
        obtain ⟨f0, f1, f2, f3, f4, f5⟩ := (HXw9.out.on hba).cells
        obtain ⟨g0, g1, g2, g3, g4, g5⟩ := (HYw9.out.on hba).cells
        clear hba HE2
        go_wp2_with fail
        go_ret
        exact ⟨rfl, HBa.out⟩
      · exact absurd r2 (r3 _ _ _ _ _ _ r1)
    · unfold entV
      have HZw7 : Vl (EnB (w6.alloc (.cells #[.int .i64 0, .int .i64 0, .int .i64 0, .int .i64 0, .string ⟨#[]⟩, .string ⟨#[]⟩] 23)) w6.heap.size 0 0 0 0 ⟨#[]⟩ ⟨#[]⟩) := vl (heap_alloc_new w6 _)
      go_wp2_with (refine wpList_enstore _ rfl _ _ rfl w6.heap.size _ _ _ _ 0 0 0 0 _ _ ⟨#[]⟩ ⟨#[]⟩ rfl rfl HZw7.out ?_)
      intro w7 hRw7 hgw7
      have HBw7 : Vl (Below w.heap.size w w7) := vl (gbelow_grown (HBw6.out.alloc HBw6.out.size _) hgw7 (Nat.le_trans HBw6.out.size (by simp)) (fun k hk => by cases hk; exact HBw6.out.size))
      have HXw7 := vl hRw7
      clear hRw7 hgw7 HZw7
      go_wp2_with fail
      refine (H4.out _ (HT.out.below HBw7.out) (HER.out.below HBw7.out)).mono ?_
      rintro _ w8 ⟨hP, hb8⟩
      have HBw8 := vl (HBw7.out.trans (hb8.mono HBw7.out.size))
      have HXw8 := vl (HXw7.out.on hb8)
      clear hb8
      rcases hP with ⟨t2, c2, b2, k2, m2, p2, rfl, r3, r4, _, _⟩ | ⟨rfl, r3⟩
      · exact absurd r4 (r1 _ _ _ _ _ _ r3)
      · clear r1 r3
        unfold entV
        have HZw9 : Vl (EnB (w8.alloc (.cells #[.int .i64 0, .int .i64 0, .int .i64 0, .int .i64 0, .string ⟨#[]⟩, .string ⟨#[]⟩] 23)) w8.heap.size 0 0 0 0 ⟨#[]⟩ ⟨#[]⟩) := vl (heap_alloc_new w8 _)
        go_wp2_with (refine wpList_enstore _ rfl _ _ rfl w8.heap.size _ _ _ _ 0 0 0 0 _ _ ⟨#[]⟩ ⟨#[]⟩ rfl rfl HZw9.out ?_)
        intro w9 hRw9 hgw9
        have HBw9 : Vl (Below w.heap.size w w9) := vl (gbelow_grown (HBw8.out.alloc HBw8.out.size _) hgw9 (Nat.le_trans HBw8.out.size (by simp)) (fun k hk => by cases hk; exact HBw8.out.size))
        have HXw9 := vl hRw9
        have HYw9 : Vl (EnB w9 w6.heap.size 0 0 0 0 ⟨#[]⟩ ⟨#[]⟩) := vl (((hgw9.block _ (by have := HXw8.out.lt; simp; omega) (fun e => by have := HXw8.out.lt; injection e with e; omega)).trans (heap_alloc_old w8 _ HXw8.out.lt)).trans HXw8.out)
        have HE2 := vl (herr_any 2 w9 (HG.out.below HBw9.out))
        rw [gerr_pos (by decide)] at HE2
        clear hRw9 hgw9 HZw9
        go_wp2_with fail
        refine HE2.out.mono ?_
        rintro _ wa ⟨rfl, hba⟩
        have HBa := vl (HBw9.out.trans (hba.mono HBw9.out.size))
        obtain ⟨f0, f1, f2, f3, f4, f5⟩ := (HXw9.out.on hba).cells
        obtain ⟨g0, g1, g2, g3, g4, g5⟩ := (HYw9.out.on hba).cells
        clear hba HE2
        go_wp2_with fail
        go_ret
        exact ⟨rfl, HBa.out⟩
end Go.Proofs.YteohgkgahkkjlaaGreatDoor
