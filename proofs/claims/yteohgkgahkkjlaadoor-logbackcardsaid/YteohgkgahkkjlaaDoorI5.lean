/-
  LOGBACK: what is written is read; the sums of two spans are the sums of both; the number at the hundredth hundredth is the greatest. No claim by itself.
-/
import Derived.Test.YteohgkgahkkjlaaDoorI4
import Derived.Test.YteohgkgahkkjlaaDoorG8
import Derived.Test.YteohgkgahkkjlaaDoorG3
import Derived.Deep.DeepCutAuto
import Derived.Deep.CutBlock
namespace Go.Proofs.YteohgkgahkkjlaaDoor
open Go Go.RowKit
set_option maxRecDepth 100000
/- errors held against nil -/
theorem igg (x : Operand) (ea : Int) (W : World) : (eqGuard BinOp.eql 27 x (Operand.const Value.nilIface) (errW ea) Value.nilIface).run Tryd.prog W = .ok () W := by
  unfold errW
  split <;> simp [go_sem, eqGuard]
theorem ign (x : Operand) (ea : Int) (W : World) : (eqGuard BinOp.neq 27 x (Operand.const Value.nilIface) (errW ea) Value.nilIface).run Tryd.prog W = .ok () W := by
  unfold errW
  split <;> simp [go_sem, eqGuard]
theorem ige (ea : Int) (W : World) : (binOp BinOp.eql 27 (errW ea) Value.nilIface).run Tryd.prog W = .ok (.bool (decide (ea = 0))) W := by
  unfold errW
  split <;> simp_all [go_sem]
/- two entries -/
theorem istood : Tryd.prog.stoodInHeld 23 = false := by kernel_rfl
theorem run_neqE (t c b k : Int) (m p : ByteArray) (w : World) : (binOp .neq 23 (.agg #[.int .i64 t, .int .i64 c, .int .i64 b, .int .i64 k, .string m, .string p]) (.agg #[.int .i64 t, .int .i64 c, .int .i64 b, .int .i64 k, .string m, .string p])).run Tryd.prog w = .ok (.bool false) w := by
  have hu : Tryd.prog.underlying 23 = some (.struct (Tryd.prog.fieldsOf 23)) := by kernel_rfl
  have h9 := Tryd.underlying9
  have h3 := Tryd.underlying3
  rw [run_neq_struct, run_equalIn_agg w 9999 23 _ _ hu istood]
  simp [Program.fieldsOf, Tryd.underlying23, Op.eqFields, go_sem, h9, h3]
/- entries as texts -/
theorem print_inj {t c b k t' c' b' k' : Int} {M P M' P' : List Int} (h : chkE t c b k M P = 0) (h' : chkE t' c' b' k' M' P' = 0) (e : printE t.toNat c.toNat b.toNat k.toNat M P = printE t'.toNat c'.toNat b'.toNat k'.toNat M' P') : t = t' ∧ c = c' ∧ b = b' ∧ k = k' ∧ M = M' ∧ P = P' := by
  obtain ⟨⟨t1, t2⟩, ⟨c1, c2⟩, ⟨b1, b2⟩, ⟨k1, k2⟩, hM, hP⟩ := chkE_ok h
  obtain ⟨⟨t1', t2'⟩, ⟨c1', c2'⟩, ⟨b1', b2'⟩, ⟨k1', k2'⟩, hM', hP'⟩ := chkE_ok h'
  have h1 := cut_print t.toNat c.toNat b.toNat k.toNat P hM
  rw [e, cut_print _ _ _ _ _ hM'] at h1
  simp only [List.cons.injEq, and_true] at h1
  obtain ⟨e0, e1, e2, e3, e4, e5⟩ := h1
  have f0 := decL_inj (by omega) (by omega) e0
  have f1 := decL_inj (by omega) (by omega) e1
  have f2 := decL_inj (by omega) (by omega) e2
  have f3 := decL_inj (by omega) (by omega) e3
  exact ⟨by omega, by omega, by omega, by omega, e4.symm, e5.symm⟩
def factB : ByteArray := ⟨#[55, 32, 50, 48, 48, 32, 53, 32, 49, 32, 71, 69, 84, 32, 47]⟩
theorem fact_chk : chkE 7 200 5 1 [71, 69, 84] [47] = 0 := by decide
theorem fact_print : printE 7 200 5 1 [71, 69, 84] [47] = unums factB := by
  unfold printE
  rw [decL_one (n := 7) (by decide), decL_one (n := 5) (by decide), decL_one (n := 1) (by decide), decL_more (n := 200) (by decide), decL_more (n := 200 / 10) (by decide), decL_one (n := 200 / 10 / 10) (by decide)]
  decide
theorem fact_is {e : Ending} (h : PrsE factB e) : ∃ m0, e = .returned (.tuple #[entV 7 200 5 1 m0 ⟨#[47]⟩, .nilIface]) := by
  rcases h with ⟨t, c, b, k, m, p, rfl, h1, h2, _, _⟩ | ⟨_, h⟩
  · obtain ⟨rfl, rfl, rfl, rfl, _, e5⟩ := print_inj h1 fact_chk (h2.trans fact_print.symm)
    obtain rfl : p = ⟨#[47]⟩ := unums_inj (e5.trans (by decide))
    exact ⟨m, rfl⟩
  · exact absurd fact_print (h _ _ _ _ _ _ fact_chk)
theorem print_small {t c b k : Int} {M P : List Int} (h : chkE t c b k M P = 0) (hl : M.length ≤ 400) (hq : P.length ≤ 400) : (printE t.toNat c.toNat b.toNat k.toNat M P).length ≤ 5000000 := by
  obtain ⟨⟨t1, t2⟩, ⟨c1, c2⟩, ⟨b1, b2⟩, ⟨k1, k2⟩, hM, hP⟩ := chkE_ok h
  have l1 := gdecL_le t.toNat
  have l2 := gdecL_le c.toNat
  have l3 := gdecL_le b.toNat
  have l4 := gdecL_le k.toNat
  unfold printE
  simp only [List.length_append, List.length_cons]
  omega
/-- What Parse answers, as one form. -/
theorem prs_form {s : ByteArray} {e : Ending} (h : PrsE s e) : ∃ (t c b k : Int) (m p : ByteArray) (E : Int), e = .returned (.tuple #[entV t c b k m p, errW E]) ∧ m.size ≤ 400 ∧ p.size ≤ 400 ∧ (E = 0 → chkE t c b k (unums m) (unums p) = 0 ∧ printE t.toNat c.toNat b.toNat k.toNat (unums m) (unums p) = unums s) := by
  rcases h with ⟨t, c, b, k, m, p, rfl, h1, h2, h3, h4⟩ | ⟨rfl, _⟩
  · exact ⟨t, c, b, k, m, p, 0, by rw [gerr_zero], h3, h4, fun _ => ⟨h1, h2⟩⟩
  · exact ⟨0, 0, 0, 0, ⟨#[]⟩, ⟨#[]⟩, 2, by rw [gerr_pos (by decide)], by decide, by decide, fun h => by omega⟩
/- the greatest number -/
theorem rank_all {L : List Int} {i : Nat} (h : rkE L 100 = 0) (hi : i < L.length) : L.getD i 0 ≤ rkV L 100 := by
  obtain ⟨h1, h2⟩ := rkV_ok h
  have h3 := rkE_ok h
  have e : (rkP L.length 100).toNat - 1 = L.length - 1 := by unfold rkP; omega
  rw [h1, e]
  have hm : L.getD i 0 ∈ sortL L := by
    rw [(sortL_perm L).mem_iff]
    simp only [List.getD, List.getElem?_eq_getElem hi]
    exact List.getElem_mem _
  obtain ⟨j, hj, hje⟩ := List.getElem_of_mem hm
  have hl := sortL_len L
  have := sortL_mono (L := L) (i := j) (j := L.length - 1) (by omega) (by omega)
  rw [← hje]
  simpa [List.getD, List.getElem?_eq_getElem hj] using this
/- sums are small -/
theorem sumF_bd {f : Et → Int} {M : Int} : ∀ (L : List Et), (∀ t, t < L.length → 0 ≤ f (L.getD t etn) ∧ f (L.getD t etn) ≤ M) → 0 ≤ sumF f L ∧ sumF f L ≤ M * (L.length : Int)
  | [], _ => by simp [sumF]
  | x :: r, h => by
    have h0 := h 0 (by simp)
    have ih := sumF_bd r (fun t ht => h (t + 1) (by simpa using ht))
    have e0 : (x :: r).getD 0 etn = x := rfl
    rw [e0] at h0
    show 0 ≤ f x + sumF f r ∧ f x + sumF f r ≤ M * ((r.length + 1 : Nat) : Int)
    have : M * ((r.length + 1 : Nat) : Int) = M * (r.length : Int) + M := by rw [Int.natCast_add, Int.mul_add]; simp
    omega
theorem sums_bd {L : List Et} (h : chkL L = 0) (a b : Int) : (0 ≤ sumF (fN a b) L ∧ sumF (fN a b) L ≤ 1000) ∧ (0 ≤ sumF (fB a b) L ∧ sumF (fB a b) L ≤ 1000000000) ∧ (0 ≤ sumF (fX a b) L ∧ sumF (fX a b) L ≤ 1000) := by
  obtain ⟨hl, hc⟩ := chkL_ok h
  have h1 := sumF_bd (f := fN a b) (M := 1) L (fun t _ => by unfold fN; split <;> omega)
  have h2 := sumF_bd (f := fB a b) (M := 1000000) L (fun t ht => by
    have := (chkE_ok (hc t ht)).2.2.1
    unfold fB; split <;> omega)
  have h3 := sumF_bd (f := fX a b) (M := 1) L (fun t _ => by
    unfold fX
    split
    · split <;> omega
    · omega)
  refine ⟨⟨h1.1, by omega⟩, ⟨h2.1, by omega⟩, ⟨h3.1, by omega⟩⟩
attribute [local go_sem] run_neqE
set_option maxHeartbeats 8000000 in
theorem lback_ok (t c b k : Int) (m p s : ByteArray) (x : Option Addr) (len cap : Nat) (L : List Et) (a1 a2 a3 : Int) (y : Option Addr) (ln cn : Nat) (Z : List Int) (w : World) (hT : NLaid w) (he : erP w) (hm : m.size ≤ 140737488351232) (hp : p.size ≤ 140737488351232) (hs : s.size ≤ 140737488351232) (hF : EtArg w x len cap L) (hZ : SzE L) (hA : NArg w y ln cn Z) (hln : ln ≤ 4611686018427387904) :
    Calls Tryd.prog 3 #[entV t c b k m p, .string s, .slice x len cap, .int .i64 a1, .int .i64 a2, .int .i64 a3, .slice y ln cn] w fun e w' => e = .returned (.bool true) ∧ Below w.heap.size w w' := by
  have HT := vl hT
  have HER := vl he
  have HFA := vl hF
  have HSZ := vl hZ
  have HAA := vl hA
  have HLN := vl hln
  have H2 := vl (fun W hW => gprint_any t c b k m p W hW hm hp)
  have HP := vl (fun (u : ByteArray) (W : World) (h1 : Below w.heap.size w W) (h2 : u.size ≤ 140737488351232) => gparse_any u W (HT.out.below h1) (HER.out.below h1) h2)
  have HS := vl hs
  clear hT he hm hp hs hF hZ hA hln
  unfold entV at H2 ⊢
  obtain ⟨W1, hW1⟩ : ∃ W1, W1 = w.alloc (.cells #[.int .i64 t, .int .i64 c, .int .i64 b, .int .i64 k, .string m, .string p] 23) := ⟨_, rfl⟩
  have HB1 : Vl (Below w.heap.size w W1) := by rw [hW1]; exact (Below.refl _ w).alloc (Nat.le_refl _) _
  have HX1 : Vl (EnB W1 w.heap.size t c b k m p) := by rw [hW1]; exact heap_alloc_new w _
  have H0 : Vl (Calls Tryd.prog 4 #[.string { data := #[55, 32, 50, 48, 48, 32, 53, 32, 49, 32, 71, 69, 84, 32, 47] }] W1 fun e w' => PrsE factB e ∧ Below W1.heap.size W1 w') := vl (HP.out factB W1 HB1.out (by decide))
  go_enter Tryd.func3, Tryd.ntmps3
  go_wp2_with fail
  rw [← hW1]
  clear hW1
  refine H0.out.mono ?_
  rintro _ w2 ⟨hP0, hb2⟩
  obtain ⟨m0, rfl⟩ := fact_is hP0
  have HB2 := vl (HB1.out.trans (hb2.mono HB1.out.size))
  have HX2 := vl (HX1.out.on hb2)
  clear hb2 HB1 HX1 H0 hP0
  unfold entV
  have HZ3 : Vl (EnB (w2.alloc (.cells #[.int .i64 0, .int .i64 0, .int .i64 0, .int .i64 0, .string ⟨#[]⟩, .string ⟨#[]⟩] 23)) w2.heap.size 0 0 0 0 ⟨#[]⟩ ⟨#[]⟩) := vl (heap_alloc_new w2 _)
  go_wp2_with (refine wpList_enstore _ rfl _ _ rfl w2.heap.size _ _ _ _ 7 200 5 1 _ _ m0 ⟨#[47]⟩ rfl rfl HZ3.out ?_)
  intro w3 hR3 hg3
  have HB3 : Vl (Below w.heap.size w w3) := vl (gbelow_grown (HB2.out.alloc HB2.out.size _) hg3 (Nat.le_trans HB2.out.size (by simp)) (fun k hk => by cases hk; exact HB2.out.size))
  have HX3 : Vl (EnB w3 w.heap.size t c b k m p) := vl (((hg3.block _ (by have := HX2.out.lt; simp; omega) (fun e => by have := HX2.out.lt; injection e with e; omega)).trans (heap_alloc_old w2 _ HX2.out.lt)).trans HX2.out)
  obtain ⟨f0, f1, f2, f3, f4, f5⟩ := hR3.cells
  obtain ⟨d0, d1, d2, d3, d4, d5⟩ := HX3.out.cells
  clear hR3 hg3 HZ3
  go_wp2_with fail
  refine (H2.out _ (HT.out.below HB3.out)).mono ?_
  rintro _ w4 ⟨⟨s1, rfl, u1, _⟩, hb4⟩
  have HB4 := vl (HB3.out.trans (hb4.mono HB3.out.size))
  have HX4 := vl (HX3.out.on hb4)
  have HU1 := vl u1
  clear hb4 f0 f1 f2 f3 f4 f5 d0 d1 d2 d3 d4 d5 HB3 HX3 HB2 HX2 H2 u1
  obtain ⟨ea, hea⟩ : ∃ ea, chkE t c b k (unums m) (unums p) = ea := ⟨_, rfl⟩
  have HEA := vl hea
  rw [hea]
  have eg := fun x W => igg x ea W
  have ee := fun W => ige ea W
  obtain ⟨ev, hev⟩ : ∃ ev, errW ea = ev := ⟨_, rfl⟩
  obtain ⟨b0, hb0⟩ : ∃ b0, decide (ea = 0) = b0 := ⟨_, rfl⟩
  simp only [hev] at eg
  simp only [hev, hb0] at ee
  rw [hev]
  have HB0 := vl hb0
  clear hev hb0 hea
  go_upto_if 60 with fail
  go_cut [] (fun wx => Vl (Below w.heap.size w wx))
  case first =>
    as_aux_lemma =>
      cases b0 with
      | false =>
        go_wp2_with fail
        go_meet
        exact HB4
      | true =>
        have hz : ea = 0 := of_decide_eq_true HB0.out
        have hz2 : chkE t c b k (unums m) (unums p) = 0 := HEA.out.trans hz
        have hu := HU1.out hz2
        have hok := chkE_ok hz2
        have hsz : s1.size ≤ 140737488351232 := by
          rw [← unums_len, hu]
          have := print_small hz2 (by rw [unums_len]; exact tok_len hok.2.2.2.2.1) (by rw [unums_len]; exact word_len hok.2.2.2.2.2)
          omega
        have HPS := vl (HP.out s1 w4 HB4.out hsz)
        have HCK := vl hz2
        have HUU := vl hu
        clear hz hz2 hu hok hsz HP eg ee
        go_wp2_with fail
        refine HPS.out.mono ?_
        rintro _ w5 ⟨hP5, hb5⟩
        rcases hP5 with ⟨t1, c1, b1, k1, m1, p1, rfl, r3, r4, _, _⟩ | ⟨_, r3⟩
        · obtain ⟨rfl, rfl, rfl, rfl, e1, e2⟩ := print_inj r3 HCK.out (r4.trans HUU.out)
          obtain rfl := unums_inj e1
          obtain rfl := unums_inj e2
          have HB5 := vl (HB4.out.trans (hb5.mono HB4.out.size))
          have HX5 := vl (HX4.out.on hb5)
          clear e1 e2 r3 r4 hb5 HPS HB4 HX4
          unfold entV
          have HZ6 : Vl (EnB (w5.alloc (.cells #[.int .i64 0, .int .i64 0, .int .i64 0, .int .i64 0, .string ⟨#[]⟩, .string ⟨#[]⟩] 23)) w5.heap.size 0 0 0 0 ⟨#[]⟩ ⟨#[]⟩) := vl (heap_alloc_new w5 _)
          go_wp2_with (refine wpList_enstore _ rfl _ _ rfl w5.heap.size _ _ _ _ t1 c1 b1 k1 _ _ m1 p1 rfl rfl HZ6.out ?_)
          intro w6 hR6 hg6
          have HB6 : Vl (Below w.heap.size w w6) := vl (gbelow_grown (HB5.out.alloc HB5.out.size _) hg6 (Nat.le_trans HB5.out.size (by simp)) (fun k hk => by cases hk; exact HB5.out.size))
          have HX6 : Vl (EnB w6 w.heap.size t1 c1 b1 k1 m1 p1) := vl (((hg6.block _ (by have := HX5.out.lt; simp; omega) (fun e => by have := HX5.out.lt; injection e with e; omega)).trans (heap_alloc_old w5 _ HX5.out.lt)).trans HX5.out)
          obtain ⟨f0, f1, f2, f3, f4, f5⟩ := hR6.cells
          obtain ⟨d0, d1, d2, d3, d4, d5⟩ := HX6.out.cells
          clear hR6 hg6 HZ6
          go_wp2_with fail
          go_meet
          exact HB6
        · exact absurd HUU.out.symm (r3 _ _ _ _ _ _ HCK.out)
  case rest =>
  have HB5 : Vl (Below w.heap.size w wc) := hcut
  clear hcut eg ee HB0 HEA HU1 HB4 HX4
  have HPS := vl (HP.out s wc HB5.out HS.out)
  clear HP
  go_wp2_with fail
  refine HPS.out.mono ?_
  rintro _ w5 ⟨hP5, hb5⟩
  obtain ⟨t2, c2, b2, k2, m2, p2, eb, rfl, l1, l2, hE⟩ := prs_form hP5
  have HB6 := vl (HB5.out.trans (hb5.mono HB5.out.size))
  have HEE := vl hE
  have HQ := vl (fun W hW => gprint_any t2 c2 b2 k2 m2 p2 W hW (by omega) (by omega))
  clear hb5 hP5 HPS hE HB5 l1 l2
  unfold entV at HQ ⊢
  have eg := fun x W => igg x eb W
  have ee := fun W => ige eb W
  obtain ⟨ev2, hev⟩ : ∃ ev, errW eb = ev := ⟨_, rfl⟩
  obtain ⟨b0, hb0⟩ : ∃ b0, decide (eb = 0) = b0 := ⟨_, rfl⟩
  simp only [hev] at eg
  simp only [hev, hb0] at ee
  rw [hev]
  have HB0 := vl hb0
  clear hev hb0
  have HZ7 : Vl (EnB (w5.alloc (.cells #[.int .i64 0, .int .i64 0, .int .i64 0, .int .i64 0, .string ⟨#[]⟩, .string ⟨#[]⟩] 23)) w5.heap.size 0 0 0 0 ⟨#[]⟩ ⟨#[]⟩) := vl (heap_alloc_new w5 _)
  go_wp2_with (refine wpList_enstore _ rfl _ _ rfl w5.heap.size _ _ _ _ t2 c2 b2 k2 _ _ m2 p2 rfl rfl HZ7.out ?_)
  intro w7 hR7 hg7
  have HB7 : Vl (Below w.heap.size w w7) := vl (gbelow_grown (HB6.out.alloc HB6.out.size _) hg7 (Nat.le_trans HB6.out.size (by simp)) (fun k hk => by cases hk; exact HB6.out.size))
  obtain ⟨f0, f1, f2, f3, f4, f5⟩ := hR7.cells
  clear hR7 hg7 HZ7 HB6
  go_upto_if 79 with fail
  go_cut [] (fun wx => Vl (Below w.heap.size w wx))
  case first =>
    as_aux_lemma =>
      cases b0 with
      | false =>
        go_wp2_with fail
        go_meet
        exact HB7
      | true =>
        have hz : eb = 0 := of_decide_eq_true HB0.out
        obtain ⟨h1, h2⟩ := HEE.out hz
        have HCK := vl h1
        have HUU := vl h2
        have HQ2 := vl (HQ.out w7 (HT.out.below HB7.out))
        clear h1 h2 hz eg ee HQ
        go_wp2_with fail
        refine HQ2.out.mono ?_
        rintro _ w8 ⟨⟨s2, rfl, u2, _⟩, hb8⟩
        have HB8 := vl (HB7.out.trans (hb8.mono HB7.out.size))
        obtain rfl : s2 = s := unums_inj ((u2 HCK.out).trans HUU.out)
        rw [HCK.out, gerr_zero]
        clear u2 hb8
        go_wp2_with fail
        go_meet
        exact HB8
  case rest =>
  have HB8 : Vl (Below w.heap.size w wc) := hcut
  clear hcut eg ee HB0 HEE HQ HB7 f0 f1 f2 f3 f4 f5
  obtain ⟨V, hV⟩ : ∃ V, rkV (zl ln Z) 100 = V := ⟨_, rfl⟩
  obtain ⟨ec, hec⟩ : ∃ E, rkE (zl ln Z) 100 = E := ⟨_, rfl⟩
  have HRK := vl (grank_any y ln cn Z 100 wc (HAA.out.below HB8.out) HLN.out)
  have HRA : Vl (ec = 0 → ∀ t, t < ln → Z.getD t 0 ≤ V) := vl (fun h t ht => by
    have hh := rank_all (L := zl ln Z) (i := t) (by rw [hec]; exact h) (by rw [zl_len]; exact ht)
    rw [zl_at Z ht, hV] at hh
    exact hh)
  rw [hV, hec] at HRK
  clear hV hec
  have eg := fun x W => igg x ec W
  have ee := fun W => ige ec W
  obtain ⟨ev3, hev⟩ : ∃ ev, errW ec = ev := ⟨_, rfl⟩
  obtain ⟨b3, hb3⟩ : ∃ b0, decide (ec = 0) = b0 := ⟨_, rfl⟩
  simp only [hev] at eg
  simp only [hev, hb3] at ee
  rw [hev] at HRK
  have HB3 := vl hb3
  clear hev hb3
  have hln : ln ≤ 4611686018427387904 := HLN.out
  go_wp2_with fail
  refine HRK.out.mono ?_
  rintro _ w9 ⟨rfl, hb9⟩
  have HB9 := vl (HB8.out.trans (hb9.mono HB8.out.size))
  clear hb9 HRK HB8
  go_wp2_with fail
  go_loopw [25] (fun i wr => ∃ k : Nat, i = .int .i64 k ∧ k ≤ ln ∧ Vl (Below w.heap.size w wr)) (fun i _ => ln - (intOf i).toNat)
  case atStart => exact ⟨0, rfl, by omega, HB9⟩
  case round =>
    obtain ⟨k, rfl, hk, HB⟩ := hrel
    go_upto_region 16 with fail
    go_cut [104] (fun bv wx => ∃ bb : Bool, bv = .bool bb ∧ Vl (wx = wr) ∧ Vl (bb = true → ec = 0 ∧ k < ln))
    case first =>
      as_aux_lemma =>
        by_cases hlt : k < ln
        · have hlt' : (k : Int) < (ln : Int) := by omega
          cases b3 with
          | false =>
            go_wp2
            go_meet
            exact ⟨false, rfl, rfl, fun h => by cases h⟩
          | true =>
            have hz : ec = 0 := of_decide_eq_true HB3.out
            go_wp2
            go_meet
            exact ⟨true, rfl, rfl, fun _ => ⟨hz, hlt⟩⟩
        · have hlt' : ¬ (k : Int) < (ln : Int) := by omega
          go_wp2
          go_meet
          exact ⟨false, rfl, rfl, fun h => by cases h⟩
    case rest =>
    obtain ⟨bb, rfl, hwx, HBB⟩ := hcut
    rw [hwx.out]
    clear hwx eg ee
    cases bb with
    | true =>
      obtain ⟨hz, hlt⟩ := HBB.out rfl
      have hle := HRA.out hz k hlt
      have hle' : ¬ V < Z.getD k 0 := by omega
      rcases HAA.out.below HB.out with h | ⟨g, off, rfl, q1, q2, q3⟩
      · omega
      · have hc := q3 k hlt
        have hlt' : (k : Int) < (ln : Int) := by omega
        unfold maxLen at q2
        generalize Z.getD k 0 = z at *
        clear q3 hz HBB
        go_wp2_with fail
        go_roundw
        case rel => exact ⟨k + 1, by go_num, by omega, HB⟩
        case measure => simp [intOf]; omega
    | false =>
      clear HBB HRA HB3
      by_cases h1 : a2 < a1
      · go_wp2_with fail
        go_ret
        exact ⟨rfl, HB.out⟩
      · by_cases h2 : a3 < a2
        · go_wp2_with fail
          go_ret
          exact ⟨rfl, HB.out⟩
        · have k1 : a1 ≤ a2 := by omega
          have k2 : a2 ≤ a3 := by omega
          have HSa := vl (gsum_any x len cap L a1 a2 wr (HFA.out.below HB.out) HSZ.out)
          have HSb := vl (fun (W : World) (h : Below w.heap.size w W) => gsum_any x len cap L a2 a3 W (HFA.out.below h) HSZ.out)
          have HSc := vl (fun (W : World) (h : Below w.heap.size w W) => gsum_any x len cap L a1 a3 W (HFA.out.below h) HSZ.out)
          go_wp2_with fail
          refine HSa.out.mono ?_
          rintro _ wa ⟨hPa, hba⟩
          have HBa := vl (HB.out.trans (hba.mono HB.out.size))
          clear hba HSa
          by_cases h0 : chkL L = 0
          · have e1 := sumF_add (fN_add k1 k2) L
            have e2 := sumF_add (fB_add k1 k2) L
            have e3 := sumF_add (fX_add k1 k2) L
            have HPb : Vl (∀ e, SumP L a2 a3 e → e = .returned (.tuple #[.int .i64 (sumF (fN a2 a3) L), .int .i64 (sumF (fB a2 a3) L), .int .i64 (sumF (fX a2 a3) L), .nilIface])) := vl (fun e h => h.elim (fun h => h.2) (fun h => absurd h0 h.1))
            have HPc : Vl (∀ e, SumP L a1 a3 e → e = .returned (.tuple #[.int .i64 (sumF (fN a1 a3) L), .int .i64 (sumF (fB a1 a3) L), .int .i64 (sumF (fX a1 a3) L), .nilIface])) := vl (fun e h => h.elim (fun h => h.2) (fun h => absurd h0 h.1))
            obtain ⟨⟨x1, x2⟩, ⟨x3, x4⟩, ⟨x5, x6⟩⟩ := sums_bd h0 a1 a2
            obtain ⟨⟨y1, y2⟩, ⟨y3, y4⟩, ⟨y5, y6⟩⟩ := sums_bd h0 a2 a3
            rcases hPa with ⟨_, rfl⟩ | ⟨hn, _⟩
            · rw [← e1, ← e2, ← e3] at HPc
              clear e1 e2 e3 h0
              generalize sumF (fN a1 a2) L = n1 at *
              generalize sumF (fB a1 a2) L = n2 at *
              generalize sumF (fX a1 a2) L = n3 at *
              generalize sumF (fN a2 a3) L = m1 at *
              generalize sumF (fB a2 a3) L = m2 at *
              generalize sumF (fX a2 a3) L = m3 at *
              go_wp2_with fail
              refine (HSb.out _ HBa.out).mono ?_
              rintro _ wb ⟨hPb, hbb⟩
              obtain rfl := HPb.out _ hPb
              have HBb := vl (HBa.out.trans (hbb.mono HBa.out.size))
              clear hbb hPb HPb HSb
              go_wp2_with fail
              refine (HSc.out _ HBb.out).mono ?_
              rintro _ we ⟨hPc, hbc⟩
              obtain rfl := HPc.out _ hPc
              have HBc := vl (HBb.out.trans (hbc.mono HBb.out.size))
              clear hbc hPc HPc HSc
              go_wp2_with fail
              go_ret
              exact ⟨rfl, HBc.out⟩
            · exact absurd h0 hn
          · have HPb : Vl (∀ e, SumP L a2 a3 e → e = .returned (.tuple #[.int .i64 0, .int .i64 0, .int .i64 0, .iface 39 (.int .i64 (chkL L))])) := vl (fun e h => h.elim (fun h => absurd h.1 h0) (fun h => by rw [h.2, gerr_pos h0]))
            have HPc : Vl (∀ e, SumP L a1 a3 e → e = .returned (.tuple #[.int .i64 0, .int .i64 0, .int .i64 0, .iface 39 (.int .i64 (chkL L))])) := vl (fun e h => h.elim (fun h => absurd h.1 h0) (fun h => by rw [h.2, gerr_pos h0]))
            rcases hPa with ⟨hn, _⟩ | ⟨_, rfl⟩
            · exact absurd hn h0
            · rw [gerr_pos h0]
              clear h0
              generalize chkL L = E at *
              go_wp2_with fail
              refine (HSb.out _ HBa.out).mono ?_
              rintro _ wb ⟨hPb, hbb⟩
              obtain rfl := HPb.out _ hPb
              have HBb := vl (HBa.out.trans (hbb.mono HBa.out.size))
              clear hbb hPb HPb HSb
              go_wp2_with fail
              refine (HSc.out _ HBb.out).mono ?_
              rintro _ we ⟨hPc, hbc⟩
              obtain rfl := HPc.out _ hPc
              have HBc := vl (HBb.out.trans (hbc.mono HBb.out.size))
              clear hbc hPc HPc HSc
              go_wp2_with fail
              go_ret
              exact ⟨rfl, HBc.out⟩
end Go.Proofs.YteohgkgahkkjlaaDoor
