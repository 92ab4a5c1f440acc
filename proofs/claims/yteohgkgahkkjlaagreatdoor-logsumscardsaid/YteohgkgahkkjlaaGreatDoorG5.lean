/-
  WHAT WAS DONE: the developers' Print. No claim by itself.
-/
import Derived.Test.YteohgkgahkkjlaaGreatDoorGdec
import Derived.BigRegion
import Derived.Laws.Tables
import Derived.Handy
import Derived.Deep.DeepCutAuto
import Derived.LoopN
namespace Go.Proofs.YteohgkgahkkjlaaGreatDoor
open Go Go.RowKit
set_option maxRecDepth 100000
/-- What Print answers. -/
def PrnE (t c b k : Int) (m p : ByteArray) (e : Ending) : Prop := ∃ s : ByteArray, e = .returned (.tuple #[.string s, errW (chkE t c b k (unums m) (unums p))]) ∧ (chkE t c b k (unums m) (unums p) = 0 → unums s = printE t.toNat c.toNat b.toNat k.toNat (unums m) (unums p)) ∧ (chkE t c b k (unums m) (unums p) ≠ 0 → s = ⟨#[]⟩)
theorem tok_len {s : ByteArray} (h : tokL (unums s) = true) : s.size ≤ 400 := by
  unfold tokL at h
  simp only [Bool.and_eq_true, decide_eq_true_eq] at h
  have := h.2
  rw [unums_len] at this
  exact this
theorem word_len {s : ByteArray} (h : wordL (unums s) = true) : s.size ≤ 400 := by
  unfold wordL plainL at h
  simp only [Bool.and_eq_true, Bool.or_eq_true, decide_eq_true_eq, Bool.not_eq_true'] at h
  have := h.1.2.2
  rcases this with h1 | h1
  · rw [h.2] at h1; cases h1
  · have := h1.1.1
    rw [unums_len] at this
    exact this
theorem idx4 (x0 x1 x2 x3 : Int) (w : World) :
    (Instr.index 51 (.agg #[.int .i64 x0, .int .i64 x1, .int .i64 x2, .int .i64 x3]) (.int .i64 0)).run Tryz.prog w = .ok (.int .i64 x0) w
    ∧ (Instr.index 51 (.agg #[.int .i64 x0, .int .i64 x1, .int .i64 x2, .int .i64 x3]) (.int .i64 1)).run Tryz.prog w = .ok (.int .i64 x1) w
    ∧ (Instr.index 51 (.agg #[.int .i64 x0, .int .i64 x1, .int .i64 x2, .int .i64 x3]) (.int .i64 2)).run Tryz.prog w = .ok (.int .i64 x2) w
    ∧ (Instr.index 51 (.agg #[.int .i64 x0, .int .i64 x1, .int .i64 x2, .int .i64 x3]) (.int .i64 3)).run Tryz.prog w = .ok (.int .i64 x3) w := ⟨rfl, rfl, rfl, rfl⟩
theorem idx4_0 (x0 x1 x2 x3 : Int) (w : World) : (Instr.index 51 (.agg #[.int .i64 x0, .int .i64 x1, .int .i64 x2, .int .i64 x3]) (.int .i64 0)).run Tryz.prog w = .ok (.int .i64 x0) w := (idx4 x0 x1 x2 x3 w).1
theorem idx4_1 (x0 x1 x2 x3 : Int) (w : World) : (Instr.index 51 (.agg #[.int .i64 x0, .int .i64 x1, .int .i64 x2, .int .i64 x3]) (.int .i64 1)).run Tryz.prog w = .ok (.int .i64 x1) w := (idx4 x0 x1 x2 x3 w).2.1
theorem idx4_2 (x0 x1 x2 x3 : Int) (w : World) : (Instr.index 51 (.agg #[.int .i64 x0, .int .i64 x1, .int .i64 x2, .int .i64 x3]) (.int .i64 2)).run Tryz.prog w = .ok (.int .i64 x2) w := (idx4 x0 x1 x2 x3 w).2.2.1
theorem idx4_3 (x0 x1 x2 x3 : Int) (w : World) : (Instr.index 51 (.agg #[.int .i64 x0, .int .i64 x1, .int .i64 x2, .int .i64 x3]) (.int .i64 3)).run Tryz.prog w = .ok (.int .i64 x3) w := (idx4 x0 x1 x2 x3 w).2.2.2
attribute [local go_sem] idx4_0 idx4_1 idx4_2 idx4_3
theorem un_add (a b : ByteArray) : unums (a ++ b) = unums a ++ unums b := by
  unfold unums
  simp [ByteArray.data_append]
set_option maxHeartbeats 4000000 in
theorem gprint_any (t c b k : Int) (m p : ByteArray) (w : World) (hT : NLaid w) (hm : m.size ≤ 140737488351232) (hp : p.size ≤ 140737488351232) :
    Calls Tryz.prog 7 #[entV t c b k m p] w fun e w' => PrnE t c b k m p e ∧ Below w.heap.size w w' := by
  have HC := vl (fun W => gchk_any t c b k m p W hm hp)
  by_cases h0 : chkE t c b k (unums m) (unums p) = 0
  · have hok := chkE_ok h0
    obtain ⟨⟨t1, t2⟩, ⟨c1, c2⟩, ⟨b1, b2⟩, ⟨k1, k2⟩, hM, hP⟩ := hok
    have hml := tok_len hM
    have hpl := word_len hP
    obtain ⟨t, rfl⟩ : ∃ n : Nat, t = (n : Int) := ⟨t.toNat, by omega⟩
    obtain ⟨c, rfl⟩ : ∃ n : Nat, c = (n : Int) := ⟨c.toNat, by omega⟩
    obtain ⟨b, rfl⟩ : ∃ n : Nat, b = (n : Int) := ⟨b.toNat, by omega⟩
    obtain ⟨k, rfl⟩ : ∃ n : Nat, k = (n : Int) := ⟨k.toNat, by omega⟩
    have HFIN : Vl (∀ s : ByteArray, unums s = printE t c b k (unums m) (unums p) → PrnE t c b k m p (.returned (.tuple #[.string s, .nilIface]))) := fun s hs => ⟨s, by rw [h0]; rfl, fun _ => hs, fun h => absurd h0 h⟩
    rw [h0] at HC
    have HI : Vl (∀ (n : Nat), n ≤ 1000000 → ∀ W, NLaid W → Calls Tryz.prog 20 #[.int .i64 (n : Int)] W fun e w' => ∃ s : ByteArray, e = .returned (.string s) ∧ unums s = decL n ∧ s.size ≤ 1000001 ∧ Below W.heap.size W w') := fun n hn W hW => (nitoa_any n (by omega) W hW).mono fun e w' ⟨s, h1, h2, h3⟩ => ⟨s, h1, h2, by
        have := gdecL_le n
        rw [← h2, unums_len] at this
        omega, h3⟩
    have ht : t ≤ 1000000 := by omega
    have hc : c ≤ 1000000 := by omega
    have hb : b ≤ 1000000 := by omega
    have hk : k ≤ 1000000 := by omega
    have HI1 := vl (HI.out t ht)
    have HI2 := vl (HI.out c hc)
    have HI3 := vl (HI.out b hb)
    have HI4 := vl (HI.out k hk)
    clear HI h0 t1 t2 c1 c2 b1 b2 k1 k2 hM hP hm hp ht hc hb hk
    unfold entV at HC ⊢
    obtain ⟨W1, hW1⟩ : ∃ W1, W1 = w.alloc (.cells #[.int .i64 t, .int .i64 c, .int .i64 b, .int .i64 k, .string m, .string p] 23) := ⟨_, rfl⟩
    have HB1 : Vl (Below w.heap.size w W1) := by rw [hW1]; exact (Below.refl _ w).alloc (Nat.le_refl _) _
    have HBX : Vl (EnC W1 w.heap.size t c b k m p) := by rw [hW1]; exact enc_new w t c b k m p _
    have hsz : w.heap.size < W1.heap.size := by rw [hW1]; simp
    have HT1 : Vl (NLaid W1) := vl (hT.below HB1.out)
    obtain ⟨d0, d1, d2, d3, d4, d5⟩ := HBX.out
    clear hT
    go_enter Tryz.func7, Tryz.ntmps7
    go_wp2_with fail
    rw [← hW1]
    clear hW1
    refine (HC.out _).mono ?_
    rintro _ w2 ⟨rfl, hb⟩
    have HB2 := vl (HB1.out.trans (hb.mono HB1.out.size))
    have HBX2 := vl (HBX.out.below hb hsz)
    have hsz2 : w.heap.size < w2.heap.size := Nat.lt_of_lt_of_le hsz hb.size
    have HT2 := vl (HT1.out.below hb)
    clear hb HBX HB1 HT1 d0 d1 d2 d3 d4 d5 HC hsz
    obtain ⟨d0, d1, d2, d3, d4, d5⟩ := HBX2.out
    rw [errW, if_pos rfl]
    go_upto_region 6 with fail
    clear d0 d1 d2 d3 d4 d5
    refine wp_loop_rounds 5 ?_
    rw [rounds_succ]
    go_wp2_with fail
    refine (HI1.out _ HT2.out).mono ?_
    rintro _ w3 ⟨s1, rfl, u1, z1, hb⟩
    have HB3 := vl (HB2.out.trans (hb.mono HB2.out.size))
    have HBX3 := vl (HBX2.out.below hb hsz2)
    have hsz3 : w.heap.size < w3.heap.size := Nat.lt_of_lt_of_le hsz2 hb.size
    have HT3 := vl (HT2.out.below hb)
    have U1 := vl u1
    clear hb HB2 HBX2 HT2 u1 hsz2
    have y1 : ¬ 9223372036854775807 < s1.size + 1 := by omega
    go_wp2_with fail
    rw [rounds_succ]
    go_wp2_with fail
    refine (HI2.out _ HT3.out).mono ?_
    rintro _ w4 ⟨s2, rfl, u2, z2, hb⟩
    have HB4 := vl (HB3.out.trans (hb.mono HB3.out.size))
    have HBX4 := vl (HBX3.out.below hb hsz3)
    have hsz4 : w.heap.size < w4.heap.size := Nat.lt_of_lt_of_le hsz3 hb.size
    have HT4 := vl (HT3.out.below hb)
    have U2 := vl u2
    clear hb HB3 HBX3 HT3 u2 hsz3
    have y2 : ¬ 9223372036854775807 < s2.size + 1 := by omega
    have x2 : ¬ 9223372036854775807 < (s1.size + 1) + (s2.size + 1) := by omega
    go_wp2_with fail
    rw [rounds_succ]
    go_wp2_with fail
    refine (HI3.out _ HT4.out).mono ?_
    rintro _ w5 ⟨s3, rfl, u3, z3, hb⟩
    have HB5 := vl (HB4.out.trans (hb.mono HB4.out.size))
    have HBX5 := vl (HBX4.out.below hb hsz4)
    have hsz5 : w.heap.size < w5.heap.size := Nat.lt_of_lt_of_le hsz4 hb.size
    have HT5 := vl (HT4.out.below hb)
    have U3 := vl u3
    clear hb HB4 HBX4 HT4 u3 hsz4
    have y3 : ¬ 9223372036854775807 < s3.size + 1 := by omega
    have x3 : ¬ 9223372036854775807 < (s1.size + 1) + (s2.size + 1) + (s3.size + 1) := by omega
    go_wp2_with fail
    rw [rounds_succ]
    go_wp2_with fail
    refine (HI4.out _ HT5.out).mono ?_
    rintro _ w6 ⟨s4, rfl, u4, z4, hb⟩
    have HB6 := vl (HB5.out.trans (hb.mono HB5.out.size))
    have HBX6 := vl (HBX5.out.below hb hsz5)
    have hsz6 : w.heap.size < w6.heap.size := Nat.lt_of_lt_of_le hsz5 hb.size
    have HT6 := vl (HT5.out.below hb)
    have U4 := vl u4
    clear hb HB5 HBX5 HT5 u4 hsz5
    have y4 : ¬ 9223372036854775807 < s4.size + 1 := by omega
    have x4 : ¬ 9223372036854775807 < (s1.size + 1) + (s2.size + 1) + (s3.size + 1) + (s4.size + 1) := by omega
    obtain ⟨d0, d1, d2, d3, d4, d5⟩ := HBX6.out
    go_wp2_with fail
    rw [rounds_succ]
    go_wp2_with fail
    go_ret2
    refine ⟨HFIN.out _ ?_, HB6.out⟩
    simp only [un_add, U1.out, U2.out, U3.out, U4.out]
    unfold printE
    simp [unums]
  · have HQ := vl (gerr_pos h0)
    have HFIN : Vl (PrnE t c b k m p (.returned (.tuple #[.string ⟨#[]⟩, .iface 52 (.int .i64 (chkE t c b k (unums m) (unums p)))]))) := ⟨_, by rw [HQ.out], fun h => absurd h h0, fun _ => rfl⟩
    rw [HQ.out] at HC
    generalize chkE t c b k (unums m) (unums p) = E at *
    unfold entV at HC ⊢
    obtain ⟨W1, hW1⟩ : ∃ W1, W1 = w.alloc (.cells #[.int .i64 t, .int .i64 c, .int .i64 b, .int .i64 k, .string m, .string p] 23) := ⟨_, rfl⟩
    have HB1 : Vl (Below w.heap.size w W1) := by rw [hW1]; exact (Below.refl _ w).alloc (Nat.le_refl _) _
    have HBX : Vl (EnC W1 w.heap.size t c b k m p) := by rw [hW1]; exact enc_new w t c b k m p _
    obtain ⟨d0, d1, d2, d3, d4, d5⟩ := HBX.out
    go_enter Tryz.func7, Tryz.ntmps7
    go_wp2_with fail
    rw [← hW1]
    clear hW1
    refine (HC.out _).mono ?_
    rintro _ w2 ⟨rfl, hb⟩
    have HB2 := vl (HB1.out.trans (hb.mono HB1.out.size))
    clear hb d0 d1 d2 d3 d4 d5 HC
    go_wp2_with fail
    go_ret2
    exact ⟨HFIN.out, HB2.out⟩
end Go.Proofs.YteohgkgahkkjlaaGreatDoor
