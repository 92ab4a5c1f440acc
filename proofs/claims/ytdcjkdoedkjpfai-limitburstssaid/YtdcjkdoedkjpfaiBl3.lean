/-
  NOT TOO OFTEN: the Go functions renew, Ask, Left, Wait of package limit. No claim by itself.
-/
import Derived.Test.YtdcjkdoedkjpfaiBl2
namespace Go.Proofs.Ytdcjkdoedkjpfai
open Go.RowKit Go.Maps
set_option maxRecDepth 100000
/-- Behind a bucket that was kept. -/
structure Kept (w : World) (lb mb : Nat) (r b : Int) (f : BSt) (n : Nat) (w' : World) : Prop where
  lim : ∃ D, LimM w' lb mb r b D f n
  tn : Tn (Bl2 lb mb) w w'
theorem kept_same {w w' : World} {lb mb : Nat} {r b : Int} {D : BDat} {f : BSt} {n : Nat} (h : LimM w lb mb r b D f n) (hb : Below w.heap.size w w') : Kept w lb mb r b f n w' :=
  ⟨⟨D, h.below (Nat.le_refl _) hb⟩, Tn.of_below hb⟩
theorem kept_put {w w1 w' : World} {lb mb n' : Nat} {r b : Int} {D : BDat} {f : BSt} {n : Nat} (h : LimM w lb mb r b D f n) (hb : Below w.heap.size w w1) {s : List UInt8} {o : Int × Int} (ho : w'.ownsMap Try.prog 9 bkElem mb n' (D.put (blK s) (bkD o.1 o.2))) (hg : w1.grownBy w' (some mb)) (hT : Tidy D) : Kept w lb mb r b (blPut f s o) (blSz f s n) w' :=
  ⟨⟨_, (h.below (Nat.le_refl _) hb).turn ho (h.rel.put hT s o) hg⟩, bl_then hb (bl_grown hg (fun _ hk => Or.inr (Option.some.inj hk).symm))⟩
/-- A key that is there keeps its bucket as it is now. -/
def renewF (f : BSt) (s : List UInt8) (o : Int × Int) : BSt := if (f s).isSome then blPut f s o else f
set_option maxHeartbeats 1000000 in
theorem renew_any {w : World} {lb mb : Nat} {r b : Int} {D : BDat} {f : BSt} {n : Nat} (h : LimM w lb mb r b D f n) (hm : n ≤ 100) {s : ByteArray} (hs : s.size ≤ 140737488351232) (l a : Int) :
    Calls Try.prog 11 #[lptr lb, .string s, .agg #[.int .i64 l, .int .i64 a]] w (fun e w' => (∃ v, e = .returned v) ∧ Kept w lb mb r b (renewF f s.data.toList (l, a)) n w') := by
  obtain ⟨W0, hW0⟩ : ∃ W0, W0 = w.alloc (.cells #[.int .i64 l, .int .i64 a] 40) := ⟨_, rfl⟩
  have HB0 : Vl (Below w.heap.size w W0) := by rw [hW0]; exact (Below.refl _ w).alloc (Nat.le_refl _) _
  have HN0 : Vl (w.heap.size < W0.heap.size) := by rw [hW0]; exact vl (by simp)
  have hM0 := h.below (Nat.le_refl _) HB0.out
  have g0 : W0.cell? ⟨w.heap.size, 0, none⟩ = some (.int .i64 l) := by rw [hW0]; simp
  have g1 : W0.cell? ⟨w.heap.size, 1, none⟩ = some (.int .i64 a) := by rw [hW0]; simp
  have c2 := hM0.c2
  have HT : Vl (Tidy D) := h.own.tidy bklaw
  unfold lptr
  cases hf : f s.data.toList with
  | some o =>
    obtain ⟨l0, a0⟩ := o
    have lk := hM0.look hs hf
    rw [show renewF f s.data.toList (l, a) = blPut f s.data.toList (l, a) by unfold renewF; rw [hf]; rfl]
    obtain ⟨W1, hW1⟩ : ∃ W1, W1 = W0.alloc (.cells #[.int .i64 l0, .int .i64 a0] 40) := ⟨_, rfl⟩
    have HB1 : Vl (Below W0.heap.size W0 W1) := by rw [hW1]; exact (Below.refl _ W0).alloc (Nat.le_refl _) _
    have HB2 : Vl (Below w.heap.size w W1) := HB0.out.trans (HB1.out.mono HB0.out.size)
    have hM1 := h.below (Nat.le_refl _) HB2.out
    have d2 := hM1.c2
    have k0 : W1.cell? ⟨w.heap.size, 0, none⟩ = some (.int .i64 l) := (HB1.out.cell (p := ⟨w.heap.size, 0, none⟩) HN0.out).trans g0
    have k1 : W1.cell? ⟨w.heap.size, 1, none⟩ = some (.int .i64 a) := (HB1.out.cell (p := ⟨w.heap.size, 1, none⟩) HN0.out).trans g1
    obtain ⟨w3, hst, ho3, hg3⟩ := (hM1.below (Nat.le_refl _) ((Below.refl _ _).drew)).store hs hm l a
    have HK : Vl (Kept w lb mb r b (blPut f s.data.toList (l, a)) n w3) := by
      have := kept_put h (HB2.out.drew) (o := (l, a)) ho3 hg3 HT.out
      rwa [show blSz f s.data.toList n = n by unfold blSz; rw [hf]; rfl] at this
    clear h hM0 hM1 hf ho3 hg3 HB2 HB1 HT
    clear g0 g1 HB0 HN0
    subst hW0
    go_enter Try.func11, Try.ntmps11
    go_wp2_with fail
    rw [← hW1]
    clear hW1 lk c2
    go_region
    go_wp2
    go_end0
    exact ⟨⟨_, rfl⟩, HK.out⟩
  | none =>
    have lk := hM0.look0 hs hf
    rw [show renewF f s.data.toList (l, a) = f by unfold renewF; rw [hf]; rfl]
    have HK : Vl (Kept w lb mb r b f n (W0.alloc (.cells #[.int .i64 0, .int .i64 0] 40))) := kept_same h (HB0.out.alloc HB0.out.size _)
    clear h hM0 hf HT
    clear g0 g1 HB0 HN0
    subst hW0
    go_enter Try.func11, Try.ntmps11
    go_wp2
    go_end0
    exact ⟨⟨_, rfl⟩, HK.out⟩
theorem lookF_inv {r b : Int} {f : BSt} {n : Nat} (hI : BlI r b f n) {s : List UInt8} {now k l a : Int} (h : lookF r b f n s now k = (0, l, a)) : 1 ≤ k ∧ k ≤ b ∧ 0 ≤ now ∧ now ≤ 1000000 ∧ 0 ≤ l ∧ l ≤ b ∧ a = now ∧ (f s = none → n < 100) := by
  by_cases h1 : 1 ≤ k ∧ k ≤ b
  · by_cases h2 : 0 ≤ now ∧ now ≤ 1000000
    · have hb0 := hI.b0
      cases hf : f s with
      | some o =>
        obtain ⟨l0, a0⟩ := o
        have hb := hI.each _ _ _ hf
        rw [lookF_some h1 h2 hf] at h
        by_cases h3 : now < a0
        · rw [if_pos h3] at h; cases h
        · rw [if_neg h3] at h
          have hmul : 0 ≤ (now - a0) * r := Int.mul_nonneg (by omega) (by have := hI.r0; omega)
          injection h with _ h; injection h with h4 h5
          exact ⟨h1.1, h1.2, h2.1, h2.2, by omega, by omega, h5.symm, fun e => by cases e⟩
      | none =>
        rw [lookF_none h1 h2 hf] at h
        by_cases h3 : 100 ≤ n
        · rw [if_pos h3] at h; cases h
        · rw [if_neg h3] at h
          injection h with _ h; injection h with h4 h5
          exact ⟨h1.1, h1.2, h2.1, h2.2, by omega, by omega, h5.symm, fun _ => by omega⟩
    · rw [lookF_bad (Or.inr h2)] at h; cases h
  · rw [lookF_bad (Or.inl h1)] at h; cases h
/-- What Ask answers, and what it leaves. -/
def askOk (x : Int × Int × Int) (k : Int) : Bool := decide (x.1 = 0) && decide (k ≤ x.2.1)
def askSt (f : BSt) (s : List UInt8) (x : Int × Int × Int) (k : Int) : BSt := if x.1 = 0 then blPut f s (if k ≤ x.2.1 then x.2.1 - k else x.2.1, x.2.2) else f
def askN (f : BSt) (s : List UInt8) (n : Nat) (x : Int × Int × Int) : Nat := if x.1 = 0 then blSz f s n else n
def AskE (w : World) (lb mb : Nat) (r b : Int) (f : BSt) (n : Nat) (s : List UInt8) (x : Int × Int × Int) (k : Int) (e : Ending) (w' : World) : Prop :=
  e = .returned (.tuple #[.bool (askOk x k), errW x.1]) ∧ Kept w lb mb r b (askSt f s x k) (askN f s n x) w'
def LeftE (w : World) (lb mb : Nat) (r b : Int) (f : BSt) (n : Nat) (s : List UInt8) (x : Int × Int × Int) (v : Int) (e : Ending) (w' : World) : Prop :=
  e = .returned (.tuple #[.int .i64 (if x.1 = 0 then v else 0), errW x.1]) ∧ Kept w lb mb r b (if x.1 = 0 then renewF f s x.2 else f) n w'
theorem errW_no {ec : Int} (h : ec ≠ 0) : errW ec = .iface 35 (.int .i64 ec) := by unfold errW; rw [if_neg h]
set_option maxHeartbeats 1000000 in
theorem ask_any {w : World} {lb mb : Nat} {r b : Int} {D : BDat} {f : BSt} {n : Nat} (h : LimM w lb mb r b D f n) (hI : BlI r b f n) {s : ByteArray} (hs : s.size ≤ 140737488351232) (now k : Int) :
    Calls Try.prog 7 #[lptr lb, .string s, .int .i64 now, .int .i64 k] w (AskE w lb mb r b f n s.data.toList (lookF r b f n s.data.toList now k) k) := by
  have HL := vl (look_any h hI hs now k)
  have hinv := @lookF_inv r b f n hI s.data.toList now k
  have HT : Vl (Tidy D) := h.own.tidy bklaw
  have HM := vl h
  have HS := vl hs
  have HMa := vl hI.many
  generalize lookF r b f n s.data.toList now k = x at *
  obtain ⟨ec, l, a⟩ := x
  unfold lptr at *
  by_cases he : ec = 0
  · subst he
    obtain ⟨k0, k1, n0, n1, l0, l1, rfl, _⟩ := hinv rfl
    have hb1 := hI.b1
    clear hinv hI h hs
    by_cases h1 : k ≤ l
    · have i1 : IntKind.i64.wrap (l - k) = l - k := IntWalk.i64_in _ ⟨by omega, by omega⟩
      go_enter Try.func7, Try.ntmps7
      go_wp2_with fail
      refine HL.out.mono ?_
      rintro e w2 ⟨rfl, hb2⟩
      rw [show errW 0 = .nilIface from rfl]
      have HB2 := vl hb2
      clear hb2
      go_wp2_with fail
      obtain ⟨W3, hW3⟩ : ∃ W3, W3 = w2.alloc (.cells #[.int .i64 (l - k), .int .i64 a] 40) := ⟨_, rfl⟩
      have HB3 : Vl (Below w.heap.size w W3.drew) := by rw [hW3]; exact (HB2.out.alloc HB2.out.size _).drew
      have q0 : W3.cell? ⟨w2.heap.size, 0, none⟩ = some (.int .i64 (l - k)) := by rw [hW3]; simp
      have q1 : W3.cell? ⟨w2.heap.size, 1, none⟩ = some (.int .i64 a) := by rw [hW3]; simp
      have c2 : W3.cell? ⟨lb, 2, none⟩ = some (.map (some mb)) := (HM.out.below (Nat.le_refl _) HB3.out).c2
      obtain ⟨w4, hst, ho, hg⟩ := (HM.out.below (Nat.le_refl _) HB3.out).store HS.out HMa.out (l - k) a
      have HK := vl (kept_put HM.out HB3.out (o := ((l - k), a)) ho hg HT.out)
      clear ho hg HB3 HB2 HL
      rw [← hW3]
      clear hW3
      go_region
      go_wp2
      go_ret2
      exact ⟨by unfold askOk; rw [show decide (k ≤ l) = true from decide_eq_true h1]; rfl, by unfold askSt askN; rw [if_pos rfl, if_pos rfl, if_pos h1]; exact HK.out⟩
    · have HN := vl h1
      go_enter Try.func7, Try.ntmps7
      go_wp2_with fail
      refine HL.out.mono ?_
      rintro e w2 ⟨rfl, hb2⟩
      rw [show errW 0 = .nilIface from rfl]
      have HB2 := vl hb2
      clear hb2
      go_wp2_with fail
      obtain ⟨W3, hW3⟩ : ∃ W3, W3 = w2.alloc (.cells #[.int .i64 l, .int .i64 a] 40) := ⟨_, rfl⟩
      have HB3 : Vl (Below w.heap.size w W3.drew) := by rw [hW3]; exact (HB2.out.alloc HB2.out.size _).drew
      have q0 : W3.cell? ⟨w2.heap.size, 0, none⟩ = some (.int .i64 l) := by rw [hW3]; simp
      have q1 : W3.cell? ⟨w2.heap.size, 1, none⟩ = some (.int .i64 a) := by rw [hW3]; simp
      have c2 : W3.cell? ⟨lb, 2, none⟩ = some (.map (some mb)) := (HM.out.below (Nat.le_refl _) HB3.out).c2
      obtain ⟨w4, hst, ho, hg⟩ := (HM.out.below (Nat.le_refl _) HB3.out).store HS.out HMa.out l a
      have HK := vl (kept_put HM.out HB3.out (o := (l, a)) ho hg HT.out)
      clear ho hg HB3 HB2 HL
      rw [← hW3]
      clear hW3
      go_region
      go_wp2
      go_ret2
      have hq : ¬ k ≤ l := by
        have := HN.out
        omega
      refine ⟨?_, ?_⟩
      · unfold askOk
        simp only [decide_eq_false hq]
        rfl
      · unfold askSt askN
        simp only [if_neg hq, if_true]
        exact HK.out
  · have HF : Vl (∀ w', Below w.heap.size w w' → AskE w lb mb r b f n s.data.toList (ec, l, a) k (.returned (.tuple #[.bool false, .iface 35 (.int .i64 ec)])) w') := fun w' hb =>
      ⟨by unfold askOk; rw [errW_no he]; simp [he], by unfold askSt askN; rw [if_neg he, if_neg he]; exact kept_same HM.out hb⟩
    have HE := vl (errW_no he)
    clear hinv hI h hs
    go_enter Try.func7, Try.ntmps7
    go_wp2_with fail
    refine HL.out.mono ?_
    rintro e w2 ⟨rfl, hb2⟩
    rw [HE.out]
    have HB2 := vl hb2
    clear hb2
    go_wp2
    go_ret2
    exact HF.out _ (HB2.out.alloc HB2.out.size _)
theorem leftE_bad {w : World} {lb mb : Nat} {r b : Int} {D : BDat} {f : BSt} {n : Nat} (h : LimM w lb mb r b D f n) (s : List UInt8) {ec : Int} (he : ec ≠ 0) (l a v : Int) {w' : World} (hb : Below w.heap.size w w') : LeftE w lb mb r b f n s (ec, l, a) v (.returned (.tuple #[.int .i64 0, .iface 35 (.int .i64 ec)])) w' := by
  unfold LeftE
  simp only [if_neg he, errW_no he]
  exact ⟨trivial, kept_same h hb⟩
theorem Kept.drew {w w' : World} {lb mb : Nat} {r b : Int} {f : BSt} {n : Nat} (h : Kept w lb mb r b f n w') : Kept w lb mb r b f n w'.drew := by
  obtain ⟨⟨D, hl⟩, ht⟩ := h
  exact ⟨⟨D, hl.kept rfl rfl⟩, ⟨ht.os, ht.tape, ht.output, ht.size, ht.block⟩⟩
theorem kept_then {w w1 w' : World} {lb mb : Nat} {r b : Int} {f : BSt} {n : Nat} (hb : Below w.heap.size w w1) (h : Kept w1 lb mb r b f n w') : Kept w lb mb r b f n w' := ⟨h.lim, bl_then hb h.tn⟩
set_option maxHeartbeats 1000000 in
theorem left_any {w : World} {lb mb : Nat} {r b : Int} {D : BDat} {f : BSt} {n : Nat} (h : LimM w lb mb r b D f n) (hI : BlI r b f n) {s : ByteArray} (hs : s.size ≤ 140737488351232) (now : Int) :
    Calls Try.prog 5 #[lptr lb, .string s, .int .i64 now] w (LeftE w lb mb r b f n s.data.toList (lookF r b f n s.data.toList now 1) (lookF r b f n s.data.toList now 1).2.1) := by
  have HL := vl (look_any h hI hs now 1)
  have HM := vl h
  have HS := vl hs
  have HMa := vl hI.many
  generalize lookF r b f n s.data.toList now 1 = x at *
  obtain ⟨ec, l, a⟩ := x
  by_cases he : ec = 0
  · subst he
    clear hI h hs
    unfold lptr at *
    go_enter Try.func5, Try.ntmps5
    go_wp2_with fail
    refine HL.out.mono ?_
    rintro e w2 ⟨rfl, hb2⟩
    rw [show errW 0 = .nilIface from rfl]
    obtain ⟨W3, hW3⟩ : ∃ W3, W3 = w2.alloc (.cells #[.int .i64 l, .int .i64 a] 40) := ⟨_, rfl⟩
    have HB3 : Vl (Below w.heap.size w W3) := by rw [hW3]; exact hb2.alloc hb2.size _
    have q0 : W3.cell? ⟨w2.heap.size, 0, none⟩ = some (.int .i64 l) := by rw [hW3]; simp
    have q1 : W3.cell? ⟨w2.heap.size, 1, none⟩ = some (.int .i64 a) := by rw [hW3]; simp
    have hlt : Vl (w2.heap.size < W3.heap.size) := by rw [hW3]; exact vl (by simp)
    have HNE : Vl (¬ Bl2 lb mb w2.heap.size) := by
      have h1 := HM.out.lt
      have h2 := hb2.size
      rintro (e | e) <;> omega
    have HRN := vl (renew_any (HM.out.below (Nat.le_refl _) HB3.out) HMa.out HS.out l a)
    unfold lptr at HRN
    clear hb2
    go_wp2_with fail
    rw [← hW3]
    clear hW3
    refine HRN.out.mono ?_
    rintro e w5 ⟨⟨v, rfl⟩, hK⟩
    have p0 := hK.tn.cell q0 HNE.out
    have HK := vl (kept_then HB3.out hK)
    clear hK q0 q1 HRN
    go_wp2
    go_ret2
    exact ⟨rfl, HK.out⟩
  · have HF : Vl (∀ w', Below w.heap.size w w' → LeftE w lb mb r b f n s.data.toList (ec, l, a) l (.returned (.tuple #[.int .i64 0, .iface 35 (.int .i64 ec)])) w') := fun w' hb => leftE_bad HM.out _ he _ _ _ hb
    have HE := vl (errW_no he)
    clear hI h hs
    unfold lptr at *
    go_enter Try.func5, Try.ntmps5
    go_wp2_with fail
    refine HL.out.mono ?_
    rintro e w2 ⟨rfl, hb2⟩
    rw [HE.out]
    have HB2 := vl hb2
    clear hb2
    go_wp2
    go_ret2
    exact HF.out _ (HB2.out.alloc HB2.out.size _)
/-- How many ticks it takes. -/
def waitF (r l k : Int) : Int := (max (k - l) 0 + r - 1) / r
set_option maxHeartbeats 1000000 in
theorem wait_any {w : World} {lb mb : Nat} {r b : Int} {D : BDat} {f : BSt} {n : Nat} (h : LimM w lb mb r b D f n) (hI : BlI r b f n) {s : ByteArray} (hs : s.size ≤ 140737488351232) (now k : Int) :
    Calls Try.prog 8 #[lptr lb, .string s, .int .i64 now, .int .i64 k] w (LeftE w lb mb r b f n s.data.toList (lookF r b f n s.data.toList now k) (waitF r (lookF r b f n s.data.toList now k).2.1 k)) := by
  have HL := vl (look_any h hI hs now k)
  have hinv := @lookF_inv r b f n hI s.data.toList now k
  have HM := vl h
  have HS := vl hs
  have HMa := vl hI.many
  generalize lookF r b f n s.data.toList now k = x at *
  obtain ⟨ec, l, a⟩ := x
  by_cases he : ec = 0
  · subst he
    obtain ⟨k0, k1, n0, n1, l0, l1, rfl, _⟩ := hinv rfl
    have hb1 := hI.b1
    have hr0 := hI.r0
    have hr1 := hI.r1
    clear hinv hI h hs
    unfold lptr at *
    obtain ⟨m, hm⟩ : ∃ m, m = max (k - l) 0 := ⟨_, rfl⟩
    have HW : Vl (waitF r l k = (m + r - 1) / r) := by rw [hm]; exact vl rfl
    have m0 : 0 ≤ m := by omega
    have m1 : m ≤ 1000000 := by omega
    have i1 : IntKind.i64.wrap (k - l) = k - l := IntWalk.i64_in _ ⟨by omega, by omega⟩
    have i2 : IntKind.i64.wrap (m + r) = m + r := IntWalk.i64_in _ ⟨by omega, by omega⟩
    have i3 : IntKind.i64.wrap (m + r - 1) = m + r - 1 := IntWalk.i64_in _ ⟨by omega, by omega⟩
    have rz : ¬ r = 0 := by omega
    go_enter Try.func8, Try.ntmps8
    go_wp2_with fail
    refine HL.out.mono ?_
    rintro e w2 ⟨rfl, hb2⟩
    rw [show errW 0 = .nilIface from rfl]
    obtain ⟨W3, hW3⟩ : ∃ W3, W3 = w2.alloc (.cells #[.int .i64 l, .int .i64 a] 40) := ⟨_, rfl⟩
    have HB3 : Vl (Below w.heap.size w W3) := by rw [hW3]; exact hb2.alloc hb2.size _
    have q0 : W3.cell? ⟨w2.heap.size, 0, none⟩ = some (.int .i64 l) := by rw [hW3]; simp
    have q1 : W3.cell? ⟨w2.heap.size, 1, none⟩ = some (.int .i64 a) := by rw [hW3]; simp
    have HNE : Vl (¬ Bl2 lb mb w2.heap.size) := by
      have h1 := HM.out.lt
      have h2 := hb2.size
      rintro (e | e) <;> omega
    have HRN := vl (renew_any (HM.out.below (Nat.le_refl _) HB3.out) HMa.out HS.out l a)
    unfold lptr at HRN
    clear hb2
    go_wp2_with fail
    rw [← hW3]
    clear hW3
    refine HRN.out.mono ?_
    rintro e w5 ⟨⟨v, rfl⟩, hK⟩
    have p0 := hK.tn.cell q0 HNE.out
    have c0 : w5.cell? ⟨lb, 0, none⟩ = some (.int .i64 r) := by obtain ⟨_, hx⟩ := hK.lim; exact hx.c0
    have HK := vl (kept_then HB3.out hK)
    clear hK q0 q1 HRN
    go_wp2_with fail
    go_region
    go_wp2
    go_ret2
    exact ⟨rfl, HK.out.drew⟩
  · have HF : Vl (∀ w', Below w.heap.size w w' → LeftE w lb mb r b f n s.data.toList (ec, l, a) (waitF r l k) (.returned (.tuple #[.int .i64 0, .iface 35 (.int .i64 ec)])) w') := fun w' hb => leftE_bad HM.out _ he _ _ _ hb
    have HE := vl (errW_no he)
    clear hinv hI h hs
    unfold lptr at *
    go_enter Try.func8, Try.ntmps8
    go_wp2_with fail
    refine HL.out.mono ?_
    rintro e w2 ⟨rfl, hb2⟩
    rw [HE.out]
    have HB2 := vl hb2
    clear hb2
    go_wp2
    go_ret2
    exact HF.out _ (HB2.out.alloc HB2.out.size _)
end Go.Proofs.Ytdcjkdoedkjpfai
