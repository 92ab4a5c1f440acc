/-
  THE WALK of the law StreamsFull. No claim by itself.
-/
import Derived.Test.YthphblmoeomeoadSdev2
namespace Go.Proofs.Ythphblmoeomeoad
open Go.RowKit Go.Maps
set_option maxRecDepth 100000
theorem key_ne {a b : Int} (h : a ≠ b) : (Lit.int .i64 a) ≠ (Lit.int .i64 b) := fun e => h (by cases e; rfl)
theorem hasI_put (D : Dat) (hD : IsMap D) (id s id' : Int) : hasI (putI D id s) id' = if id' = id then true else hasI D id' := by
  unfold hasI putI
  split
  · rename_i h
    subst h
    exact has_put_same (k := .int .i64 id') hD trivial _
  · rename_i h
    exact has_put_other (key_ne h) _
theorem hasI_del (D : Dat) (id id' : Int) : hasI (delI D id) id' = if id' = id then false else hasI D id' := by
  unfold hasI delI
  split
  · rename_i h
    subst h
    exact has_del_same
  · rename_i h
    exact has_del_other (key_ne h)
theorem atI_put (D : Dat) (hD : IsMap D) (id s id' : Int) : atI (putI D id s) id' = if id' = id then s else atI D id' := by
  unfold atI putI
  split
  · rename_i h
    subst h
    rw [atKey_put_same (k := .int .i64 id') hD trivial]
    rfl
  · rename_i h
    rw [atKey_put_other (key_ne h)]
theorem atI_del (D : Dat) (id id' : Int) (h : id' ≠ id) : atI (delI D id) id' = atI D id' := by
  unfold atI delI
  rw [atKey_del_other (key_ne h)]
theorem sizeI_put (D : Dat) (hD : Tidy D) (id s : Int) : Maps.size (putI D id s) = if hasI D id = true then Maps.size D else Maps.size D + 1 := size_put hD _
theorem sizeI_del (D : Dat) (hD : Tidy D) (id : Int) : Maps.size (delI D id) + (if hasI D id = true then 1 else 0) = Maps.size D := size_del hD
def idF (g : Int) (k : Nat) : Int := 1 + 2 * g * k
theorem idF_zero (g : Int) : idF g 0 = 1 := by simp [idF]
theorem idF_succ (g : Int) (k : Nat) : idF g (k + 1) = idF g k + 2 * g := by unfold idF; rw [show ((k + 1 : Nat) : Int) = (k : Int) + 1 by omega, Int.mul_add]; omega
theorem idF_lt {g : Int} (hg : 1 ≤ g) {j k : Nat} (h : j < k) : idF g j < idF g k := by
  induction k with
  | zero => omega
  | succ k ih =>
    rw [idF_succ]
    by_cases e : j = k
    · subst e; omega
    · have := ih (by omega); omega
theorem idF_range {g : Int} (hg : 1 ≤ g) (hg2 : g ≤ 1000) : ∀ k : Nat, 1 ≤ idF g k ∧ idF g k ≤ 1 + 2000 * (k : Int)
  | 0 => by rw [idF_zero]; omega
  | k + 1 => by have := idF_range hg hg2 k; rw [idF_succ]; omega
theorem idF_odd (g : Int) : ∀ k : Nat, idF g k % 2 = 1
  | 0 => by rw [idF_zero]; rfl
  | k + 1 => by have := idF_odd g k; rw [idF_succ]; omega
theorem tmod_of {x : Int} (h0 : 0 ≤ x) : x.tmod 2 = x % 2 := Int.tmod_eq_emod_of_nonneg h0
/-- k streams are open. -/
structure Full (g : Int) (k : Nat) (D : Dat) : Prop where
  size : Maps.size D = k
  has : ∀ id, hasI D id = true ↔ ∃ j, j < k ∧ id = idF g j
  at1 : ∀ id, hasI D id = true → atI D id = 1
theorem full_zero (g : Int) : Full g 0 (.map []) := ⟨rfl, fun id => ⟨fun h => by simp [hasI, Maps.has] at h, fun ⟨j, hj, _⟩ => by omega⟩, fun id h => by simp [hasI, Maps.has] at h⟩
theorem Full.no {g : Int} {k : Nat} {D : Dat} (h : Full g k D) {id : Int} (hn : ∀ j, j < k → id ≠ idF g j) : hasI D id = false := by
  cases e : hasI D id with
  | false => rfl
  | true =>
    obtain ⟨j, hj, he⟩ := (h.has id).1 e
    exact absurd he (hn j hj)
theorem Full.step {g : Int} (hg : 1 ≤ g) {k : Nat} {D : Dat} (h : Full g k D) (hD : Tidy D) : Full g (k + 1) (putI D (idF g k) 1) := by
  have hno : hasI D (idF g k) = false := h.no (fun j hj e => by have := idF_lt hg hj; omega)
  refine ⟨by rw [sizeI_put D hD, hno, h.size]; rfl, fun id => ?_, fun id => ?_⟩
  · rw [hasI_put D hD.isMap]
    by_cases e : id = idF g k
    · rw [if_pos e]
      exact ⟨fun _ => ⟨k, by omega, e⟩, fun _ => rfl⟩
    · rw [if_neg e, h.has]
      exact ⟨fun ⟨j, hj, he⟩ => ⟨j, by omega, he⟩, fun ⟨j, hj, he⟩ => ⟨j, by
        rcases Nat.lt_or_ge j k with h1 | h1
        · exact h1
        · exact absurd (show id = idF g k by rw [he]; congr 1; omega) e, he⟩⟩
  · rw [hasI_put D hD.isMap, atI_put D hD.isMap]
    by_cases e : id = idF g k
    · rw [if_pos e, if_pos e]; intro _; rfl
    · rw [if_neg e, if_neg e]; exact h.at1 id
theorem wf_small {x : Int} (h0 : 0 ≤ x) (h1 : x ≤ 1000000) : WfI x := by
  show (Lit.int .i64 x).wf = true
  simp [Lit.wf, IntKind.min, IntKind.max, IntKind.bits, IntKind.signed]
  omega
theorem full_out (g who : Int) (w : World) (h : g < 1 ∨ 1000 < g ∨ who < 0 ∨ 15 < who) :
    Calls Try.prog 6 #[.int .i64 g, .int .i64 who] w fun e w' => e = .returned (.bool true) ∧ Below w.heap.size w w' := by
  have HN := vl (snew_any w)
  unfold sptr at HN
  have H : g < 1 ∨ (¬ (g < 1) ∧ 1000 < g) ∨ (¬ (g < 1) ∧ ¬ (1000 < g) ∧ who < 0) ∨ (¬ (g < 1) ∧ ¬ (1000 < g) ∧ ¬ (who < 0) ∧ 15 < who) := by omega
  clear h
  rcases H with q1 | ⟨q1, q2⟩ | ⟨q1, q2, q3⟩ | ⟨q1, q2, q3, q4⟩
  all_goals
    go_enter Try.func6, Try.ntmps6
    go_wp2_with fail
    refine HN.out.mono ?_
    rintro e W ⟨rfl, hP0, hB0, hsz⟩
    have HM := vl (smany_any hP0)
    have HL := vl (slast_any hP0)
    have HB := vl hB0
    unfold sptr at HM HL
    rw [show Maps.size (.map [] : Dat) = 0 from rfl] at HM
    clear HN hP0 hB0 hsz
    go_wp2_with fail
    refine HM.out.mono ?_
    rintro e W ⟨rfl, rfl⟩
    go_wp2_with fail
    refine HL.out.mono ?_
    rintro e W ⟨rfl, rfl⟩
    go_wp2
    go_ret
    exact ⟨rfl, HB.out⟩
set_option maxHeartbeats 4000000 in
theorem full_in (g who : Int) (w : World) (g1 : 1 ≤ g) (g2 : g ≤ 1000) (w1 : 0 ≤ who) (w2 : who ≤ 15) :
    Calls Try.prog 6 #[.int .i64 g, .int .i64 who] w fun e w' => e = .returned (.bool true) ∧ Below w.heap.size w w' := by
  have HN := vl (snew_any w)
  unfold sptr at HN
  have q1 : ¬ (g < 1) := by omega
  have q2 : ¬ (1000 < g) := by omega
  have q3 : ¬ (who < 0) := by omega
  have q4 : ¬ (15 < who) := by omega
  go_enter Try.func6, Try.ntmps6
  go_wp2_with fail
  refine HN.out.mono ?_
  rintro e W ⟨rfl, hP0, hB0, hsz⟩
  obtain ⟨sb, hsb⟩ : ∃ sb, sb = w.heap.size + 1 := ⟨_, rfl⟩
  obtain ⟨mb, hmb⟩ : ∃ mb, mb = w.heap.size := ⟨_, rfl⟩
  rw [← hsb] at hP0 ⊢
  rw [← hmb] at hP0
  have P0 := vl hP0
  have B0 := vl hB0
  have HSB := vl hsb
  have HMB := vl hmb
  clear HN hP0 hB0 hsz hsb hmb
  go_wp2
  go_loopw [6, 7] (fun x i wr => ∃ (k : Nat) (D : Dat) (n : Nat) (last : Int), i = .int .i64 k ∧ x = .int .i64 (idF g k) ∧ k ≤ 16 ∧ StP wr sb mb n D last ∧ Full g k D ∧ n ≤ k ∧ last < idF g k ∧ Below w.heap.size w wr) (fun _ i _ => 16 - (intOf i).toNat)
  case atStart => exact ⟨0, .map [], 0, 0, rfl, by rw [idF_zero], by omega, P0.out, full_zero g, by omega, by rw [idF_zero]; omega, B0.out⟩
  case round =>
    obtain ⟨k, D, n, last, rfl, rfl, hk, hP, hF, hn, hl, hB⟩ := hrel
    have hr := idF_range g1 g2 k
    have ho := idF_odd g k
    have hP' := vl hP
    have hF' := vl hF
    have hB' := vl hB
    have HSC := vl (idF_succ g k)
    have HLT := vl (idF_range g1 g2 (k + 1))
    by_cases h16 : k < 16
    · have p1 : (k : Int) < 16 := by omega
      have HOP := vl (sopen_ok hP (idF g k) (wf_small (by omega) (by omega)) (by unfold maxLen; omega) (by rw [tmod_of (by omega)]; omega) hl (by rw [hF.size]; exact h16))
      have HF2 := vl (hF.step g1 (hP.own.tidy klaw))
      have HST : Vl (stF (putI D (idF g k) 1) (idF g k) (idF g k) = 1) := by
        show stF _ _ _ = 1
        unfold stF
        rw [if_neg (by omega), if_neg (by omega), if_neg (by rw [tmod_of (by omega)]; omega), hasI_put _ (hP.own.isMap), if_pos rfl, if_pos rfl, atI_put _ (hP.own.isMap), if_pos rfl]
      have HWF := vl (wf_small (x := idF g k) (by omega) (by omega))
      unfold sptr at HOP
      have x1 : 1 ≤ idF g k := hr.1
      have x2 : idF g k ≤ 40000 := by omega
      clear hP hF hB hr ho hl
      generalize hx : idF g k = x at *
      clear hx
      go_wp2_with fail
      refine HOP.out.mono ?_
      rintro e wa ⟨rfl, hPa, hTa⟩
      have PA := vl hPa
      have BA := vl (Tn.below hB'.out hTa hB'.out.size (fun i hi => by rcases hi with h | h <;> (have := HSB.out; have := HMB.out; omega)))
      have HSS := vl (sstate_any hPa x HWF.out)
      rw [HST.out] at HSS
      unfold sptr at HSS
      clear hPa hTa HOP
      go_wp2_with fail
      refine HSS.out.mono ?_
      rintro e wb ⟨rfl, rfl⟩
      clear HSS
      go_wp2
      go_roundw
      case rel => exact ⟨k + 1, _, n + 1, x, by go_num, by rw [HSC.out], by omega, PA.out, HF2.out, by omega, by rw [HSC.out]; omega, BA.out⟩
      case measure => simp [intOf]; omega
    · have hk16 : k = 16 := by omega
      subst hk16
      have HOP := vl (sopen_full hP (idF g 16) (by rw [tmod_of (by omega)]; omega) hl (by rw [hF.size]; exact Nat.le_refl _))
      have HST : Vl (stF D (idF g 16) (idF g 16) = 4) := by
        show stF _ _ _ = 4
        unfold stF
        rw [if_neg (by omega), if_neg (by omega), if_neg (by rw [tmod_of (by omega)]; omega), hF.no (fun j hj e => by have := idF_lt g1 hj; omega), if_neg (by simp)]
      obtain ⟨j, hj⟩ : ∃ j : Nat, who = j := ⟨who.toNat, by omega⟩
      have hj16 : j < 16 := by omega
      have hy := idF_range g1 g2 j
      have hyo := idF_odd g j
      have hyl := idF_lt g1 hj16
      have hyh : hasI D (idF g j) = true := (hF.has _).2 ⟨j, hj16, rfl⟩
      have HPD : Vl (putD D (idF g 16) (idF g j) 4 = delI D (idF g j)) := by
        show putD _ _ _ _ = _
        have e1 : stF D (idF g 16) (idF g j) = 1 := by
          unfold stF
          rw [if_neg (by omega), if_neg (by omega), if_neg (by rw [tmod_of (by omega)]; omega), hyh, if_pos rfl, hF.at1 _ hyh]
        unfold putD
        rw [e1, if_neg (by simp [begunF]), if_pos rfl]
      have hT := hP.own.tidy klaw
      have HSZ : Vl (Maps.size (delI D (idF g j)) = 15) := by
        show _ = _
        have := sizeI_del D hT (idF g j)
        rw [hyh, hF.size] at this
        simp at this
        omega
      have HNO : Vl (hasI (delI D (idF g j)) (idF g 16 + 2) = false) := by
        show _ = _
        rw [hasI_del, if_neg (by omega)]
        exact hF.no (fun i hi e => by have := idF_lt g1 hi; omega)
      have HWY := vl (wf_small (x := idF g j) (by omega) (by omega))
      have HWX := vl (wf_small (x := idF g 16) (by omega) (by omega))
      have HYE : Vl (idF g j = 1 + 2 * g * who) := by show _ = _; rw [hj]; rfl
      have x1 : 1 ≤ idF g 16 := hr.1
      have x2 : idF g 16 ≤ 40000 := by omega
      have HXO := vl ho
      have HFS := vl hF.size
      have HN' := vl hn
      have mw1 : 0 ≤ 2 * g * who := by have := HYE.out; omega
      have mw2 : 2 * g * who ≤ 40000 := by have := HYE.out; omega
      unfold sptr at HOP
      clear hP hF hB hr ho hl hT hyh hyl hyo hy HSC HLT hF' h16 hk hj
      generalize idF g 16 = x at *
      generalize idF g j = y at *
      go_wp2_with fail
      refine HOP.out.mono ?_
      rintro e wa ⟨rfl, hPa, hTa⟩
      clear HOP
      have BA := vl (Tn.below hB'.out hTa hB'.out.size (fun i hi => by rcases hi with h | h <;> (have := HSB.out; have := HMB.out; omega)))
      have PA := vl hPa
      have HM := vl (smany_any hPa)
      have HL := vl (slast_any hPa)
      have HS := vl (sstate_any hPa x HWX.out)
      rw [HST.out] at HS
      rw [HFS.out] at HM
      unfold sptr at HM HL HS
      clear hPa hTa HST
      go_wp2_with fail
      refine HM.out.mono ?_
      rintro e wb ⟨rfl, rfl⟩
      clear HM
      go_wp2_with fail
      refine HL.out.mono ?_
      rintro e wb ⟨rfl, rfl⟩
      clear HL
      go_wp2_with fail
      refine HS.out.mono ?_
      rintro e wb ⟨rfl, rfl⟩
      clear HS
      go_wp2_with fail
      rw [← HYE.out]
      have HPU := vl (sput_any PA.out y 4 HWY.out (by have := HN'.out; unfold maxLen; omega))
      rw [HPD.out] at HPU
      unfold sptr at HPU
      refine HPU.out.mono ?_
      rintro e wb ⟨⟨v, rfl⟩, hPb, hTb⟩
      clear HPU HPD PA
      have BB := vl (Tn.below BA.out hTb BA.out.size (fun i hi => by rcases hi with h | h <;> (have := HSB.out; have := HMB.out; omega)))
      have PB := vl hPb
      have HO1 := vl (sopen_ok hPb (x + 2) (wf_small (by omega) (by omega)) (by have := HN'.out; unfold maxLen; omega) (by rw [tmod_of (by omega)]; have := HXO.out; omega) (by omega) (by rw [HSZ.out]; omega))
      have HS2 : Vl (Maps.size (putI (delI D y) (x + 2) 1) = 16) := by
        show _ = _
        rw [sizeI_put _ (hPb.own.tidy klaw), HNO.out, HSZ.out]
        rfl
      unfold sptr at HO1
      clear hPb hTb BA HNO HSZ
      go_wp2_with fail
      refine HO1.out.mono ?_
      rintro e wc ⟨rfl, hPc, hTc⟩
      clear HO1 PB
      have BC := vl (Tn.below BB.out hTc BB.out.size (fun i hi => by rcases hi with h | h <;> (have := HSB.out; have := HMB.out; omega)))
      have HO2 := vl (sopen_no hPc (x + 2) (Or.inr (Int.le_refl _)))
      have HO3 := vl (sopen_no hPc (x + 3) (Or.inl (by rw [tmod_of (by omega)]; have := HXO.out; omega)))
      have HM := vl (smany_any hPc)
      rw [HS2.out] at HM
      have HS := vl (sstate_any hPc (x + 4) (wf_small (by omega) (by omega)))
      rw [show stF (putI (delI D y) (x + 2) 1) (x + 2) (x + 4) = 0 by unfold stF; rw [if_neg (by omega), if_pos (by omega)]] at HS
      unfold sptr at HO2 HO3 HM HS
      clear hPc hTc BB HS2
      go_wp2_with fail
      refine HO2.out.mono ?_
      rintro e wd ⟨rfl, rfl⟩
      clear HO2
      go_wp2_with fail
      refine HO3.out.mono ?_
      rintro e wd ⟨rfl, rfl⟩
      clear HO3
      go_wp2_with fail
      refine HM.out.mono ?_
      rintro e wd ⟨rfl, rfl⟩
      clear HM
      go_wp2_with fail
      refine HS.out.mono ?_
      rintro e wd ⟨rfl, rfl⟩
      clear HS
      go_wp2
      go_ret
      exact ⟨rfl, BC.out⟩
theorem full_ok (g who : Int) (w : World) :
    Calls Try.prog 6 #[.int .i64 g, .int .i64 who] w fun e w' => e = .returned (.bool true) ∧ Below w.heap.size w w' := by
  by_cases h : g < 1 ∨ 1000 < g ∨ who < 0 ∨ 15 < who
  · exact full_out g who w h
  · exact full_in g who w (by omega) (by omega) (by omega) (by omega)
end Go.Proofs.Ythphblmoeomeoad
