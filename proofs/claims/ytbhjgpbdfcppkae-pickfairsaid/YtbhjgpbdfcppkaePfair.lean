/-
  THE WALK of the law PickFair, over whatever a picker's memory looks like. No claim by itself.
-/
import Derived.Test.YtbhjgpbdfcppkaePsolo
import Derived.Test.YtbhjgpbdfcppkaeNopen
import Derived.Laws.OwnMore
import Derived.Deep.DeepCutAuto
import Derived.Deep.CutBlock
import Derived.BigQuiet
import Derived.Deep.QuietTactic
namespace Go.Proofs.Ytbhjgpbdfcppkae
open Go.RowKit
set_option maxRecDepth 100000
def Zz0 (_ : Nat) : Int := 0
theorem one_add : addF [] 3 5 = (0, [⟨3, 5, 0, false⟩]) := rfl
theorem one_want : wantF [⟨3, 5, 0, false⟩] 3 true = (0, [⟨3, 5, 0, true⟩]) := rfl
theorem one_next : nextF [⟨3, 5, 0, true⟩] = (3, true) := rfl
theorem one_inv (b : Bool) : PkI [⟨3, 5, 0, b⟩] := ⟨fun o ho => by simp at ho; subst ho; simp, by simp, by simp⟩
theorem info3 : (Try.prog.info? 3).map (fun i => (i.zero, i.size, i.bytes)) = some (some (.int .i64 0), 1, 8) := by kernel_rfl
theorem fdrew {B : Nat} {w w' : World} (h : Below B w w') (n : Nat) : Below B w (w'.drewN n) := h.trans ⟨rfl, rfl, rfl, Nat.le_refl _, fun _ _ => rfl⟩
/-- What was sent, in a row. -/
def SRow (w : World) (sb n : Nat) (s : Nat → Int) : Prop := ∀ i, i < n → w.cell? ⟨sb, i, none⟩ = some (.int .i64 (s i)) ∧ w.frozen? ⟨sb, i, none⟩ = false
theorem SRow.kx {X : Nat → Prop} {w w' : World} {sb n : Nat} {s : Nat → Int} (h : SRow w sb n s) (k : KX X w w') (hx : X sb) : SRow w' sb n s := fun i hi => ⟨k.cell hx (h i hi).1, k.frozen hx (h i hi).2⟩
theorem SRow.set {w : World} {sb n : Nat} {s : Nat → Int} (h : SRow w sb n s) {i : Nat} (hi : i < n) (v : Int) : SRow (w.setCell ⟨sb, i, none⟩ (.int .i64 v)) sb n (upd s i v) := by
  intro j hj
  refine ⟨?_, by rw [World.frozen?_setCell]; exact (h j hj).2⟩
  by_cases e : j = i
  · subst e
    rw [upd_same]
    exact World.cell?_setCell_same _ _ _ (h j hj).1
  · rw [upd_other _ _ _ _ e, World.cell?_setCell_other _ _ _ _ (by simp)]
    exact (h j hj).1
theorem srow_new {w : World} {base g n : Nat} (h : w.ownsRow base 3 1 (.slice (some ⟨g, 0, none⟩) n n) n (List.replicate n (.int .i64 0))) : SRow w g n Zz0 := by
  intro i hi
  refine ⟨?_, h.frozenAt i⟩
  rw [h.cellAt i (by omega), List.getElem?_replicate, if_pos hi]
  rfl
def WL (Z : List Int) (i : Nat) : Int := Z.getD i 0
def WOk (Z : List Int) (n : Nat) : Prop := ∀ i, i < n → 1 ≤ WL Z i ∧ WL Z i ≤ 256
theorem wok_inv {Z : List Int} {n : Nat} (h : WOk Z n) (hn : n ≤ 8) {sc : Nat → Int} (hs : ∀ i, i < n → 0 ≤ sc i ∧ sc i ≤ 4611686018427387904) (b : Nat → Bool) : PkI (mkL n (WL Z) sc b) := mkL_inv (by omega) (fun i hi => ⟨(h i hi).1, (h i hi).2, hs i hi⟩)
def Bf (k : Nat) (i : Nat) : Bool := decide (i < k)
theorem fr_add {Z : List Int} {n : Nat} (hn : n < 8) (h : 1 ≤ WL Z n ∧ WL Z n ≤ 256) : addF (mkL n (WL Z) Zz0 (Bf 0)) ((n : Int) + 1) (WL Z n) = (0, mkL (n + 1) (WL Z) Zz0 (Bf 0)) := by
  rw [mkL_add (by omega) h.1 h.2, mkL_leastSc0 (sc := Zz0) (fun _ _ => rfl)]
  congr 1
  apply mkL_congr
  intro i _
  refine ⟨?_, ?_, ?_⟩
  · unfold upd; split
    · rename_i e; subst e; rfl
    · rfl
  · unfold upd; split <;> rfl
  · unfold upd; split
    · simp [Bf]
    · rfl
theorem fr_want {Z : List Int} {n k : Nat} (hk : k < n) : wantF (mkL n (WL Z) Zz0 (Bf k)) ((k : Int) + 1) true = (0, mkL n (WL Z) Zz0 (Bf (k + 1))) := by
  rw [mkL_want true hk, mkL_leastSc0 (sc := Zz0) (fun _ _ => rfl)]
  congr 1
  apply mkL_congr
  intro i _
  refine ⟨rfl, ?_, ?_⟩
  · unfold upd; split
    · unfold Zz0; split <;> simp
    · rfl
  · unfold upd; split
    · rename_i e; subst e; simp [Bf]
    · rename_i e
      unfold Bf
      rw [decide_eq_decide]
      omega
def xF (Z : List Int) (many : Int) (i : Nat) : Int := many * 65536 / WL Z i
def scF (Z : List Int) (many : Int) (s : Nat → Int) (i : Nat) : Int := s i * xF Z many i
theorem xF_room {Z : List Int} {many : Int} {n i : Nat} (h : WOk Z n) (hi : i < n) (h1 : 1 ≤ many) (h2 : many ≤ 1000) : 0 ≤ xF Z many i ∧ xF Z many i ≤ 65536000 := by
  have hw := h i hi
  unfold xF
  exact ⟨Int.ediv_nonneg (by omega) (by omega), Int.le_trans (Int.ediv_le_self _ (by omega)) (by omega)⟩
theorem scF_room {Z : List Int} {many : Int} {n i : Nat} {s : Nat → Int} (h : WOk Z n) (hi : i < n) (h1 : 1 ≤ many) (h2 : many ≤ 1000) (hs : 0 ≤ s i ∧ s i ≤ 200) : 0 ≤ scF Z many s i ∧ scF Z many s i ≤ 13107200000 := by
  obtain ⟨a, b⟩ := xF_room h hi h1 h2
  unfold scF
  refine ⟨Int.mul_nonneg hs.1 a, ?_⟩
  have e1 : s i * xF Z many i ≤ 200 * xF Z many i := Int.mul_le_mul_of_nonneg_right hs.2 a
  omega
theorem fr_sent {Z : List Int} {many : Int} {n j : Nat} {s : Nat → Int} (h : WOk Z n) (hj : j < n) (h1 : 1 ≤ many) (h2 : many ≤ 1000) (hs : 0 ≤ s j ∧ s j ≤ 200) (b : Nat → Bool) :
    sentF (mkL n (WL Z) (scF Z many s) b) ((j : Int) + 1) many = (0, mkL n (WL Z) (scF Z many (upd s j (s j + 1))) b) := by
  obtain ⟨a1, a2⟩ := xF_room h hj h1 h2
  obtain ⟨a3, a4⟩ := scF_room h hj h1 h2 hs
  rw [mkL_sent many hj, if_neg (by omega)]
  congr 1
  apply mkL_congr
  intro i _
  refine ⟨rfl, ?_, rfl⟩
  by_cases e : i = j
  · subst e
    rw [upd_same]
    unfold scF at *
    rw [upd_same]
    have e1 : (s i + 1) * xF Z many i = s i * xF Z many i + xF Z many i := by rw [Int.add_mul, Int.one_mul]
    rw [e1]
    unfold xF at *
    omega
  · rw [upd_other _ _ _ _ e]
    unfold scF
    rw [upd_other _ _ _ _ e]
set_option maxHeartbeats 8000000 in
theorem pfair_ok {D : PkD} (K : PkKeeps D) (hNew : PNewSaid D) (hAdd : PAddSaid D) (hWant : PWantSaid D) (hSent : PSentSaid D) (hNext : PNextSaid D)
    (a : Option Addr) (len cap : Nat) (Z : List Int) (many turns : Int) (w : World) (hI : NArg w a len cap Z) :
    Calls Try.prog 5 #[.slice a len cap, .int .i64 many, .int .i64 turns] w fun e w' => e = .returned (.bool true) ∧ Below w.heap.size w w' := by
  have HI : Vl (∀ wx, Below w.heap.size w wx → NArg wx a len cap Z) := fun wx hb => hI.below hb
  have HN := vl hNew
  have HA := vl hAdd
  have HW := vl hWant
  have HS := vl hSent
  have HX := vl hNext
  have HK := vl K
  clear hI hNew hAdd hWant hSent hNext K
  have N0 := vl (HN.out w)
  go_enter Try.func5, Try.ntmps5
  go_wp2_with fail
  refine N0.out.mono ?_
  rintro e w1 ⟨pb, S, rfl, hb1, hD, hS⟩
  have S0 : Solo D w (fun _ => False) w1 pb [] := ⟨S, hD, fun k hk => ⟨hS k hk, id⟩, fun k hk => hk.elim, hb1⟩
  have A0 := vl (solo_add S0 HA.out pkI_nil 3 5 (by unfold I64; omega) (by unfold I64; omega) one_add)
  unfold kptr errW at A0
  simp only [if_true] at A0
  unfold kptr
  clear hb1 hD hS S0 N0
  go_wp2_with fail
  refine A0.out.mono ?_
  rintro e w2 ⟨rfl, hs2, _⟩
  have A1 := vl (solo_want hs2 HW.out (one_inv false) 3 true (by unfold I64; omega) one_want)
  unfold kptr errW at A1
  simp only [if_true] at A1
  clear hs2 A0
  go_wp2_with fail
  refine A1.out.mono ?_
  rintro e w3 ⟨rfl, hs3, _⟩
  have A2 := vl (solo_next HK.out hs3 HX.out (one_inv true) one_next)
  unfold kptr at A2
  clear hs3 A1
  go_wp2_with fail
  refine A2.out.mono ?_
  rintro e w4 ⟨rfl, hs4, _⟩
  have B4 := vl hs4.old
  have HLs := hs4.old.size
  clear hs4 A2
  by_cases c1 : (len : Int) < 1
  · go_wp2
    go_ret
    exact ⟨rfl, B4.out⟩
  by_cases c2 : 8 < (len : Int)
  · go_wp2
    go_ret
    exact ⟨rfl, B4.out⟩
  by_cases c3 : many < 1
  · go_wp2
    go_ret
    exact ⟨rfl, B4.out⟩
  by_cases c4 : 1000 < many
  · go_wp2
    go_ret
    exact ⟨rfl, B4.out⟩
  by_cases c5 : turns < 0
  · go_wp2
    go_ret
    exact ⟨rfl, B4.out⟩
  by_cases c6 : 200 < turns
  · go_wp2
    go_ret
    exact ⟨rfl, B4.out⟩
  have N1 := vl (HN.out w4)
  go_wp2_with fail
  refine N1.out.mono ?_
  rintro e w5 ⟨qb, S', rfl, hb5, hD5, hS5⟩
  have S5 : Vl (Solo D w (fun _ => False) w5 qb []) := ⟨S', hD5, fun k hk => ⟨by have := hS5 k hk; omega, id⟩, fun k hk => hk.elim, B4.out.trans (hb5.mono B4.out.size)⟩
  unfold kptr
  clear hb5 hD5 hS5 N1
  obtain ⟨i0, hi, hz0, hz1, hz2⟩ := info_parts info3
  have hlen8 : len ≤ 8 := by omega
  obtain ⟨w6, hmk, hrow, hgrow⟩ := run_make_full (P := Try.prog) w5 w5.heap.size 24 3 i0 (.int .i64 0) 1 Try.underlying24 hi hz0 hz1 .i64 .i64 len (by rw [hz2]; omega) (by unfold maxLen; omega) (Nat.le_refl _)
  have R6 : Vl (SRow w6 w5.heap.size len Zz0) := srow_new (by have h := hrow; rw [Nat.mul_one, show (Value.int .i64 0).cells = #[Value.int .i64 0] from rfl, toList_madeCells_one] at h; exact h)
  have hb6 : Below w5.heap.size w5 w6 := ⟨hgrow.os, hgrow.tape, hgrow.output, hgrow.size, fun k hk => hgrow.block k hk (by simp)⟩
  have hsb : w5.heap.size < w6.heap.size := (hrow.lt w5.heap.size rfl).2
  have S6 : Vl (Solo D w (fun k => k = w5.heap.size) w6 qb (mkL 0 (WL Z) Zz0 (Bf 0))) := (S5.out.guard HK.out hb6 (Nat.le_refl _) hsb).less (fun k hk => Or.inr hk)
  have HMK := vl hmk
  clear hi hz0 hz1 hz2 hrow hgrow hb6 hsb S5 B4 HLs hmk
  go_upto_region 11 with fail
  have hmk := HMK.out
  clear HMK
  go_wp2_with fail
  clear hmk
  generalize w5.heap.size = sb at *
  have p8 : (len : Int) ≤ 8 := by omega
  go_loopw [15, 16] (fun i _ wr => ∃ n : Nat, i = .int .i64 n ∧ n ≤ len ∧ Vl (WOk Z n) ∧ Vl (Solo D w (fun k => k = sb) wr qb (mkL n (WL Z) Zz0 (Bf 0))) ∧ Vl (SRow wr sb len Zz0)) (fun i _ _ => len - (intOf i).toNat)
  case atStart => exact ⟨0, rfl, by omega, fun i hi => by omega, S6.out, R6.out⟩
  case round =>
    obtain ⟨n, rfl, hn, HWk, HSo, HR⟩ := hrel
    clear S6 R6
    by_cases h1 : n < len
    · have p1 : (n : Int) < (len : Int) := by omega
      rcases HI.out wr HSo.out.old with hx | ⟨g, off, rfl, hcp, hmx, hcell⟩
      · omega
      have r1 := hcell n h1
      have hmx' := hmx
      unfold maxLen at hmx'
      clear hcell hmx
      have HWE : Vl (WL Z n = Z.getD n 0) := by show _ = _; rfl
      rw [← HWE.out] at r1
      by_cases q1 : WL Z n < 1
      · generalize WL Z n = wn at *
        go_wp2
        go_ret
        exact ⟨rfl, HSo.out.old⟩
      by_cases q2 : 256 < WL Z n
      · generalize WL Z n = wn at *
        go_wp2
        go_ret
        exact ⟨rfl, HSo.out.old⟩
      have A1 := vl (solo_add HSo.out HA.out (wok_inv HWk.out (by omega) (fun i _ => by unfold Zz0; omega) _) ((n : Int) + 1) (WL Z n) (by unfold I64; omega) (by unfold I64; omega) (fr_add (by omega) ⟨by omega, by omega⟩))
      have HWn : Vl (WOk Z (n + 1)) := fun i hi => by
        by_cases e : i = n
        · subst e; omega
        · exact HWk.out i (by omega)
      unfold kptr errW at A1
      simp only [if_true] at A1
      clear HWE HWk
      generalize WL Z n = wn at *
      go_wp2_with fail
      refine A1.out.mono ?_
      rintro e w7 ⟨rfl, hs7, k7⟩
      have S7 := vl hs7
      have R7 := vl (HR.out.kx k7 rfl)
      clear hs7 k7 A1
      go_wp2
      go_roundw
      case rel => exact ⟨n + 1, by go_num, by omega, HWn.out, S7.out, R7.out⟩
      case measure => simp [intOf]; omega
    have p1 : ¬ ((n : Int) < (len : Int)) := by omega
    obtain rfl : n = len := by omega
    clear h1 hn
    go_wp2_with fail
    go_loopw [17, 18] (fun i _ wr => ∃ k : Nat, i = .int .i64 k ∧ k ≤ n ∧ Vl (Solo D w (fun k => k = sb) wr qb (mkL n (WL Z) Zz0 (Bf k))) ∧ Vl (SRow wr sb n Zz0)) (fun i _ _ => n - (intOf i).toNat)
    case atStart => exact ⟨0, rfl, by omega, HSo.out, HR.out⟩
    case round =>
      obtain ⟨k, rfl, hk, HSk, HRk⟩ := hrel
      clear HSo HR
      by_cases h1 : k < n
      · have p2 : (k : Int) < (n : Int) := by omega
        have A1 := vl (solo_want HSk.out HW.out (wok_inv HWk.out (by omega) (fun i _ => by unfold Zz0; omega) _) ((k : Int) + 1) true (by unfold I64; omega) (fr_want h1))
        unfold kptr errW at A1
        simp only [if_true] at A1
        go_wp2_with fail
        refine A1.out.mono ?_
        rintro e w7 ⟨rfl, hs7, k7⟩
        have S7 := vl hs7
        have R7 := vl (HRk.out.kx k7 rfl)
        clear hs7 k7 A1
        go_wp2
        go_roundw
        case rel => exact ⟨k + 1, by go_num, by omega, S7.out, R7.out⟩
        case measure => simp [intOf]; omega
      have p2 : ¬ ((k : Int) < (n : Int)) := by omega
      obtain rfl : k = n := by omega
      clear h1 hk
      obtain ⟨tn, rfl⟩ : ∃ tn : Nat, turns = (tn : Int) := ⟨turns.toNat, by omega⟩
      go_wp2_with fail
      go_loopw [19, 20, 21, 22] (fun i _ _ _ wr => ∃ (t : Nat) (s : Nat → Int), i = .int .i64 t ∧ t ≤ tn ∧ Vl (∀ i, i < k → 0 ≤ s i ∧ s i ≤ (t : Int)) ∧ Vl (Fair k (xF Z many) s) ∧ Vl (Solo D w (fun k => k = sb) wr qb (mkL k (WL Z) (scF Z many s) (fun _ => true))) ∧ Vl (SRow wr sb k s)) (fun i _ _ _ _ => tn - (intOf i).toNat)
      case atStart =>
        refine ⟨0, Zz0, rfl, by omega, fun i _ => by unfold Zz0; omega, fun i hi j hj => ?_, ?_, HRk.out⟩
        · have := (xF_room HWk.out hi (many := many) (by omega) (by omega)).1
          unfold Zz0
          omega
        · have e : mkL k (WL Z) (scF Z many Zz0) (fun _ => true) = mkL k (WL Z) Zz0 (Bf k) := mkL_congr (fun i hi => ⟨rfl, by unfold scF Zz0; simp, by simp [Bf, hi]⟩)
          show Solo _ _ _ _ _ _
          rw [e]
          exact HSk.out
      case round =>
        obtain ⟨t, s, rfl, ht, Hs, HF, HSt, HRt⟩ := hrel
        clear HSk HRk
        have HSC : Vl (∀ i, i < k → 0 ≤ scF Z many s i ∧ scF Z many s i ≤ 13107200000) := fun i hi => scF_room HWk.out hi (by omega) (by omega) ⟨(Hs.out i hi).1, by have := (Hs.out i hi).2; omega⟩
        by_cases h1 : t < tn
        · have p3 : (t : Int) < (tn : Int) := by omega
          rcases mkL_next (n := k) (W := WL Z) (sc := scF Z many s) (b := fun _ => true) with ⟨_, hno⟩ | ⟨j, hj, hN, _, hmin⟩
          · have := hno 0 (by omega)
            cases this
          have hPI := wok_inv HWk.out (by omega) (fun i hi => ⟨(HSC.out i hi).1, by have := (HSC.out i hi).2; omega⟩) (fun _ => true)
          have A1 := vl (solo_next HK.out HSt.out HX.out hPI hN)
          have A2 := vl (fun (wx : World) (hs : Solo D w (fun k => k = sb) wx qb (mkL k (WL Z) (scF Z many s) (fun _ => true))) => solo_sent hs HS.out hPI ((j : Int) + 1) many (by unfold I64; omega) (by unfold I64; omega) (fr_sent HWk.out hj (by omega) (by omega) ⟨(Hs.out j hj).1, by have := (Hs.out j hj).2; omega⟩ (fun _ => true)))
          have HF' : Vl (Fair k (xF Z many) (upd s j (s j + 1))) := HF.out.step (fun i hi => (xF_room HWk.out hi (by omega) (by omega)).1) (fun i hi => hmin i hi rfl)
          have Hs' : Vl (∀ i, i < k → 0 ≤ upd s j (s j + 1) i ∧ upd s j (s j + 1) i ≤ ((t + 1 : Nat) : Int)) := fun i hi => by
            have h1 := Hs.out i hi
            by_cases e : i = j
            · subst e; rw [upd_same]; omega
            · rw [upd_other _ _ _ _ e]; omega
          have hsj := Hs.out j hj
          have q3 : ¬ ((j : Int) + 1 < 1) := by omega
          have q4 : ¬ ((k : Int) < (j : Int) + 1) := by omega
          unfold kptr errW at A2
          unfold kptr at A1
          simp only [if_true] at A2
          clear hN hmin hPI
          go_wp2_with fail
          refine A1.out.mono ?_
          rintro e w8 ⟨rfl, hs8, k8⟩
          have A3 := vl (A2.out _ hs8)
          have R8 := vl (HRt.out.kx k8 rfl)
          clear hs8 k8 A1 A2
          go_wp2_with fail
          refine A3.out.mono ?_
          rintro e w9 ⟨rfl, hs9, k9⟩
          have R9 := vl (R8.out.kx k9 rfl)
          obtain ⟨y1, y2⟩ := R9.out j hj
          have S10 := vl (hs9.set HK.out (a := ⟨sb, j, none⟩) rfl (.int .i64 (s j + 1)))
          have R10 := vl (R9.out.set hj (s j + 1))
          have e11 : (j : Int) + 1 - 1 = (j : Int) := by omega
          have q5 : (j : Int) < (k : Int) := by omega
          clear hs9 k9 A3 R8 R9 HRt HSt HF Hs HSC
          obtain ⟨sj, hsj'⟩ : ∃ sj, sj = s j := ⟨_, rfl⟩
          rw [← hsj'] at y1 S10 R10 HF' Hs' hsj
          clear hsj'
          go_wp2
          go_roundw
          case rel => exact ⟨t + 1, _, by go_num, by omega, Hs'.out, HF'.out, S10.out, R10.out⟩
          case measure => simp [intOf]; omega
        have p3 : ¬ ((t : Int) < (tn : Int)) := by omega
        have HOld := vl HSt.out.old
        clear HSt HSC
        have FIN : Vl (∀ i, i < k → ∀ j, j < k → s i * WL Z j ≤ s j * WL Z i + WL Z i + WL Z j) := fun i hi j hj => by
          have h1 := HWk.out i hi
          have h2 := HWk.out j hj
          have h3 := Hs.out i hi
          have h4 := Hs.out j hj
          exact fair_end (M := many * 65536) (by omega) h1.1 h1.2 h2.1 h3.1 h4.1 (by omega) rfl rfl (HF.out i hi j hj)
        have RNG : Vl (∀ i, i < k → ∀ j, j < k → 0 ≤ s i * WL Z j ∧ s i * WL Z j ≤ 51200) := fun i hi j hj => by
          have h2 := HWk.out j hj
          have h3 := Hs.out i hi
          refine ⟨Int.mul_nonneg h3.1 (by omega), ?_⟩
          have e1 : s i * WL Z j ≤ 200 * WL Z j := Int.mul_le_mul_of_nonneg_right (by omega) (by omega)
          omega
        have hsbl : sb < wr.heap.size := lt_of_cell (HRt.out 0 (by omega)).1
        obtain ⟨wB, hwB⟩ : ∃ wB, wB = wr := ⟨_, rfl⟩
        subst hwB
        go_wp2_with fail
        go_loopw [23, 24] (fun i _ wq => ∃ ii : Nat, i = .int .i64 ii ∧ ii ≤ k ∧ Vl (Below wB.heap.size wB wq)) (fun i _ _ => k - (intOf i).toNat)
        case atStart => exact ⟨0, rfl, by omega, Below.refl _ _⟩
        case round =>
          obtain ⟨ii, rfl, hii, HB⟩ := hrel
          by_cases h1 : ii < k
          case neg =>
            have p4 : ¬ ((ii : Int) < (k : Int)) := by omega
            have HO := vl (HOld.out.trans (HB.out.mono HOld.out.size))
            go_wp2
            go_ret
            exact ⟨rfl, HO.out⟩
          have p4 : (ii : Int) < (k : Int) := by omega
          go_wp2_with fail
          go_loopw [24] (fun j wq' => ∃ jj : Nat, j = .int .i64 jj ∧ jj ≤ k ∧ Vl (Below wB.heap.size wB wq')) (fun j _ => k - (intOf j).toNat)
          case atStart => exact ⟨0, rfl, by omega, HB.out⟩
          case round =>
            obtain ⟨jj, rfl, hjj, HB'⟩ := hrel
            clear HB
            by_cases h2 : jj < k
            case neg =>
              have p5 : ¬ ((jj : Int) < (k : Int)) := by omega
              go_wp2
              go_roundw
              case rel => exact ⟨ii + 1, by go_num, by omega, HB'.out⟩
              case measure => simp [intOf]; omega
            have p5 : (jj : Int) < (k : Int) := by omega
            rcases HI.out wr (HOld.out.trans (HB'.out.mono HOld.out.size)) with hx | ⟨g, off, rfl, hcp, hmx, hcell⟩
            · omega
            have r1 := hcell ii h1
            have r2 := hcell jj h2
            have hR : SRow wr sb k s := HRt.out.kx (X := fun k => k = sb) (fun k hk => HB'.out.block k (by rw [hk]; exact hsbl)) rfl
            have y1 := (hR ii h1).1
            have y2 := (hR jj h2).1
            have hmx' := hmx
            unfold maxLen at hmx'
            have f1 := FIN.out ii h1 jj h2
            have f2 := RNG.out ii h1 jj h2
            have f3 := RNG.out jj h2 ii h1
            have f4 := HWk.out ii h1
            have f5 := HWk.out jj h2
            clear hcell hmx hR
            rw [show Z.getD ii 0 = WL Z ii from rfl] at r1
            rw [show Z.getD jj 0 = WL Z jj from rfl] at r2
            generalize WL Z ii = wi at *
            generalize WL Z jj = wj at *
            generalize s ii = si at *
            generalize s jj = sj at *
            obtain ⟨pa, hpa⟩ : ∃ pa, si * wj = pa := ⟨_, rfl⟩
            obtain ⟨pc, hpc⟩ : ∃ pc, sj * wi = pc := ⟨_, rfl⟩
            rw [hpa, hpc] at f1
            rw [hpa] at f2
            rw [hpc] at f3
            obtain ⟨f21, f22⟩ := f2
            obtain ⟨f31, f32⟩ := f3
            obtain ⟨f41, f42⟩ := f4
            obtain ⟨f51, f52⟩ := f5
            have f6 : ¬ (pc + wi + wj < pa) := by omega
            clear f1
            go_wp2_with fail
            go_quiet (fail)
            go_wp2
            go_roundw
            case rel => exact ⟨jj + 1, by go_num, by omega, fdrew HB'.out _⟩
            case measure => simp [intOf]; omega
end Go.Proofs.Ytbhjgpbdfcppkae
