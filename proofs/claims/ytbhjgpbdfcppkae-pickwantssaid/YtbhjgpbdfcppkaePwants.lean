/-
  THE WALK of the law PickWants, over whatever a picker's memory looks like. No claim by itself.
-/
import Derived.Test.YtbhjgpbdfcppkaePsolo
import Derived.Test.YtbhjgpbdfcppkaeNopen2
import Derived.Deep.DeepCutAuto
import Derived.Deep.CutBlock
namespace Go.Proofs.Ytbhjgpbdfcppkae
open Go.RowKit
set_option maxRecDepth 100000
def W0 (i : Nat) : Int := 10 * ((i : Int) + 1)
def Z0 (_ : Nat) : Int := 0
def B0 (_ : Nat) : Bool := false
def ScOk (sc : Nat → Int) : Prop := ∀ i, 0 ≤ sc i ∧ sc i ≤ 4611686018427387904
theorem w0_inv {n : Nat} (hn : n ≤ 7) {sc : Nat → Int} (h : ScOk sc) (b : Nat → Bool) : PkI (mkL n W0 sc b) := mkL_inv (by omega) (fun i hi => ⟨by unfold W0; omega, by unfold W0; omega, (h i).1, (h i).2⟩)
theorem z0_ok : ScOk Z0 := fun i => by unfold Z0; omega
theorem w0_add {n : Nat} (hn : n < 7) : addF (mkL n W0 Z0 B0) ((n : Int) + 1) (10 * ((n : Int) + 1)) = (0, mkL (n + 1) W0 Z0 B0) := by
  rw [mkL_add (by omega) (by omega) (by omega), mkL_leastSc0 (sc := Z0) (fun _ _ => rfl)]
  congr 1
  apply mkL_congr
  intro i _
  refine ⟨?_, ?_, ?_⟩
  · unfold upd; split
    · rename_i e; subst e; rfl
    · rfl
  · unfold upd; split <;> rfl
  · unfold upd; split <;> rfl
theorem sc_upd {sc : Nat → Int} (h : ScOk sc) (i : Nat) {v : Int} (h1 : 0 ≤ v) (h2 : v ≤ 4611686018427387904) : ScOk (upd sc i v) := fun j => by unfold upd; split; exact ⟨h1, h2⟩; exact h j
theorem w0_want {i : Nat} (hi : i < 7) {sc : Nat → Int} (h : ScOk sc) (b : Nat → Bool) (yes : Bool) : ∃ sc', ScOk sc' ∧ wantF (mkL 7 W0 sc b) ((i : Int) + 1) yes = (0, mkL 7 W0 sc' (upd b i yes)) := by
  refine ⟨_, ?_, mkL_want yes hi⟩
  have h1 := h i
  have h2 := leastSc_range (w0_inv (Nat.le_refl 7) h b)
  refine sc_upd h i ?_ ?_
  · split <;> omega
  · split <;> omega
theorem w0_sent {i : Nat} (hi : i < 7) {sc : Nat → Int} (h : ScOk sc) (b : Nat → Bool) (m : Int) : ∃ ec sc', ScOk sc' ∧ sentF (mkL 7 W0 sc b) ((i : Int) + 1) m = (ec, mkL 7 W0 sc' b) := by
  rw [mkL_sent m hi]
  by_cases c : m < 0 ∨ 1000000 < m
  · rw [if_pos c]; exact ⟨1, sc, h, rfl⟩
  · rw [if_neg c]
    refine ⟨0, _, ?_, rfl⟩
    have h1 := h i
    have h2 := sent_room (n := m) (wt := W0 i) (by omega) (by omega) (by unfold W0; omega)
    exact sc_upd h i (by omega) (by omega)
/-- What stands in the row of wishes. -/
def Wish (w : World) (xb : Nat) (b : Nat → Bool) : Prop := w.cell? ⟨xb, 0, none⟩ = some (.bool false) ∧ ∀ i, i < 7 → w.cell? ⟨xb, i + 1, none⟩ = some (.bool (b i)) ∧ w.frozen? ⟨xb, i + 1, none⟩ = false
theorem Wish.kx {X : Nat → Prop} {w w' : World} {xb : Nat} {b : Nat → Bool} (h : Wish w xb b) (k : KX X w w') (hx : X xb) : Wish w' xb b :=
  ⟨k.cell hx h.1, fun i hi => ⟨k.cell hx (h.2 i hi).1, k.frozen hx (h.2 i hi).2⟩⟩
theorem Wish.set {w : World} {xb : Nat} {b : Nat → Bool} (h : Wish w xb b) {i : Nat} (hi : i < 7) (v : Bool) : Wish (w.setCell ⟨xb, i + 1, none⟩ (.bool v)) xb (upd b i v) := by
  refine ⟨by rw [World.cell?_setCell_other _ _ _ _ (by simp)]; exact h.1, fun j hj => ⟨?_, by rw [World.frozen?_setCell]; exact (h.2 j hj).2⟩⟩
  by_cases e : j = i
  · subst e
    rw [upd_same]
    exact World.cell?_setCell_same _ _ _ (h.2 j hj).1
  · rw [upd_other _ _ _ _ e, World.cell?_setCell_other _ _ _ _ (by simp)]
    exact (h.2 j hj).1
def anyB (b : Nat → Bool) : Nat → Bool
  | 0 => false
  | n + 1 => anyB b n || b n
theorem anyB_false {b : Nat → Bool} {n : Nat} (h : ∀ i, i < n → b i = false) : anyB b n = false := by
  induction n with
  | zero => rfl
  | succ n ih => unfold anyB; rw [ih (fun i hi => h i (by omega)), h n (by omega)]; rfl
theorem anyB_true {b : Nat → Bool} {n i : Nat} (hi : i < n) (h : b i = true) : anyB b n = true := by
  induction n with
  | zero => omega
  | succ n ih =>
    unfold anyB
    by_cases e : i = n
    · subst e; rw [h]; simp
    · rw [ih (by omega)]; rfl
set_option maxHeartbeats 8000000 in
theorem pwants_ok {D : PkD} (K : PkKeeps D) (hNew : PNewSaid D) (hAdd : PAddSaid D) (hWant : PWantSaid D) (hSent : PSentSaid D) (hNext : PNextSaid D)
    (a : Option Addr) (len cap : Nat) (RA : Nat → Option Addr) (RL RC : Nat → Nat) (RZ : Nat → List Int) (w : World) (hI : JArg w a len cap RA RL RC RZ) :
    Calls Try.prog 6 #[.slice a len cap] w fun e w' => e = .returned (.bool true) ∧ Below w.heap.size w w' := by
  have HI : Vl (∀ wx, Below w.heap.size w wx → JArg wx a len cap RA RL RC RZ) := fun wx hb => hI.below hb
  have HN := vl (hNew w)
  have HA := vl hAdd
  have HW := vl hWant
  have HS := vl hSent
  have HX := vl hNext
  have HK := vl K
  clear hI hNew hAdd hWant hSent hNext K
  go_enter Try.func6, Try.ntmps6
  go_wp2_with fail
  refine HN.out.mono ?_
  rintro e w1 ⟨pb, S, rfl, hb1, hD, hS⟩
  have S0 : Solo D w (fun _ => False) w1 pb [] := ⟨S, hD, fun k hk => ⟨hS k hk, id⟩, fun k hk => hk.elim, hb1⟩
  have A0 := vl (solo_next HK.out S0 HX.out pkI_nil (id := 0) (ok := false) rfl)
  unfold kptr at A0 ⊢
  clear hb1 hD hS HN S0
  go_wp2_with fail
  refine A0.out.mono ?_
  rintro e w2 ⟨rfl, hs2, _⟩
  have HS2 := vl hs2
  clear hs2 A0
  have HX0 : Vl (∃ xb, xb = w2.heap.size ∧ Solo D w (fun k => k = xb) (w2.alloc (.cells #[.bool false, .bool false, .bool false, .bool false, .bool false, .bool false, .bool false, .bool false] 41)) pb (mkL 0 W0 Z0 B0) ∧ Wish (w2.alloc (.cells #[.bool false, .bool false, .bool false, .bool false, .bool false, .bool false, .bool false, .bool false] 41)) xb B0) := by
    have hx : (w2.alloc (.cells #[.bool false, .bool false, .bool false, .bool false, .bool false, .bool false, .bool false, .bool false] 41)).heap[w2.heap.size]? = some (.cells #[.bool false, .bool false, .bool false, .bool false, .bool false, .bool false, .bool false, .bool false] 41 (0, 0)) := heap_alloc_new w2 _
    have hba : Below w2.heap.size w2 (w2.alloc (.cells #[.bool false, .bool false, .bool false, .bool false, .bool false, .bool false, .bool false, .bool false] 41)) := (Below.refl _ _).alloc (Nat.le_refl _) _
    have c0 : (w2.alloc (.cells #[.bool false, .bool false, .bool false, .bool false, .bool false, .bool false, .bool false, .bool false] 41)).cell? ⟨w2.heap.size, 0, none⟩ = some (.bool false) := by simp only [World.cell?, hx]; rfl
    refine ⟨_, rfl, (HS2.out.guard HK.out hba (Nat.le_refl _) (lt_of_cell c0)).less (fun k hk => Or.inr hk), c0, fun i hi => ?_⟩
    obtain rfl | rfl | rfl | rfl | rfl | rfl | rfl : i = 0 ∨ i = 1 ∨ i = 2 ∨ i = 3 ∨ i = 4 ∨ i = 5 ∨ i = 6 := by omega
    all_goals exact ⟨by simp only [World.cell?, hx]; rfl, by simp only [World.frozen?, hx]; rfl⟩
  clear HS2
  go_wp2_with fail
  go_loopw [7, 8] (fun i _ wr => ∃ n : Nat, i = .int .i64 ((n : Int) + 1) ∧ n ≤ 7 ∧ Vl (Solo D w (fun k => k = w2.heap.size) wr pb (mkL n W0 Z0 B0)) ∧ Vl (Wish wr w2.heap.size B0)) (fun i _ _ => 9 - (intOf i).toNat)
  case atStart =>
    obtain ⟨xb, rfl, h1, h2⟩ := HX0.out
    exact ⟨0, rfl, by omega, h1, h2⟩
  case round =>
    obtain ⟨n, rfl, hn, HSo, HWi⟩ := hrel
    clear HX0
    generalize w2.heap.size = xb at *
    by_cases h1 : n < 7
    · have p1 : (n : Int) + 1 < 8 := by omega
      have A1 := vl (solo_add HSo.out HA.out (w0_inv hn z0_ok B0) ((n : Int) + 1) (10 * ((n : Int) + 1)) (by unfold I64; omega) (by unfold I64; omega) (w0_add h1))
      unfold kptr errW at A1
      simp only [if_true] at A1
      have e10 : 10 * ((n : Int) + 1) ≤ 70 := by omega
      have e11 : 0 ≤ 10 * ((n : Int) + 1) := by omega
      go_wp2_with fail
      refine A1.out.mono ?_
      rintro e w3 ⟨rfl, hs3, k3⟩
      have HSo3 := vl hs3
      have HWi3 := vl (HWi.out.kx k3 rfl)
      clear hs3 k3 A1
      go_wp2
      go_roundw
      case rel => exact ⟨n + 1, by go_num, by omega, HSo3.out, HWi3.out⟩
      case measure => simp [intOf]; omega
    have p1 : ¬ ((n : Int) + 1 < 8) := by omega
    obtain rfl : n = 7 := by omega
    go_wp2_with fail
    go_loopw [9, 12, 13, 14, 15, 16] (fun i _ _ _ _ _ wr => ∃ (k : Nat) (sc : Nat → Int) (b : Nat → Bool), i = .int .i64 k ∧ k ≤ 80 ∧ Vl (ScOk sc) ∧ Vl (Solo D w (fun k => k = xb) wr pb (mkL 7 W0 sc b)) ∧ Vl (Wish wr xb b)) (fun i _ _ _ _ _ _ => 80 - (intOf i).toNat)
    case atStart => exact ⟨0, Z0, B0, rfl, by omega, z0_ok, HSo.out, HWi.out⟩
    case round =>
      obtain ⟨k, sc, b, rfl, hk, HSc, HP, HWs⟩ := hrel
      clear HSo HWi hn h1 p1
      by_cases h1 : k < len
      case neg =>
        have p1 : ¬ ((k : Int) < (len : Int)) := by omega
        clear h1
        go_wp2
        go_ret
        exact ⟨rfl, HP.out.old⟩
      have p1 : (k : Int) < (len : Int) := by omega
      by_cases h2 : k < 80
      case neg =>
        have p2 : ¬ ((k : Int) < 80) := by omega
        clear h1 h2
        go_wp2
        go_ret
        exact ⟨rfl, HP.out.old⟩
      have p2 : (k : Int) < 80 := by omega
      rcases HI.out wr HP.out.old with hx | ⟨g, off, rfl, hr⟩
      · omega
      obtain ⟨r1, r2, r3⟩ := hr.hrow k h1
      have HRC := vl (hr.hcell k h1)
      have hcap2 := hr.hcap
      have hmax2 := hr.hmax
      unfold maxLen at hmax2 r3
      clear hr
      generalize RA k = ra at *
      generalize RL k = rl at *
      generalize RC k = rc at *
      generalize RZ k = rz at *
      have hg1 : g < wr.heap.size := lt_of_cell r1
      go_upto_block 4 with fail
      go_cut [11] (fun _ wx => ∃ x y z : Int, I64 x ∧ I64 y ∧ I64 z ∧ wx = wr.alloc (.cells #[.int .i64 x, .int .i64 y, .int .i64 z] 42))
      case first =>
        as_aux_lemma =>
          go_wp2_with fail
          go_loopw [11] (fun i wq => ∃ (j : Nat) (x y z : Int), i = .int .i64 j ∧ j ≤ 3 ∧ Vl (I64 x ∧ I64 y ∧ I64 z) ∧ wq = wr.alloc (.cells #[.int .i64 x, .int .i64 y, .int .i64 z] 42)) (fun i _ => 3 - (intOf i).toNat)
          case atStart => exact ⟨0, 0, 0, 0, rfl, by omega, by unfold I64; exact ⟨by decide, by decide, by decide⟩, rfl⟩
          case round =>
            obtain ⟨j, x, y, z, rfl, hj, HXY, rfl⟩ := hrel
            by_cases hjl : j < rl ∧ j < 3
            · obtain ⟨hj1, hj2⟩ := hjl
              obtain ⟨g', off', rfl, rz1, rzw⟩ := HRC.out j hj1
              have hg2 : g' < wr.heap.size := lt_of_cell rz1
              have e1 : (j : Int) < (rl : Int) := by omega
              have e2 : (j : Int) < 3 := by omega
              generalize rz.getD j 0 = q at *
              have HQ : Vl (I64 q) := by
                simp [Lit.wf, IntKind.min, IntKind.max, IntKind.bits, IntKind.signed] at rzw
                exact ⟨by omega, by omega⟩
              clear rzw
              obtain rfl | rfl | rfl : j = 0 ∨ j = 1 ∨ j = 2 := by omega
              · rw [Nat.add_zero] at rz1
                go_wp2
                go_roundw
                case rel => exact ⟨1, q, y, z, rfl, by omega, ⟨HQ.out, HXY.out.2⟩, rfl⟩
                case measure => simp [intOf]
              · go_wp2
                go_roundw
                case rel => exact ⟨2, x, q, z, rfl, by omega, ⟨HXY.out.1, HQ.out, HXY.out.2.2⟩, rfl⟩
                case measure => simp [intOf]
              · go_wp2
                go_roundw
                case rel => exact ⟨3, x, y, q, rfl, by omega, ⟨HXY.out.1, HXY.out.2.1, HQ.out⟩, rfl⟩
                case measure => simp [intOf]
            · have hcase : (rl : Int) ≤ (j : Int) ∨ ((j : Int) < (rl : Int) ∧ 3 ≤ (j : Int)) := by omega
              clear hjl
              rcases hcase with e1 | ⟨e1, e2⟩
              all_goals
                go_wp2_with fail
                go_meet
                exact ⟨x, y, z, HXY.out.1, HXY.out.2.1, HXY.out.2.2, rfl⟩
      case rest =>
      obtain ⟨x, y, z, ix, iy, iz, hwc⟩ := hcut
      have hbc : Below wr.heap.size wr wc := by rw [hwc]; exact (Below.refl _ _).alloc (Nat.le_refl _) _
      have hxv : wc.heap[wr.heap.size]? = some (.cells #[.int .i64 x, .int .i64 y, .int .i64 z] 42 (0, 0)) := by rw [hwc]; exact heap_alloc_new _ _
      have v0 : wc.cell? ⟨wr.heap.size, 0, none⟩ = some (.int .i64 x) := by simp only [World.cell?, hxv]; rfl
      have v1 : wc.cell? ⟨wr.heap.size, 1, none⟩ = some (.int .i64 y) := by simp only [World.cell?, hxv]; rfl
      have v2 : wc.cell? ⟨wr.heap.size, 2, none⟩ = some (.int .i64 z) := by simp only [World.cell?, hxv]; rfl
      have PC := vl (HP.out.guard HK.out hbc (Nat.le_refl _) (lt_of_cell v0))
      have hxb : xb < wr.heap.size := lt_of_cell HWs.out.1
      have WC : Vl (Wish wc xb b) := HWs.out.kx (X := fun k => k = xb) (fun k hk => hbc.block k (by rw [hk]; exact hxb)) rfl
      have IYZ := vl (And.intro iy iz)
      have hvx : xb ≠ wr.heap.size := by omega
      clear hwc hbc hxv HRC r1 r2 r3 hcap2 hmax2 hg1 HP ix iy iz HWs hxb
      generalize wr.heap.size = vb at *
      by_cases q1 : y < 1
      · go_wp2
        go_roundw
        case rel => exact ⟨k + 1, sc, b, by go_num, by omega, HSc.out, PC.out.less (fun k hk => Or.inl hk), WC.out⟩
        case measure => simp [intOf]; omega
      by_cases q2 : 7 < y
      · go_wp2
        go_roundw
        case rel => exact ⟨k + 1, sc, b, by go_num, by omega, HSc.out, PC.out.less (fun k hk => Or.inl hk), WC.out⟩
        case measure => simp [intOf]; omega
      obtain ⟨i, rfl⟩ : ∃ i : Nat, y = (i : Int) + 1 := ⟨(y - 1).toNat, by omega⟩
      have hi7 : i < 7 := by omega
      go_upto_if 77 with fail
      go_cut [12] (fun _ wx => ∃ (sc' : Nat → Int) (b' : Nat → Bool), Vl (ScOk sc') ∧ Vl (Solo D w (fun k => k = xb ∨ k = vb) wx pb (mkL 7 W0 sc' b')) ∧ Vl (Wish wx xb b'))
      case first =>
        as_aux_lemma =>
          by_cases q3 : x < 3
          · obtain ⟨sc', hsc', hF⟩ := w0_want hi7 HSc.out b (decide (0 < z))
            have A1 := vl (solo_want PC.out HW.out (w0_inv (Nat.le_refl 7) HSc.out b) ((i : Int) + 1) (decide (0 < z)) IYZ.out.1 hF)
            unfold kptr errW at A1
            simp only [if_true] at A1
            have HSC' := vl hsc'
            clear hsc' hF
            go_wp2_with fail
            refine A1.out.mono ?_
            rintro e w3 ⟨rfl, hs3, k3⟩
            have u1 := k3.cell (Or.inr rfl) v1
            have u2 := k3.cell (Or.inr rfl) v2
            have W3 := vl (WC.out.kx k3 (Or.inl rfl))
            have S4 := vl (hs3.set HK.out (a := ⟨xb, i + 1, none⟩) (Or.inl rfl) (.bool (decide (0 < z))))
            have W4 := vl (W3.out.set hi7 (decide (0 < z)))
            obtain ⟨x1, x2⟩ := W3.out.2 i hi7
            have hi8 : (i : Int) + 1 < 8 := by omega
            have hi9 : (0 : Int) ≤ (i : Int) + 1 := by omega
            clear hs3 k3 A1 W3 v0 v1 v2
            go_wp2_with fail
            go_meet
            exact ⟨sc', _, HSC'.out, S4.out, W4.out⟩
          · obtain ⟨ec, sc', hsc', hF⟩ := w0_sent hi7 HSc.out b z
            have A1 := vl (solo_sent PC.out HS.out (w0_inv (Nat.le_refl 7) HSc.out b) ((i : Int) + 1) z IYZ.out.1 IYZ.out.2 hF)
            unfold kptr at A1
            have HSC' := vl hsc'
            clear hsc' hF
            go_wp2_with fail
            refine A1.out.mono ?_
            rintro e w3 ⟨rfl, hs3, k3⟩
            have S4 := vl hs3
            have W4 := vl (WC.out.kx k3 (Or.inl rfl))
            clear hs3 k3 A1 v0 v1 v2
            generalize errW ec = ev at *
            go_wp2_with fail
            go_meet
            exact ⟨sc', b, HSC'.out, S4.out, W4.out⟩
      case rest =>
      obtain ⟨sc', b', HSC', S4, W4⟩ := hcut
      clear v0 v1 v2 PC WC IYZ HSc
      go_wp2_with fail
      go_loopw [13, 14] (fun an i wq => ∃ n : Nat, i = .int .i64 ((n : Int) + 1) ∧ n ≤ 7 ∧ an = .bool (anyB b' n) ∧ wq = wc) (fun _ i _ => 9 - (intOf i).toNat)
      case atStart => exact ⟨0, rfl, by omega, rfl, rfl⟩
      case round =>
        obtain ⟨n, rfl, hn, rfl, rfl⟩ := hrel
        by_cases hn7 : n < 7
        · have n1 : (n : Int) + 1 < 8 := by omega
          have n2 : (0 : Int) ≤ (n : Int) + 1 := by omega
          obtain ⟨y1, _⟩ := W4.out.2 n hn7
          have HAn : Vl (anyB b' (n + 1) = (anyB b' n || b' n)) := by show _ = _; rfl
          generalize b' n = bn at *
          generalize anyB b' n = an at *
          cases an with
          | true =>
            go_wp2
            go_roundw
            case rel => exact ⟨n + 1, by go_num, by omega, by rw [HAn.out]; rfl, trivial⟩
            case measure => simp [intOf]; omega
          | false =>
            go_wp2
            go_roundw
            case rel => exact ⟨n + 1, by go_num, by omega, by rw [HAn.out]; simp, trivial⟩
            case measure => simp [intOf]; omega
        · obtain rfl : n = 7 := by omega
          have n1 : ¬ ((7 : Nat) : Int) + 1 < 8 := by omega
          rcases mkL_next (n := 7) (W := W0) (sc := sc') (b := b') with ⟨hF, hno⟩ | ⟨j, hj, hF, hb, _⟩
          · have A1 := vl (solo_next HK.out S4.out HX.out (w0_inv (Nat.le_refl 7) HSC'.out b') hF)
            unfold kptr at A1
            rw [anyB_false hno]
            clear hF hno
            go_wp2_with fail
            refine A1.out.mono ?_
            rintro e w5 ⟨rfl, hs5, k5⟩
            have S5 := vl (hs5.less (Y := fun k => k = xb) (fun k hk => Or.inl hk))
            have W5 := vl (W4.out.kx k5 (Or.inl rfl))
            clear hs5 k5 A1
            go_wp2
            go_roundw
            case rel => exact ⟨k + 1, sc', b', by go_num, by omega, HSC'.out, S5.out, W5.out⟩
            case measure => simp [intOf]; omega
          · have A1 := vl (solo_next HK.out S4.out HX.out (w0_inv (Nat.le_refl 7) HSC'.out b') hF)
            unfold kptr at A1
            rw [anyB_true hj hb]
            clear hF
            go_wp2_with fail
            refine A1.out.mono ?_
            rintro e w5 ⟨rfl, hs5, k5⟩
            have S5 := vl (hs5.less (Y := fun k => k = xb) (fun k hk => Or.inl hk))
            have W5 := vl (W4.out.kx k5 (Or.inl rfl))
            obtain ⟨y1, _⟩ := W5.out.2 j hj
            rw [hb] at y1
            have n3 : (j : Int) + 1 < 8 := by omega
            have n4 : (0 : Int) ≤ (j : Int) + 1 := by omega
            clear hs5 k5 A1
            go_wp2
            go_roundw
            case rel => exact ⟨k + 1, sc', b', by go_num, by omega, HSC'.out, S5.out, W5.out⟩
            case measure => simp [intOf]; omega
end Go.Proofs.Ytbhjgpbdfcppkae
