/-
  THE WALK of the law PickPlays, over whatever a picker's memory looks like. No claim by itself.
-/
import Derived.Test.YtbhjgpbdfcppkaeDoorPplays0
import Derived.Test.YtbhjgpbdfcppkaeDoorNopen2
import Derived.Deep.DeepCutAuto
import Derived.Deep.CutBlock
import Derived.Deep.RegionHeld3
namespace Go.Proofs.YtbhjgpbdfcppkaeDoor
open Go.RowKit
set_option maxRecDepth 100000
set_option maxHeartbeats 8000000 in
theorem pplays_ok {D : PkD} (K : PkKeeps D) (hNew : PNewSaid D) (hAdd : PAddSaid D) (hDrop : PDropSaid D) (hWant : PWantSaid D) (hSent : PSentSaid D) (hNext : PNextSaid D)
    (a : Option Addr) (len cap : Nat) (RA : Nat → Option Addr) (RL RC : Nat → Nat) (RZ : Nat → List Int) (w : World) (hI : JArg w a len cap RA RL RC RZ) (hg : Laid w) :
    Calls Tryd.prog 3 #[.slice a len cap] w fun e w' => e = .returned (.bool true) ∧ Below w.heap.size w w' := by
  have HI : Vl (∀ wx, Below w.heap.size w wx → JArg wx a len cap RA RL RC RZ) := fun wx hb => hI.below hb
  have HG := vl hg
  have HN := vl (hNew w)
  have HA := vl hAdd
  have HD := vl hDrop
  have HW := vl hWant
  have HS := vl hSent
  have HX := vl hNext
  have HK := vl K
  clear hI hg hNew hAdd hDrop hWant hSent hNext K
  go_enter Tryd.func3, Tryd.ntmps3
  go_wp2_with fail
  refine HN.out.mono ?_
  rintro e w1 ⟨pb, S, rfl, hb1, hD, hS⟩
  have P0 : Vl (Pair D w (fun _ => False) (w1.alloc (.cells #[.slice none 0 0] 28)) pb w1.heap.size [] []) := by
    have hx : (w1.alloc (.cells #[.slice none 0 0] 28)).heap[w1.heap.size]? = some (.cells #[.slice none 0 0] 28 (0, 0)) := heap_alloc_new w1 _
    have hba : Below w1.heap.size w1 (w1.alloc (.cells #[.slice none 0 0] 28)) := (Below.refl _ _).alloc (Nat.le_refl _) _
    have hh : ∀ k, Hers w1.heap.size (.slice none 0 0) k → k = w1.heap.size := fun k hk => by rcases hk with e | e; exact e; cases e
    refine ⟨S, .slice none 0 0, HK.out.below hD hba, ⟨by simp only [World.cell?, hx]; rfl, by simp only [World.frozen?, hx]; rfl, World.ownsRow_nil _ _ _ _⟩, fun k hk e => ?_, fun k hk => ⟨hS k hk, id⟩, fun k hk => ⟨?_, id⟩, fun k hk => hk.elim, hb1.trans (hba.mono hb1.size)⟩
    · have := HK.out.lt hD k hk
      have := hh k e
      omega
    · have := hh k hk
      have := hb1.size
      omega
  clear hb1 hD hS HN
  unfold kptr
  go_wp2_with fail
  go_loopw [5] (fun i wr => ∃ (k : Nat) (L : PL), i = .int .i64 k ∧ k ≤ 120 ∧ Vl (PkI L) ∧ Vl (Pair D w (fun _ => False) wr pb w1.heap.size L L)) (fun i _ => 120 - (intOf i).toNat)
  case atStart => exact ⟨0, [], rfl, by omega, pkI_nil, P0.out⟩
  case round =>
    obtain ⟨k, L, rfl, hk, HL, HP⟩ := hrel
    clear P0
    generalize w1.heap.size = rb at *
    by_cases h1 : k < len
    case neg =>
      have p1 : ¬ ((k : Int) < (len : Int)) := by omega
      clear h1
      go_wp2
      go_ret
      exact ⟨rfl, HP.out.old⟩
    have p1 : (k : Int) < (len : Int) := by omega
    by_cases h2 : k < 120
    case neg =>
      have p2 : ¬ ((k : Int) < 120) := by omega
      clear h1 h2
      go_wp2
      go_ret
      exact ⟨rfl, HP.out.old⟩
    have p2 : (k : Int) < 120 := by omega
    rcases HI.out wr HP.out.old with hx | ⟨g, off, rfl, hr⟩
    · omega
    obtain ⟨r1, r2, r3⟩ := hr.hrow k h1
    have HRC := vl (hr.hcell k h1)
    have hcap2 := hr.hcap
    have hmax2 := hr.hmax
    unfold maxLen at hmax2 r3
    clear hr
    generalize RA k = ra at *
    generalize RL k = rl at *
    generalize RC k = rc at *
    generalize RZ k = rz at *
    have hg1 : g < wr.heap.size := lt_of_cell r1
    go_upto_block 2 with fail
    go_cut [7] (fun _ wx => ∃ x y z : Int, I64 x ∧ I64 y ∧ I64 z ∧ wx = wr.alloc (.cells #[.int .i64 x, .int .i64 y, .int .i64 z] 29))
    case first =>
      as_aux_lemma =>
        go_wp2_with fail
        go_loopw [7] (fun i wq => ∃ (j : Nat) (x y z : Int), i = .int .i64 j ∧ j ≤ 3 ∧ Vl (I64 x ∧ I64 y ∧ I64 z) ∧ wq = wr.alloc (.cells #[.int .i64 x, .int .i64 y, .int .i64 z] 29)) (fun i _ => 3 - (intOf i).toNat)
        case atStart => exact ⟨0, 0, 0, 0, rfl, by omega, by unfold I64; exact ⟨by decide, by decide, by decide⟩, rfl⟩
        case round =>
          obtain ⟨j, x, y, z, rfl, hj, HXY, rfl⟩ := hrel
          by_cases hjl : j < rl ∧ j < 3
          · obtain ⟨hj1, hj2⟩ := hjl
            obtain ⟨g', off', rfl, rz1, rzw⟩ := HRC.out j hj1
            have hg2 : g' < wr.heap.size := lt_of_cell rz1
            have e1 : (j : Int) < (rl : Int) := by omega
            have e2 : (j : Int) < 3 := by omega
            generalize rz.getD j 0 = q at *
            have HQ : Vl (I64 q) := by
              simp [Lit.wf, IntKind.min, IntKind.max, IntKind.bits, IntKind.signed] at rzw
              exact ⟨by omega, by omega⟩
            clear rzw
            obtain rfl | rfl | rfl : j = 0 ∨ j = 1 ∨ j = 2 := by omega
            · rw [Nat.add_zero] at rz1
              go_wp2
              go_roundw
              case rel => exact ⟨1, q, y, z, rfl, by omega, ⟨HQ.out, HXY.out.2⟩, rfl⟩
              case measure => simp [intOf]
            · go_wp2
              go_roundw
              case rel => exact ⟨2, x, q, z, rfl, by omega, ⟨HXY.out.1, HQ.out, HXY.out.2.2⟩, rfl⟩
              case measure => simp [intOf]
            · go_wp2
              go_roundw
              case rel => exact ⟨3, x, y, q, rfl, by omega, ⟨HXY.out.1, HXY.out.2.1, HQ.out⟩, rfl⟩
              case measure => simp [intOf]
          · have hcase : (rl : Int) ≤ (j : Int) ∨ ((j : Int) < (rl : Int) ∧ 3 ≤ (j : Int)) := by omega
            clear hjl
            rcases hcase with e1 | ⟨e1, e2⟩
            all_goals
              go_wp2_with fail
              go_meet
              exact ⟨x, y, z, HXY.out.1, HXY.out.2.1, HXY.out.2.2, rfl⟩
    case rest =>
    obtain ⟨x, y, z, ix, iy, iz, hwc⟩ := hcut
    have hbc : Below wr.heap.size wr wc := by rw [hwc]; exact (Below.refl _ _).alloc (Nat.le_refl _) _
    have hxv : wc.heap[wr.heap.size]? = some (.cells #[.int .i64 x, .int .i64 y, .int .i64 z] 29 (0, 0)) := by rw [hwc]; exact heap_alloc_new _ _
    have v0 : wc.cell? ⟨wr.heap.size, 0, none⟩ = some (.int .i64 x) := by simp only [World.cell?, hxv]; rfl
    have v1 : wc.cell? ⟨wr.heap.size, 1, none⟩ = some (.int .i64 y) := by simp only [World.cell?, hxv]; rfl
    have v2 : wc.cell? ⟨wr.heap.size, 2, none⟩ = some (.int .i64 z) := by simp only [World.cell?, hxv]; rfl
    have PC := vl (HP.out.guard HK.out hbc (Nat.le_refl _) (lt_of_cell v0))
    have IYZ := vl (And.intro iy iz)
    clear hwc hbc hxv HRC r1 r2 r3 hcap2 hmax2 hg1 HP HI ix iy iz
    generalize wr.heap.size = vb at *
    go_upto_block 4 with fail
    go_cut [8] (fun td wx => td = .bool true ∧ ∃ L', Vl (PkI L') ∧ Vl (Pair D w (fun k => k = vb) wx pb rb L' L'))
    case first =>
      as_aux_lemma =>
        have PD : Vl (Pair D w (fun k => k = vb) wc.drew pb rb L L) := PC.out.drew HK.out
        have v1' : wc.drew.cell? ⟨vb, 1, none⟩ = some (.int .i64 y) := v1
        have v2' : wc.drew.cell? ⟨vb, 2, none⟩ = some (.int .i64 z) := v2
        by_cases x0 : x = 0
        · subst x0
          obtain ⟨ec, L1, hF⟩ : ∃ ec L1, addF L y z = (ec, L1) := ⟨_, _, rfl⟩
          have HI1 : Vl (PkI L1) := by have h := addF_inv HL.out y z; rw [hF] at h; exact h
          have A1 := vl (pair_add PD.out HA.out HL.out y z IYZ.out.1 IYZ.out.2)
          have A2 := vl (fun (wx : World) (hp : Pair D w (fun k => k = vb) wx pb rb L1 L) => pair_radd HK.out hp HL.out y z)
          have A3 := vl (fun (wx : World) (hp : Pair D w (fun k => k = vb) wx pb rb L1 L1) => pair_err HK.out hp HG.out ec)
          rw [hF] at A1 A2
          unfold kptr at A1 A2
          clear hF PC PD
          go_wp2_with fail
          go_region_held3 (fun w' => w'.cell? ⟨vb, 1, none⟩ = some (.int .i64 y) ∧ w'.cell? ⟨vb, 2, none⟩ = some (.int .i64 z))
            (first | go_keep | (with_reducible exact ⟨KX.cell kx3 rfl u1, KX.cell kx3 rfl u2⟩) | (with_reducible exact ⟨KX.cell kx2 rfl t1, KX.cell kx2 rfl t2⟩) | (with_reducible exact ⟨KX.cell kx1 rfl v1', KX.cell kx1 rfl v2'⟩))
            (first
              | (go_at_call 6; refine A1.out.mono ?_; rintro e1 w1' ⟨rfl, hp1, kx1⟩; have t1 := KX.cell kx1 rfl v1'; have t2 := KX.cell kx1 rfl v2')
              | (go_at_call 7; refine (A2.out _ hp1).mono ?_; rintro e2 w2' ⟨rfl, hp2, kx2⟩; have u1 := KX.cell kx2 rfl t1; have u2 := KX.cell kx2 rfl t2)
              | (go_at_call 5; refine (A3.out _ hp2).mono ?_; rintro e3 w3' ⟨rfl, hp3, kx3⟩))
          go_wp2_with fail
          go_meet
          exact ⟨rfl, L1, HI1.out, hp3⟩
        by_cases x1 : x = 1
        · subst x1
          obtain ⟨ec, L1, hF⟩ : ∃ ec L1, dropF L y = (ec, L1) := ⟨_, _, rfl⟩
          have HI1 : Vl (PkI L1) := by have h := dropF_inv HL.out y; rw [hF] at h; exact h
          have A1 := vl (pair_drop PD.out HD.out HL.out y IYZ.out.1)
          have A2 := vl (fun (wx : World) (hp : Pair D w (fun k => k = vb) wx pb rb L1 L) => pair_rdrop HK.out hp HL.out y)
          have A3 := vl (fun (wx : World) (hp : Pair D w (fun k => k = vb) wx pb rb L1 L1) => pair_err HK.out hp HG.out ec)
          rw [hF] at A1 A2
          unfold kptr at A1 A2
          clear hF PC PD
          go_wp2_with fail
          go_region_held3 (fun w' => w'.cell? ⟨vb, 1, none⟩ = some (.int .i64 y))
            (first | go_keep | (with_reducible exact KX.cell kx3 rfl u1) | (with_reducible exact KX.cell kx2 rfl t1) | (with_reducible exact KX.cell kx1 rfl v1'))
            (first
              | (go_at_call 8; refine A1.out.mono ?_; rintro e1 w1' ⟨rfl, hp1, kx1⟩; have t1 := KX.cell kx1 rfl v1'; have t2 := KX.cell kx1 rfl v2')
              | (go_at_call 9; refine (A2.out _ hp1).mono ?_; rintro e2 w2' ⟨rfl, hp2, kx2⟩; have u1 := KX.cell kx2 rfl t1; have u2 := KX.cell kx2 rfl t2)
              | (go_at_call 5; refine (A3.out _ hp2).mono ?_; rintro e3 w3' ⟨rfl, hp3, kx3⟩))
          go_wp2_with fail
          go_meet
          exact ⟨rfl, L1, HI1.out, hp3⟩
        by_cases x2 : x = 2
        · subst x2
          obtain ⟨ec, L1, hF⟩ : ∃ ec L1, wantF L y (decide (0 < z)) = (ec, L1) := ⟨_, _, rfl⟩
          have HI1 : Vl (PkI L1) := by have h := wantF_inv HL.out y (decide (0 < z)); rw [hF] at h; exact h
          have A1 := vl (pair_want PD.out HW.out HL.out y (decide (0 < z)) IYZ.out.1)
          have A2 := vl (fun (wx : World) (hp : Pair D w (fun k => k = vb) wx pb rb L1 L) => pair_rwant HK.out hp HL.out y (decide (0 < z)))
          have A3 := vl (fun (wx : World) (hp : Pair D w (fun k => k = vb) wx pb rb L1 L1) => pair_err HK.out hp HG.out ec)
          rw [hF] at A1 A2
          unfold kptr at A1 A2
          clear hF PC PD
          go_wp2_with fail
          go_region_held3 (fun w' => w'.cell? ⟨vb, 1, none⟩ = some (.int .i64 y) ∧ w'.cell? ⟨vb, 2, none⟩ = some (.int .i64 z))
            (first | go_keep | (with_reducible exact ⟨KX.cell kx3 rfl u1, KX.cell kx3 rfl u2⟩) | (with_reducible exact ⟨KX.cell kx2 rfl t1, KX.cell kx2 rfl t2⟩) | (with_reducible exact ⟨KX.cell kx1 rfl v1', KX.cell kx1 rfl v2'⟩))
            (first
              | (go_at_call 10; refine A1.out.mono ?_; rintro e1 w1' ⟨rfl, hp1, kx1⟩; have t1 := KX.cell kx1 rfl v1'; have t2 := KX.cell kx1 rfl v2')
              | (go_at_call 11; refine (A2.out _ hp1).mono ?_; rintro e2 w2' ⟨rfl, hp2, kx2⟩; have u1 := KX.cell kx2 rfl t1; have u2 := KX.cell kx2 rfl t2)
              | (go_at_call 5; refine (A3.out _ hp2).mono ?_; rintro e3 w3' ⟨rfl, hp3, kx3⟩))
          go_wp2_with fail
          go_meet
          exact ⟨rfl, L1, HI1.out, hp3⟩
        by_cases x3 : x = 3
        · subst x3
          obtain ⟨ec, L1, hF⟩ : ∃ ec L1, wantF L y (decide (0 < z)) = (ec, L1) := ⟨_, _, rfl⟩
          have HI1 : Vl (PkI L1) := by have h := wantF_inv HL.out y (decide (0 < z)); rw [hF] at h; exact h
          have A1 := vl (pair_want PD.out HW.out HL.out y (decide (0 < z)) IYZ.out.1)
          have A2 := vl (fun (wx : World) (hp : Pair D w (fun k => k = vb) wx pb rb L1 L) => pair_rwant HK.out hp HL.out y (decide (0 < z)))
          have A3 := vl (fun (wx : World) (hp : Pair D w (fun k => k = vb) wx pb rb L1 L1) => pair_err HK.out hp HG.out ec)
          rw [hF] at A1 A2
          unfold kptr at A1 A2
          clear hF PC PD
          go_wp2_with fail
          go_region_held3 (fun w' => w'.cell? ⟨vb, 1, none⟩ = some (.int .i64 y) ∧ w'.cell? ⟨vb, 2, none⟩ = some (.int .i64 z))
            (first | go_keep | (with_reducible exact ⟨KX.cell kx3 rfl u1, KX.cell kx3 rfl u2⟩) | (with_reducible exact ⟨KX.cell kx2 rfl t1, KX.cell kx2 rfl t2⟩) | (with_reducible exact ⟨KX.cell kx1 rfl v1', KX.cell kx1 rfl v2'⟩))
            (first
              | (go_at_call 10; refine A1.out.mono ?_; rintro e1 w1' ⟨rfl, hp1, kx1⟩; have t1 := KX.cell kx1 rfl v1'; have t2 := KX.cell kx1 rfl v2')
              | (go_at_call 11; refine (A2.out _ hp1).mono ?_; rintro e2 w2' ⟨rfl, hp2, kx2⟩; have u1 := KX.cell kx2 rfl t1; have u2 := KX.cell kx2 rfl t2)
              | (go_at_call 5; refine (A3.out _ hp2).mono ?_; rintro e3 w3' ⟨rfl, hp3, kx3⟩))
          go_wp2_with fail
          go_meet
          exact ⟨rfl, L1, HI1.out, hp3⟩
        by_cases x4 : x = 4
        · subst x4
          obtain ⟨ec, L1, hF⟩ : ∃ ec L1, wantF L y (decide (0 < z)) = (ec, L1) := ⟨_, _, rfl⟩
          have HI1 : Vl (PkI L1) := by have h := wantF_inv HL.out y (decide (0 < z)); rw [hF] at h; exact h
          have A1 := vl (pair_want PD.out HW.out HL.out y (decide (0 < z)) IYZ.out.1)
          have A2 := vl (fun (wx : World) (hp : Pair D w (fun k => k = vb) wx pb rb L1 L) => pair_rwant HK.out hp HL.out y (decide (0 < z)))
          have A3 := vl (fun (wx : World) (hp : Pair D w (fun k => k = vb) wx pb rb L1 L1) => pair_err HK.out hp HG.out ec)
          rw [hF] at A1 A2
          unfold kptr at A1 A2
          clear hF PC PD
          go_wp2_with fail
          go_region_held3 (fun w' => w'.cell? ⟨vb, 1, none⟩ = some (.int .i64 y) ∧ w'.cell? ⟨vb, 2, none⟩ = some (.int .i64 z))
            (first | go_keep | (with_reducible exact ⟨KX.cell kx3 rfl u1, KX.cell kx3 rfl u2⟩) | (with_reducible exact ⟨KX.cell kx2 rfl t1, KX.cell kx2 rfl t2⟩) | (with_reducible exact ⟨KX.cell kx1 rfl v1', KX.cell kx1 rfl v2'⟩))
            (first
              | (go_at_call 10; refine A1.out.mono ?_; rintro e1 w1' ⟨rfl, hp1, kx1⟩; have t1 := KX.cell kx1 rfl v1'; have t2 := KX.cell kx1 rfl v2')
              | (go_at_call 11; refine (A2.out _ hp1).mono ?_; rintro e2 w2' ⟨rfl, hp2, kx2⟩; have u1 := KX.cell kx2 rfl t1; have u2 := KX.cell kx2 rfl t2)
              | (go_at_call 5; refine (A3.out _ hp2).mono ?_; rintro e3 w3' ⟨rfl, hp3, kx3⟩))
          go_wp2_with fail
          go_meet
          exact ⟨rfl, L1, HI1.out, hp3⟩
        have x0' : (x == 0) = false := beq_eq_false_iff_ne.2 x0
        have x1' : (x == 1) = false := beq_eq_false_iff_ne.2 x1
        have x2' : (x == 2) = false := beq_eq_false_iff_ne.2 x2
        have x3' : (x == 3) = false := beq_eq_false_iff_ne.2 x3
        have x4' : (x == 4) = false := beq_eq_false_iff_ne.2 x4
        clear x0 x1 x2 x3 x4
        obtain ⟨ec, L1, hF⟩ : ∃ ec L1, sentF L y z = (ec, L1) := ⟨_, _, rfl⟩
        have HI1 : Vl (PkI L1) := by have h := sentF_inv HL.out y z; rw [hF] at h; exact h
        have A1 := vl (pair_sent PD.out HS.out HL.out y z IYZ.out.1 IYZ.out.2)
        have A2 := vl (fun (wx : World) (hp : Pair D w (fun k => k = vb) wx pb rb L1 L) => pair_rsent HK.out hp HL.out y z)
        have A3 := vl (fun (wx : World) (hp : Pair D w (fun k => k = vb) wx pb rb L1 L1) => pair_err HK.out hp HG.out ec)
        rw [hF] at A1 A2
        unfold kptr at A1 A2
        clear hF PC PD
        go_wp2_with fail
        go_region_held3 (fun w' => w'.cell? ⟨vb, 1, none⟩ = some (.int .i64 y) ∧ w'.cell? ⟨vb, 2, none⟩ = some (.int .i64 z))
          (first | go_keep | (with_reducible exact ⟨KX.cell kx3 rfl u1, KX.cell kx3 rfl u2⟩) | (with_reducible exact ⟨KX.cell kx2 rfl t1, KX.cell kx2 rfl t2⟩) | (with_reducible exact ⟨KX.cell kx1 rfl v1', KX.cell kx1 rfl v2'⟩))
          (first
            | (go_at_call 12; refine A1.out.mono ?_; rintro e1 w1' ⟨rfl, hp1, kx1⟩; have t1 := KX.cell kx1 rfl v1'; have t2 := KX.cell kx1 rfl v2')
            | (go_at_call 13; refine (A2.out _ hp1).mono ?_; rintro e2 w2' ⟨rfl, hp2, kx2⟩; have u1 := KX.cell kx2 rfl t1; have u2 := KX.cell kx2 rfl t2)
            | (go_at_call 5; refine (A3.out _ hp2).mono ?_; rintro e3 w3' ⟨rfl, hp3, kx3⟩))
        go_wp2_with fail
        go_meet
        exact ⟨rfl, L1, HI1.out, hp3⟩
    case rest =>
    obtain ⟨rfl, L', HL', HP'⟩ := hcut
    have A1 := vl (pair_next HK.out HP'.out HX.out HL'.out)
    have A2 := vl (fun (wx : World) (hp : Pair D w (fun k => k = vb) wx pb rb L' L') => pair_least HK.out hp HL'.out)
    unfold kptr at A1 A2
    clear PC IYZ v0 v1 v2
    unfold nextF at A1
    match hl : leastF L' with
    | none =>
      have A2' : Vl (∀ wx, Pair D w (fun k => k = vb) wx pb rb L' L' → Calls Tryd.prog 15 #[.pointer (some ⟨rb, 0, none⟩)] wx fun e w' => e = .returned (.int .i64 (-1)) ∧ Pair D w (fun k => k = vb) w' pb rb L' L') := fun wx hp => by
        refine (A2.out wx hp).mono ?_
        rintro e w' ⟨⟨i, rfl, ⟨rfl, _⟩ | ⟨j, _, _, h⟩⟩, h', _⟩
        · exact ⟨rfl, h'⟩
        · rw [hl] at h; cases h
      rw [hl] at A1
      clear hl A2
      go_wp2_with fail
      refine A1.out.mono ?_
      rintro e1 w1' ⟨rfl, hp1, _⟩
      have A3 := vl (A2'.out _ hp1)
      clear hp1
      go_wp2_with fail
      refine A3.out.mono ?_
      rintro e2 w2' ⟨rfl, hp2⟩
      have HP2 := vl hp2.free
      clear hp2
      go_wp2
      go_roundw
      case rel => exact ⟨k + 1, L', by go_num, by omega, HL'.out, HP2.out⟩
      case measure => simp [intOf]; omega
    | some q =>
      have A2' : Vl (∀ wx, Pair D w (fun k => k = vb) wx pb rb L' L' → Calls Tryd.prog 15 #[.pointer (some ⟨rb, 0, none⟩)] wx fun e w' => (∃ j : Nat, e = .returned (.int .i64 j) ∧ j < L'.length ∧ pnth L' j = q) ∧ Pair D w (fun k => k = vb) w' pb rb L' L') := fun wx hp => by
        refine (A2.out wx hp).mono ?_
        rintro e w' ⟨⟨i, rfl, ⟨_, h⟩ | ⟨j, rfl, h0, h⟩⟩, h', _⟩
        · rw [hl] at h; cases h
        · rw [hl] at h
          exact ⟨⟨j, rfl, h0, (Option.some.inj h).symm⟩, h'⟩
      rw [hl] at A1
      clear hl A2
      obtain ⟨qi, qw, qs, qb⟩ := q
      dsimp only at A1
      go_wp2_with fail
      refine A1.out.mono ?_
      rintro e1 w1' ⟨rfl, hp1, _⟩
      have A3 := vl (A2'.out _ hp1)
      clear hp1
      go_wp2_with fail
      refine A3.out.mono ?_
      rintro e2 w2' ⟨⟨j, rfl, hj, hq⟩, hp2⟩
      have HP2 := vl hp2.free
      obtain ⟨S2, rv, _, hr2, _⟩ := hp2
      have c0 := hr2.c0
      obtain ⟨ra2, rc2, rfl, hn1, hn2, hcell⟩ := pown_shape rfl hr2.row
      obtain ⟨rg, rfl, _, y0, _⟩ := hcell j hj
      rw [hq] at y0
      have hj0 : (0 : Int) ≤ (j : Int) := by omega
      have hj1 : (j : Int) < (L'.length : Int) := by omega
      clear hr2 hcell hq A1 A2' A3
      go_wp2
      go_roundw
      case rel => exact ⟨k + 1, L', by go_num, by omega, HL'.out, HP2.out⟩
      case measure => simp [intOf]; omega
end Go.Proofs.YtbhjgpbdfcppkaeDoor
