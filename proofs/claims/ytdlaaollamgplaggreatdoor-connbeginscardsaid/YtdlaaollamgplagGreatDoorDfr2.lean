/-
  CONTRACTS of the Go functions slices.Concat, of three slices of bytes, and frame.Encode. No claim by itself.
-/
import Derived.Test.YtdlaaollamgplagGreatDoorDfr1
namespace Go.Proofs.YtdlaaollamgplagGreatDoor
open Go.RowKit
set_option maxRecDepth 100000
/-- The next part is appended to a row of one's own. -/
theorem row_append {w : World} {base n : Nat} {v : Value} {X : List Int} (h : w.ownsRow base 5 1 v n (X.map (Value.int .u8))) : X.length = n := by
  have := h.1
  simpa using this
set_option maxHeartbeats 8000000 in
theorem concat3 (vb g1 n1 c1 g2 n2 c2 : Nat) (a : Option Addr) (len cap : Nat) (P Q Z : List Int) (w : World) (hvb : w.heap[vb]? = some (.cells #[.slice (some ⟨g1, 0, none⟩) n1 c1, .slice (some ⟨g2, 0, none⟩) n2 c2, .slice a len cap] 23 (0, 0)))
    (hr1 : Row w g1 0 n1 c1 P) (hr2 : Row w g2 0 n2 c2 Q) (hA : Arg w a len cap Z) (hZ : Z.length = len) (h0 : 0 < n1) (hb1 : n1 ≤ 100) (hb2 : n2 ≤ 100) (hb3 : len ≤ 1024) :
    Calls Tryz.prog 68 #[.slice (some ⟨vb, 0, none⟩) 3 3] w fun e w' => ∃ v, e = .returned v ∧ w'.ownsRow w.heap.size 5 1 v (P ++ (Q ++ Z)).length ((P ++ (Q ++ Z)).map (Value.int .u8)) ∧ Below w.heap.size w w' := by
  obtain ⟨i0, hi, hz0, hz1, hz2⟩ := info_parts info5
  have hvl : vb < w.heap.size := (Array.getElem?_eq_some_iff.1 hvb).1
  have HX : Hid (∀ wx i u, Below w.heap.size w wx → (#[Value.slice (some ⟨g1, 0, none⟩) n1 c1, .slice (some ⟨g2, 0, none⟩) n2 c2, .slice a len cap] : Array Value)[i]? = some u → wx.cell? ⟨vb, i, none⟩ = some u) := fun wx i u hb hu => by
    rw [hb.cell (p := ⟨vb, i, none⟩) hvl, cell_of_row w vb i _ _ _ hvb]; exact hu
  have k0 := HX.out w 0 _ (Below.refl _ _) rfl
  have k1 := HX.out w 1 _ (Below.refl _ _) rfl
  have k2 := HX.out w 2 _ (Below.refl _ _) rfl
  have H1 := hide hr1
  have H2 := hide hr2
  have HA := hide hA
  have HZ := hide hZ
  have hc1 := hr1.hcap
  have hc2 := hr2.hcap
  have e1 := hr1.hlen
  have e2 := hr2.hlen
  have GR := hide (grow_nil (n1 + n2 + len) w (by omega) (by omega))
  have p1 : ¬ ((n1 : Int) < 0) := by omega
  have p2 : ¬ ((n1 : Int) + (n2 : Int) < 0) := by omega
  have p3 : ¬ ((n1 : Int) + (n2 : Int) + (len : Int) < 0) := by omega
  clear hvb hr1 hr2 hA hZ
  go_enter Tryz.func68, Tryz.ntmps68
  go_wp2
  refine wp_loop_rounds 4 ?_
  rw [rounds_succ]
  go_wp2
  rw [rounds_succ]
  go_wp2
  rw [rounds_succ]
  go_wp2
  rw [rounds_succ]
  go_wp2_with fail
  rw [show (n1 : Int) + (n2 : Int) + (len : Int) = ((n1 + n2 + len : Nat) : Int) by omega]
  refine GR.out.mono ?_
  rintro e w1 ⟨g, gc, rfl, hgc, ho1, hB1⟩
  have s1 := hB1.size
  have j0 := HX.out w1 0 _ hB1 rfl
  have O1 := hide ho1
  have B1 := hide hB1
  have R1 := hide (H1.out.below hB1)
  clear ho1 hB1 k0 k1 k2 GR
  go_wp2
  refine wp_loop_rounds 4 ?_
  rw [rounds_succ]
  go_wp2_with (at_builtin; refine wpList_append_own _ rfl _ _ 23 rfl w.heap.size 5 i0 (.int .u8 0) 1 1 Tryz.underlying23 hi hz0 hz1 hz2 rfl (by decide) _ _ _ rfl O1.out ⟨g1, 0, none⟩ n1 c1 (P.map (Value.int .u8)) rfl (by simp [e1]) (fr_news R1.out) (fr_one P) ?c3 ?c4 ?c5 ?_)
  case c3 => unfold maxLen; omega
  case c4 => omega
  case c5 => omega
  intro v2 w2 hown2 hgrow2 _
  have B2 := hide (B1.out.grown hgrow2 (by omega) (fun k hk => (O1.out.lt k hk).1))
  have O2 := hide hown2
  have s2 := B2.out.size
  have j1 := HX.out w2 1 _ B2.out rfl
  have R2 := hide (H2.out.below B2.out)
  clear hown2 hgrow2 j0
  go_wp2
  rw [rounds_succ]
  go_wp2_with (at_builtin; refine wpList_append_own _ rfl _ _ 23 rfl w.heap.size 5 i0 (.int .u8 0) 1 1 Tryz.underlying23 hi hz0 hz1 hz2 rfl (by decide) _ _ _ rfl O2.out ⟨g2, 0, none⟩ n2 c2 (Q.map (Value.int .u8)) rfl (by simp [e2]) (fr_news R2.out) (fr_one Q) ?c3 ?c4 ?c5 ?_)
  case c3 => unfold maxLen; omega
  case c4 => omega
  case c5 => omega
  intro v3 w3 hown3 hgrow3 _
  have B3 := hide (B2.out.grown hgrow3 (by omega) (fun k hk => (O2.out.lt k hk).1))
  have O3 := hide hown3
  have s3 := B3.out.size
  have j2 := HX.out w3 2 _ B3.out rfl
  have A3 := HA.out.below B3.out
  clear hown3 hgrow3 j1
  go_wp2
  rw [rounds_succ]
  have E1 : Hid ((P ++ (Q ++ Z)).length = n1 + n2 + len) := by show (P ++ (Q ++ Z)).length = _; simp [e1, e2, HZ.out]; omega
  have E2 : Hid ((P ++ (Q ++ Z)).map (Value.int .u8) = P.map (Value.int .u8) ++ Q.map (Value.int .u8) ++ Z.map (Value.int .u8)) := by show List.map _ _ = _; simp
  rcases A3 with ⟨rfl, rfl⟩ | ⟨ga, off, rfl, hrow⟩
  · cases a with
    | none =>
      obtain ⟨g5, c5, rfl, hc5⟩ := fr_shape2 O3.out (by omega)
      go_wp2
      rw [rounds_succ]
      go_wp2
      go_ret
      refine ⟨_, rfl, ?_, B3.out⟩
      rw [E1.out, E2.out]
      simpa using O3.out
    | some ad =>
      go_wp2_with (at_builtin; refine wpList_append_own _ rfl _ _ 23 rfl w.heap.size 5 i0 (.int .u8 0) 1 1 Tryz.underlying23 hi hz0 hz1 hz2 rfl (by decide) _ _ _ rfl O3.out ad 0 cap [] rfl rfl (fun j u h => by simp at h) (fun u h => by simp at h) ?c3 ?c4 ?c5 ?_)
      case c3 => unfold maxLen; omega
      case c4 => omega
      case c5 => omega
      intro v4 w4 hown4 hgrow4 _
      have B4 := hide (B3.out.grown hgrow4 (by omega) (fun k hk => (O3.out.lt k hk).1))
      have O4 := hide hown4
      clear hown4 hgrow4
      go_wp2
      rw [rounds_succ]
      go_wp2
      go_ret
      refine ⟨_, rfl, ?_, B4.out⟩
      rw [E1.out, E2.out]
      simpa using O4.out
  · have RW := hide hrow
    have hcp := hrow.hcap
    have hzl := hrow.hlen
    clear hrow
    go_wp2_with (at_builtin; refine wpList_append_own _ rfl _ _ 23 rfl w.heap.size 5 i0 (.int .u8 0) 1 1 Tryz.underlying23 hi hz0 hz1 hz2 rfl (by decide) _ _ _ rfl O3.out ⟨ga, off, none⟩ len cap (Z.map (Value.int .u8)) rfl (by simp [hzl]) (fr_news RW.out) (fr_one Z) ?c3 ?c4 ?c5 ?_)
    case c3 => unfold maxLen; omega
    case c4 => omega
    case c5 => omega
    intro v4 w4 hown4 hgrow4 _
    have B4 := hide (B3.out.grown hgrow4 (by omega) (fun k hk => (O3.out.lt k hk).1))
    have O4 := hide hown4
    clear hown4 hgrow4
    go_wp2
    rw [rounds_succ]
    go_wp2
    go_ret
    refine ⟨_, rfl, ?_, B4.out⟩
    rw [E1.out, E2.out]
    simpa using O4.out
end Go.Proofs.YtdlaaollamgplagGreatDoor
