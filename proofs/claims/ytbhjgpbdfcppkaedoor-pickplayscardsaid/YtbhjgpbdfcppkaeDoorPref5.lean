/-
  A PICKER as the document's answer keeps it: Sent. No claim by itself.
-/
import Derived.Test.YtbhjgpbdfcppkaeDoorPref4
import Derived.BigRegion
namespace Go.Proofs.YtbhjgpbdfcppkaeDoor
open Go.RowKit
set_option maxRecDepth 100000
theorem RpOut.drew {rb : Nat} {v : Value} {w w' : World} {L : PL} (h : RpOut rb v w w' L) : RpOut rb v w w'.drew L := by
  obtain ⟨v', h1, h2, h3⟩ := h
  exact ⟨v', h1.kept (fun _ _ => rfl), ⟨h2.os, h2.tape, h2.output, h2.size, h2.block⟩, h3⟩
set_option maxHeartbeats 4000000 in
theorem rpsent_any {w : World} {rb : Nat} {v : Value} {L : PL} (h : RpP w rb v L) (hI : PkI L) (id n : Int) :
    Calls Tryd.prog 13 #[kptr rb, .int .i64 id, .int .i64 n] w fun e w' => e = .returned (.int .i64 (sentF L id n).1) ∧ RpOut rb v w w' (sentF L id n).2 := by
  have HP := vl h
  have HS := vl (RpOut.same h (Tn.refl _ w))
  have hl := hI.len
  have hLL : L.length ≤ 1000 := by omega
  have HA := vl (rpat_any h hLL id)
  have c0 := h.c0
  obtain ⟨a, c, rfl, hc1, hc2, hcell⟩ := pown_shape rfl h.row
  unfold sentF
  match hf : pkFind L id with
  | none =>
    have h1 : atI L id = -1 := by unfold atI; rw [hf]; rfl
    rw [h1] at HA
    simp only [Option.isSome_none, Bool.false_eq_true, if_false]
    unfold kptr at HA ⊢
    clear hI h hcell h1 hf
    go_enter Tryd.func13, Tryd.ntmps13
    go_wp2_with fail
    refine HA.out.mono ?_
    rintro e w' ⟨rfl, rfl⟩
    go_wp2
    go_ret
    exact ⟨rfl, HS.out⟩
  | some o =>
  obtain ⟨t, h1, h2, h3, h4, _⟩ := pk_found hI.nodup hf
  rw [h1] at HA
  simp only [Option.isSome_some, if_true]
  unfold kptr at HA ⊢
  have hge : ¬ ((t : Int) < 0) := by omega
  have hge' : (0 : Int) ≤ (t : Int) := by omega
  have hlt : (t : Int) < (L.length : Int) := by omega
  by_cases r1 : n < 0 ∨ 1000000 < n
  · rw [if_pos r1]
    have H : n < 0 ∨ (¬ n < 0 ∧ 1000000 < n) := by omega
    clear hI h hcell h1 hf r1 h4
    rcases H with q1 | ⟨q1, q2⟩
    all_goals
      go_enter Tryd.func13, Tryd.ntmps13
      go_wp2_with fail
      refine HA.out.mono ?_
      rintro e w' ⟨rfl, rfl⟩
      go_wp2
      go_ret
      exact ⟨rfl, HS.out⟩
  rw [if_neg r1]
  have q1 : ¬ n < 0 := by omega
  have q2 : ¬ 1000000 < n := by omega
  obtain ⟨g, rfl, _, y0, y1, y2, y3, z2, z3⟩ := hcell t h2
  have hoI := hI.each o (find_some hf).1
  have hs := sent_room (n := n) (wt := o.wt) (by omega) (by omega) (by omega)
  have SET := vl (fun s => HP.out.score rfl t h2 s)
  rw [h4]
  rw [h3] at y0 y1 y2 y3 SET
  obtain ⟨oi, ow, os, ob⟩ := o
  dsimp only at y0 y1 y2 y3 SET hoI hs
  unfold sentO
  dsimp only
  have hw0 : ¬ ow = 0 := by omega
  have hdiv : (n * 65536).tdiv ow = n * 65536 / ow := Int.tdiv_eq_ediv_of_nonneg (by omega)
  obtain ⟨x, hx⟩ : ∃ x, n * 65536 / ow = x := ⟨_, rfl⟩
  rw [hx] at hs hdiv
  rw [hx]
  clear hI h hcell h1 hf r1 h4 hx h3
  obtain ⟨b1, b2, b3, b4, b5, b6⟩ := hoI
  obtain ⟨b7, b8⟩ := hs
  by_cases q3 : 4611686018427387904 - os < x
  · have e1 : min (os + x) 4611686018427387904 = 4611686018427387904 := by omega
    rw [e1]
    have e2 : os + (4611686018427387904 - os) = 4611686018427387904 := by omega
    have FIN := vl (SET.out 4611686018427387904)
    clear SET
    go_enter Tryd.func13, Tryd.ntmps13
    go_wp2_with fail
    refine HA.out.mono ?_
    rintro e w' ⟨rfl, rfl⟩
    clear HA
    go_wp2_with fail
    go_region
    go_wp2
    go_ret
    exact ⟨rfl, (RpOut.same FIN.out.1 FIN.out.2).drew⟩
  · have e1 : min (os + x) 4611686018427387904 = os + x := by omega
    rw [e1]
    have FIN := vl (SET.out (os + x))
    clear SET
    go_enter Tryd.func13, Tryd.ntmps13
    go_wp2_with fail
    refine HA.out.mono ?_
    rintro e w' ⟨rfl, rfl⟩
    clear HA
    go_wp2_with fail
    go_region
    go_wp2
    go_ret
    exact ⟨rfl, (RpOut.same FIN.out.1 FIN.out.2).drew⟩
end Go.Proofs.YtbhjgpbdfcppkaeDoor
