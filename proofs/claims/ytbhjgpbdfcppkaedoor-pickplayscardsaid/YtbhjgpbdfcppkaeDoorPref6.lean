/-
  A PICKER as the document's answer keeps it: Want and Drop. No claim by itself.
-/
import Derived.Test.YtbhjgpbdfcppkaeDoorPref5
namespace Go.Proofs.YtbhjgpbdfcppkaeDoor
open Go.RowKit
set_option maxRecDepth 100000
theorem set_set_pk (L : PL) (t : Nat) (x y : PkO) : (L.set t x).set t y = L.set t y := by rw [List.set_set]
theorem pnth_set (L : PL) (t : Nat) (x : PkO) (h : t < L.length) : pnth (L.set t x) t = x := by simp [pnth, List.getD, h]
/-- A score and a wish are put. -/
theorem RpP.both {w : World} {rb g cap : Nat} {a : Option Addr} {L : PL} (h : RpP w rb (.slice a L.length cap) L) (ha : a = some ⟨g, 0, none⟩) (t : Nat) (ht : t < L.length) (s : Int) (b : Bool) :
    RpP ((w.setCell ⟨g, t * 4 + 2, none⟩ (.int .i64 s)).setCell ⟨g, t * 4 + 3, none⟩ (.bool b)) rb (.slice a L.length cap) (L.set t ⟨(pnth L t).id, (pnth L t).wt, s, b⟩) ∧ Tn (Hers rb (.slice a L.length cap)) w ((w.setCell ⟨g, t * 4 + 2, none⟩ (.int .i64 s)).setCell ⟨g, t * 4 + 3, none⟩ (.bool b)) := by
  obtain ⟨h1, h2⟩ := h.score ha t ht s
  have hl : (L.set t ⟨(pnth L t).id, (pnth L t).wt, s, (pnth L t).wants⟩).length = L.length := List.length_set
  have h1' := h1
  rw [← hl] at h1'
  obtain ⟨h3, h4⟩ := h1'.want ha t (by rw [hl]; exact ht) b
  rw [hl, pnth_set L t _ ht, set_set_pk] at h3
  rw [hl] at h4
  exact ⟨h3, h2.trans h4⟩
theorem RpOut.drewN {rb : Nat} {v : Value} {w w' : World} {L : PL} (h : RpOut rb v w w' L) (n : Nat) : RpOut rb v w (w'.drewN n) L := by
  obtain ⟨v', h1, h2, h3⟩ := h
  exact ⟨v', h1.kept (fun _ _ => rfl), ⟨h2.os, h2.tape, h2.output, h2.size, h2.block⟩, h3⟩
set_option maxHeartbeats 4000000 in
theorem rpwant_any {w : World} {rb : Nat} {v : Value} {L : PL} (h : RpP w rb v L) (hI : PkI L) (id : Int) (yes : Bool) :
    Calls Tryd.prog 11 #[kptr rb, .int .i64 id, .bool yes] w fun e w' => e = .returned (.int .i64 (wantF L id yes).1) ∧ RpOut rb v w w' (wantF L id yes).2 := by
  have HP := vl h
  have HS := vl (RpOut.same h (Tn.refl _ w))
  have hl := hI.len
  have hLL : L.length ≤ 1000 := by omega
  have HA := vl (rpat_any h hLL id)
  have HL := vl (rpleast_any h hLL)
  obtain ⟨a, c, rfl, hc1, hc2, hcell⟩ := pown_shape rfl h.row
  unfold wantF
  match hf : pkFind L id with
  | none =>
    have h1 : atI L id = -1 := by unfold atI; rw [hf]; rfl
    rw [h1] at HA
    simp only [Option.isSome_none, Bool.false_eq_true, if_false]
    unfold kptr at HA ⊢
    clear hI h hcell h1 hf
    go_enter Tryd.func11, Tryd.ntmps11
    go_wp2_with fail
    refine HA.out.mono ?_
    rintro e w' ⟨rfl, rfl⟩
    go_wp2
    go_ret
    exact ⟨rfl, HS.out⟩
  | some o =>
  obtain ⟨t, h1, h2, h3, h4, _⟩ := pk_found hI.nodup hf
  rw [h1] at HA
  simp only [Option.isSome_some, if_true]
  unfold kptr at HA HL ⊢
  have hge : ¬ ((t : Int) < 0) := by omega
  have hge' : (0 : Int) ≤ (t : Int) := by omega
  have hlt : (t : Int) < (L.length : Int) := by omega
  rw [h4]
  have HH3 := vl h3
  have HLS := vl (leastSc_range hI)
  have HO := vl (hI.each o (find_some hf).1)
  obtain ⟨oi, ow, os, ob⟩ := o
  obtain ⟨q, hq⟩ : ∃ q, wantO L yes ⟨oi, ow, os, ob⟩ = q := ⟨_, rfl⟩
  rw [hq]
  have HQ := vl hq
  clear hI h hcell h1 hf h4 h3 hq HS
  go_enter Tryd.func11, Tryd.ntmps11
  go_wp2_with fail
  refine HA.out.mono ?_
  rintro e w' ⟨rfl, rfl⟩
  go_wp2_with fail
  refine HL.out.mono ?_
  rintro e w1 ⟨⟨i, rfl, hi⟩, hb⟩
  have HP1 := vl (HP.out.below hb)
  have d0 := HP1.out.c0
  have HB := vl hb
  obtain ⟨a', c', he, _, _, hcell⟩ := pown_shape rfl HP1.out.row
  obtain ⟨rfl, rfl⟩ : a = a' ∧ c = c' := by simpa using he
  obtain ⟨g, rfl, _, y0, y1, y2, y3, z2, z3⟩ := hcell t h2
  rw [HH3.out] at y0 y1 y2 y3
  dsimp only at y0 y1 y2 y3
  have HCL := vl hcell
  have HLA := vl hi.all
  have SETW := vl (HP1.out.want rfl t h2 yes)
  have SETB := vl (fun s => HP1.out.both rfl t h2 s yes)
  rw [HH3.out] at SETW SETB
  clear hb HL HA he hcell hi
  -- the score stays
  have STAY : Vl (q = ⟨oi, ow, os, yes⟩ → RpOut rb (.slice (some ⟨g, 0, none⟩) L.length c) w (w1.setCell ⟨g, t * 4 + 3, none⟩ (.bool yes)) (L.set t q)) := fun e => by
    rw [e]
    exact RpOut.from HB.out (RpOut.same SETW.out.1 SETW.out.2)
  unfold wantO at HQ
  dsimp only at HQ
  cases yes with
  | false =>
    have HX := vl (STAY.out HQ.out.symm)
    go_wp2_with fail
    go_quiet (fail)
    go_wp2
    go_ret
    exact ⟨rfl, HX.out.drewN _⟩
  | true =>
  cases ob with
  | true =>
    have HX := vl (STAY.out HQ.out.symm)
    go_wp2_with fail
    go_quiet (fail)
    go_wp2
    go_ret
    exact ⟨rfl, HX.out.drewN _⟩
  | false =>
  rcases HLA.out with ⟨rfl, hi2⟩ | ⟨j, rfl, hj, hi2⟩
  · have HX := vl (STAY.out (by rw [← HQ.out]; have := HO.out; simp [leastSc, hi2]; omega))
    clear hi2
    go_wp2_with fail
    go_quiet (fail)
    go_wp2
    go_ret
    exact ⟨rfl, HX.out.drewN _⟩
  have HSC : Vl (leastSc L = (pnth L j).sc) := by show _ = _; unfold leastSc; rw [hi2]
  obtain ⟨g', he, _, _, _, x2, _⟩ := HCL.out j hj
  obtain rfl : g = g' := by simpa using he
  have hj0 : (0 : Int) ≤ (j : Int) := by omega
  have hj1 : (j : Int) < (L.length : Int) := by omega
  have HJ : Vl (j = t → (pnth L j).sc = os) := fun e => by rw [e, HH3.out]
  clear hi2 he
  generalize (pnth L j).sc = js at *
  by_cases q1 : os < js
  · have hjt : j ≠ t := fun e => by have := HJ.out e; omega
    have HX := vl (RpOut.from HB.out (RpOut.same (SETB.out js).1 (SETB.out js).2))
    have hq2 : q = ⟨oi, ow, js, true⟩ := by rw [← HQ.out, HSC.out]; simp; omega
    have HQ2 := vl hq2
    clear hq2
    have hne : ¬ (j * 4 + 2 = t * 4 + 2) := by omega
    go_wp2_with fail
    go_quiet (fail)
    go_wp2_with fail
    go_region
    go_wp2
    go_ret
    refine ⟨rfl, ?_⟩
    rw [HQ2.out]
    exact HX.out.drewN _
  · have HX := vl (STAY.out (by rw [← HQ.out, HSC.out]; simp; omega))
    have q1' : js ≤ os := by omega
    go_wp2_with fail
    go_quiet (fail)
    go_wp2
    go_ret
    exact ⟨rfl, HX.out.drewN _⟩
end Go.Proofs.YtbhjgpbdfcppkaeDoor
