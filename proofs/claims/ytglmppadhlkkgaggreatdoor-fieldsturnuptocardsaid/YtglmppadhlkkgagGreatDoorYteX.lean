/-
  FROM THE ONE TO THE OTHER: the developers' Tell. No claim by itself.
-/
import Derived.Test.YtglmppadhlkkgagGreatDoorYli2X
import Derived.Test.YtglmppadhlkkgagGreatDoorG6
namespace Go.Proofs.YtglmppadhlkkgagGreatDoor
open Go Go.RowKit Go.Maps
set_option maxRecDepth 100000
theorem nhasb_any (c : Int) (w : World) : Calls Tryz.prog 56 #[.int .i64 c] w fun e w' => e = .returned (.bool (!noBody false c)) ∧ w = w' := by
  have H : Vl ((!noBody false c) = (decide (200 ≤ c) && (!decide (c = 204) && !decide (c = 304)))) := vl (by
    unfold noBody
    rw [Bool.eq_iff_iff]
    simp
    omega)
  rw [H.out]
  clear H
  by_cases h1 : 200 ≤ c
  · by_cases h2 : c = 204
    · subst h2
      go_enter Tryz.func56, Tryz.ntmps56
      go_wp2
      go_ret
      exact ⟨rfl, rfl⟩
    · by_cases h3 : c = 304
      · subst h3
        go_enter Tryz.func56, Tryz.ntmps56
        go_wp2
        go_ret
        exact ⟨rfl, rfl⟩
      · have e2 : (c != 204) = true := by simpa using h2
        have e3 : (c != 304) = true := by simpa using h3
        go_enter Tryz.func56, Tryz.ntmps56
        go_wp2
        go_ret
        exact ⟨by simp [h1, h2, h3], rfl⟩
  · go_enter Tryz.func56, Tryz.ntmps56
    go_wp2
    go_ret
    exact ⟨by simp; omega, rfl⟩
theorem tell_ok' {a : Rp} (h : tellE a 0 = 0) : a.fields.length ≤ 40 ∧ a.body.length ≤ 8000 ∧ 100 ≤ a.code ∧ a.code ≤ 599 ∧ fldsE a.fields = 0 := by
  unfold tellE at h
  split at h
  · cases h
  · rename_i h1
    split at h
    · cases h
    · rename_i h2
      exact ⟨by omega, by omega, by omega, by omega, h⟩
theorem one_ownB (w : World) (n v : ByteArray) : FOwn (w.alloc (.cells #[.string n, .string v] 51)) w.heap.size (.slice (some ⟨w.heap.size, 0, none⟩) 1 1) [(n, v)] :=
  ⟨rfl, .inr ⟨w.heap.size, 1, #[.string n, .string v], rfl, Nat.le_refl _, heap_alloc_new w _, Nat.le_refl _, by decide, rfl, by simp [fcells]⟩⟩
theorem cleanB_len (L : List (ByteArray × ByteArray)) : (cleanB L).length ≤ L.length := List.length_filter_le _ _
set_option maxHeartbeats 4000000 in
theorem xtell_any (q : RpM) (w : World) (hd : xld.P w) (h : RpIn w q) : Calls Tryz.prog 16 #[q.val] w fun e w' => ∃ v FL, e = .returned (.tuple #[v, errW (tellW q.rp).1]) ∧ FOwn w' w.heap.size v FL ∧ fdsOf FL = (tellW q.rp).2 ∧ Below w.heap.size w w' := by
  have HD := vl hd
  have HI := vl h
  have HB0 : Vl (Below w.heap.size w (w.alloc (.cells #[.int .i64 q.code, .slice q.fa q.fn q.fc, .slice q.ba q.bn q.bc] 27))) := vl ((Below.refl _ w).alloc (Nat.le_refl _) _)
  have HK := vl (ntell_any q 0 (w.alloc (.cells #[.int .i64 q.code, .slice q.fa q.fn q.fc, .slice q.ba q.bn q.bc] 27)) (HD.out.1.below HB0.out) (HI.out.below HB0.out) (by unfold I64; omega))
  have hcells : Vl (∀ W, Below (w.heap.size + 1) (w.alloc (.cells #[.int .i64 q.code, .slice q.fa q.fn q.fc, .slice q.ba q.bn q.bc] 27)) W → W.cell? ⟨w.heap.size, 0, none⟩ = some (.int .i64 q.code) ∧ W.cell? ⟨w.heap.size, 1, none⟩ = some (.slice q.fa q.fn q.fc) ∧ W.cell? ⟨w.heap.size, 2, none⟩ = some (.slice q.ba q.bn q.bc)) := fun W hb => by
    have hk := (hb.block w.heap.size (by omega)).trans (heap_alloc_new w (.cells #[.int .i64 q.code, .slice q.fa q.fn q.fc, .slice q.ba q.bn q.bc] 27 (0, 0)))
    exact ⟨by simp only [World.cell?, hk]; rfl, by simp only [World.cell?, hk]; rfl, by simp only [World.cell?, hk]; rfl⟩
  have HLW : Vl (tellW q.rp = if tellE q.rp 0 = 0 then (0, (codeP, decL q.code.toNat) :: (cleanL (fdsOf q.FL) ++ if noBody false q.code = true then [] else [(lengthN, decL q.B.length)])) else (tellE q.rp 0, [])) := rfl
  unfold RpM.val at HK ⊢
  clear h hd
  by_cases he : tellE q.rp 0 = 0
  · rw [if_pos he] at HLW
    rw [he] at HK
    obtain ⟨hf40, hb8, hc1, hc2, hfe⟩ := tell_ok' he
    have HFS := vl (flds_small hfe)
    have hfn : q.fn ≤ 40 := by
      have h1 := HI.out.fields.len
      have h2 : (fdsOf q.FL).length ≤ 40 := hf40
      rw [fds_len] at h2
      omega
    have hbn : q.bn ≤ 8000 ∧ q.B.length = q.bn := by
      have h1 := HI.out.body.len
      have h2 : q.B.length ≤ 8000 := hb8
      omega
    obtain ⟨cd, hcd⟩ : ∃ cd : Nat, q.code = (cd : Int) := ⟨q.code.toNat, by have : (100 : Int) ≤ q.code := hc1; omega⟩
    have hc2' : q.code ≤ 599 := hc2
    rw [hcd] at hc2' HK hcells HLW HB0
    obtain ⟨TW, hTW⟩ : ∃ x, (codeP, decL ((cd : Int)).toNat) :: (cleanL (fdsOf q.FL) ++ if noBody false (cd : Int) = true then [] else [(lengthN, decL q.B.length)]) = x := ⟨_, rfl⟩
    have HTW := vl hTW
    rw [hTW] at HLW
    rw [HLW.out, hcd]
    clear hTW
    clear hf40 hb8 hc1 hc2 hfe he
    go_enter Tryz.func16, Tryz.ntmps16
    go_wp2_with fail
    refine HK.out.mono ?_
    rintro e w1 ⟨v1, rfl, _, hb1⟩
    rw [World.size_alloc] at hb1
    obtain ⟨c0, _, _⟩ := hcells.out w1 hb1
    rw [errW_zero]
    have hs1 : w.heap.size + 1 ≤ w1.heap.size := by have := hb1.size; simpa using this
    have HX1 := vl hb1
    have HB1 : Vl (Below w.heap.size w w1) := HB0.out.trans (hb1.mono (by omega))
    have HT := vl (nitoa_any cd (by omega) w1 (HD.out.1.below HB1.out))
    clear hb1 HK
    go_wp2_with fail
    refine HT.out.mono ?_
    rintro e w2 ⟨s, rfl, hs, hb2⟩
    have HSS := vl hs
    have hs2 : w1.heap.size ≤ w2.heap.size := hb2.size
    have HO2 := vl (one_ownB w2 ⟨#[58, 99, 111, 100, 101]⟩ s)
    obtain ⟨w3, hw3⟩ : ∃ x, w2.alloc (.cells #[.string ⟨#[58, 99, 111, 100, 101]⟩, .string s] 51) = x := ⟨_, rfl⟩
    have hb3 : Below w2.heap.size w2 w3 := by rw [← hw3]; exact (Below.refl _ w2).alloc (Nat.le_refl _) _
    have hs3 : w2.heap.size < w3.heap.size := by rw [← hw3]; simp
    rw [hw3] at HO2
    have HX3 : Vl (Below (w.heap.size + 1) (w.alloc (.cells #[.int .i64 (cd : Int), .slice q.fa q.fn q.fc, .slice q.ba q.bn q.bc] 27)) w3) := vl ((HX1.out.trans (hb2.mono hs1)).trans (hb3.mono (by omega)))
    have HB3 : Vl (Below w.heap.size w w3) := vl ((HB1.out.trans (hb2.mono (by omega))).trans (hb3.mono (by omega)))
    obtain ⟨_, c1, _⟩ := hcells.out w3 HX3.out
    have HC := vl (xclean_any q.fa q.fn q.fc q.FL w3 (HI.out.fields.below HB3.out) (by omega) (VSm.of400 HFS.out).vok (HD.out.2.below HB3.out))
    clear hs hb2 hb3 HT HX1 c0 HB1
    go_wp2_with fail
    refine HC.out.mono ?_
    rintro e w4 ⟨vc, rfl, hoc, hb4⟩
    have hs4 : w3.heap.size ≤ w4.heap.size := hb4.size
    have HX4 := vl (HX3.out.trans (hb4.mono (by omega)))
    have HB4 : Vl (Below w.heap.size w w4) := vl (HB3.out.trans (hb4.mono (by omega)))
    have HO4 := vl (fown_below HO2.out hb4)
    have HEC := vl (fds_clean q.FL)
    have hcl : (cleanB q.FL).length ≤ 40 := by
      have h1 := cleanB_len q.FL
      have h2 := HI.out.fields.len
      omega
    generalize cleanB q.FL = CL at *
    obtain ⟨ca, cc, rfl⟩ := fown_shape hoc
    have HCA := vl (nfrow_of hoc).2
    have hcn : ca = none → cc = 0 := fun e => fown_none hoc e
    clear hoc hb4 HC HO2 HX3 HB3 c1 hw3
    go_wp2_with (at_builtin; refine wpList_fapps w4 rfl _ _ rfl w2.heap.size (.slice (some ⟨w2.heap.size, 0, none⟩) 1 1) [(⟨#[58, 99, 111, 100, 101]⟩, s)] CL ca CL.length cc rfl HO4.out rfl hcn HCA.out (by simp; omega) (by omega) ?_)
    intro v5 w5 ho5 hg5
    have hrow : ∀ k, (Value.slice (some ⟨w2.heap.size, 0, none⟩) 1 1).ownBlock = some k → w2.heap.size ≤ k := fun k hk => (HO4.out.lt k hk).1
    have HX5 := vl (below_grown HX4.out hg5 (by omega) (fun k hk => by have := hrow k hk; omega))
    have HB5 := vl (below_grown HB4.out hg5 (by omega) (fun k hk => by have := hrow k hk; omega))
    have hs5 : w4.heap.size ≤ w5.heap.size := hg5.size
    have HO5 : Vl (FOwn w5 w2.heap.size v5 ((⟨#[58, 99, 111, 100, 101]⟩, s) :: CL)) := vl ho5
    obtain ⟨c0, _, c2⟩ := hcells.out w5 HX5.out
    have HHB := vl (nhasb_any (cd : Int) w5)
    clear ho5 hg5 hrow HO4 HX4 HB4 HCA
    go_wp2_with fail
    refine HHB.out.mono ?_
    rintro e w6 ⟨rfl, rfl⟩
    clear HHB
    obtain ⟨va, vc, hv⟩ := fown_shape HO5.out
    subst hv
    have hel : ((((⟨#[58, 99, 111, 100, 101]⟩ : ByteArray), s) :: CL)).length ≤ 41 := by simp; omega
    have HE5 : Vl (fdsOf ((⟨#[58, 99, 111, 100, 101]⟩, s) :: CL) = (codeP, decL cd) :: cleanL (fdsOf q.FL)) := vl (by
      show (unums ⟨#[58, 99, 111, 100, 101]⟩, unums s) :: fdsOf CL = _
      rw [HSS.out, HEC.out]
      rfl)
    generalize (((⟨#[58, 99, 111, 100, 101]⟩ : ByteArray), s) :: CL) = EL at *
    have hct : ((cd : Int)).toNat = cd := by omega
    obtain ⟨nb, hnb⟩ : ∃ b, noBody false (cd : Int) = b := ⟨_, rfl⟩
    have HNB := vl hnb
    have HCT := vl hct
    rw [hnb]
    clear hnb hct HLW
    cases nb with
    | true =>
      have HF6 : Vl (FOwn w5 w.heap.size (.slice va EL.length vc) EL) := vl (fown_mono HO5.out (by omega))
      go_wp2_with fail
      go_returns
      exact ⟨_, _, rfl, HF6.out, by rw [HE5.out, ← HTW.out, HNB.out, HCT.out]; simp, HB5.out⟩
    | false =>
      have HT2 := vl (nitoa_any q.bn (by omega) w5 (HD.out.1.below HB5.out))
      go_wp2_with fail
      refine HT2.out.mono ?_
      rintro e w7 ⟨s2, rfl, hs2', hb7⟩
      have HS2 := vl hs2'
      have hs7 : w5.heap.size ≤ w7.heap.size := hb7.size
      have HO7 := vl (fown_below HO5.out hb7)
      have HB7 : Vl (Below w.heap.size w w7) := vl (HB5.out.trans (hb7.mono (by omega)))
      clear hs2' hb7 HT2 HO5 HB5 HX5 c0 c2
      go_wp2_with (at_builtin; refine wpList_fapp w7 rfl _ _ rfl w2.heap.size (.slice va EL.length vc) EL ⟨#[108, 101, 110, 103, 116, 104]⟩ s2 rfl HO7.out rfl (by omega) (by omega) ?_)
      intro v8 w8 ho8 hg8
      have hrow : ∀ k, (Value.slice va EL.length vc).ownBlock = some k → w.heap.size ≤ k := fun k hk => by have := (HO7.out.lt k hk).1; omega
      have HB8 := vl (below_grown (HB7.out.alloc HB7.out.size (.cells #[.string ⟨#[108, 101, 110, 103, 116, 104]⟩, .string s2] 51)) hg8 (by rw [World.size_alloc]; omega) hrow)
      have HF8 : Vl (FOwn w8 w.heap.size v8 (EL ++ [(⟨#[108, 101, 110, 103, 116, 104]⟩, s2)])) := vl (fown_mono ho8 (by omega))
      clear ho8 hg8 hrow HO7 HB7
      go_wp2_with fail
      go_returns
      exact ⟨_, _, rfl, HF8.out, by
        rw [fds_app, HE5.out]
        show (codeP, decL cd) :: cleanL (fdsOf q.FL) ++ [(unums ⟨#[108, 101, 110, 103, 116, 104]⟩, unums s2)] = _
        rw [HS2.out, ← HTW.out, HNB.out, HCT.out, hbn.2]
        rfl, HB8.out⟩
  · rw [if_neg he] at HLW
    rw [HLW.out]
    obtain ⟨x, hx⟩ : ∃ x, tellE q.rp 0 = x := ⟨_, rfl⟩
    rw [hx] at HK he ⊢
    have HEW : Vl (errW x = .iface 88 (.int .i64 x)) := vl (if_neg he)
    rw [HEW.out] at HK
    go_enter Tryz.func16, Tryz.ntmps16
    go_wp2_with fail
    refine HK.out.mono ?_
    rintro e w1 ⟨v1, rfl, _, hb1⟩
    rw [World.size_alloc] at hb1
    have HB1 : Vl (Below w.heap.size w w1) := HB0.out.trans (hb1.mono (by omega))
    clear hb1 hcells HK HB0
    go_wp2_with fail
    go_returns
    exact ⟨.slice none 0 0, [], by rw [HEW.out]; rfl, fown_nil _ _, rfl, HB1.out⟩
end Go.Proofs.YtglmppadhlkkgagGreatDoor
