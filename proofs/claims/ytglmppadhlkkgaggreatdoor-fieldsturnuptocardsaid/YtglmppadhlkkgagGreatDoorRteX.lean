/-
  FROM THE ONE TO THE OTHER: the document's FieldsTell. No claim by itself.
-/
import Derived.Test.YtglmppadhlkkgagGreatDoorRclX
import Derived.Test.YtglmppadhlkkgagGreatDoorYteX
import Derived.Test.YtglmppadhlkkgagGreatDoorG10
namespace Go.Proofs.YtglmppadhlkkgagGreatDoor
open Go Go.RowKit
set_option maxRecDepth 100000
theorem dec_bytes : ∀ n : Nat, Bytes (decL n) := by
  intro n
  induction n using Nat.strongRecOn with
  | _ n ih =>
    by_cases h : n < 10
    · rw [decL_one h]
      intro x hx
      rw [List.mem_singleton.1 hx]
      unfold dc
      omega
    · rw [decL_more h]
      intro x hx
      rcases List.mem_append.1 hx with hx | hx
      · exact ih (n / 10) (by omega) x hx
      · rw [List.mem_singleton.1 hx]
        unfold dc
        omega
theorem dec_str (n : Nat) : unums (strOfNums (decL n)) = decL n := unums_str (dec_bytes n)
/-- What FieldsTell answers. -/
def RTellE (q : RpM) (w : World) (e : Ending) (w' : World) : Prop := ∃ v FL, e = .returned (.tuple #[v, .int .i64 (tellW q.rp).1]) ∧ FOwn w' w.heap.size v FL ∧ fdsOf FL = (tellW q.rp).2 ∧ Below w.heap.size w w'
set_option maxHeartbeats 4000000 in
theorem rftell_any (q : RpM) (w : World) (h : RpIn w q) : Calls Tryz.prog 15 #[q.val] w (RTellE q w) := by
  have HI := vl h
  obtain ⟨W0, hW0⟩ : ∃ W0, W0 = w.alloc (.cells #[.int .i64 q.code, .slice q.fa q.fn q.fc, .slice q.ba q.bn q.bc] 27) := ⟨_, rfl⟩
  have HB0 : Vl (Below w.heap.size w W0) := vl (by rw [hW0]; exact (Below.refl _ w).alloc (Nat.le_refl _) _)
  have HS0 : Vl (W0.heap.size = w.heap.size + 1) := vl (by rw [hW0]; simp)
  have HK := vl (rtell_any q 0 W0 (HI.out.below HB0.out))
  have hcells : Vl (∀ W, Below W0.heap.size W0 W → W.cell? ⟨w.heap.size, 0, none⟩ = some (.int .i64 q.code) ∧ W.cell? ⟨w.heap.size, 1, none⟩ = some (.slice q.fa q.fn q.fc) ∧ W.cell? ⟨w.heap.size, 2, none⟩ = some (.slice q.ba q.bn q.bc)) := fun W hb => by
    rw [HS0.out] at hb
    have hk0 : W0.heap[w.heap.size]? = some (.cells #[.int .i64 q.code, .slice q.fa q.fn q.fc, .slice q.ba q.bn q.bc] 27 (0, 0)) := by rw [hW0]; exact heap_alloc_new w _
    have hk := (hb.block w.heap.size (by omega)).trans hk0
    exact ⟨by simp only [World.cell?, hk]; rfl, by simp only [World.cell?, hk]; rfl, by simp only [World.cell?, hk]; rfl⟩
  have HLW : Vl (tellW q.rp = if tellE q.rp 0 = 0 then (0, (codeP, decL q.code.toNat) :: (cleanL (fdsOf q.FL) ++ if noBody false q.code = true then [] else [(lengthN, decL q.B.length)])) else (tellE q.rp 0, [])) := rfl
  unfold RpM.val at HK ⊢
  clear h
  by_cases he : tellE q.rp 0 = 0
  case neg =>
    have HF : Vl (∀ w', Below w.heap.size w w' → RTellE q w (.returned (.tuple #[.slice none 0 0, .int .i64 (tellE q.rp 0)])) w') := fun w' hb => by
      unfold RTellE
      rw [HLW.out, if_neg he]
      exact ⟨_, [], rfl, fown_nil _ _, rfl, hb⟩
    obtain ⟨x, hx⟩ : ∃ x, tellE q.rp 0 = x := ⟨_, rfl⟩
    rw [hx] at HK HF he
    clear hx HLW hcells
    subst hW0
    go_enter Tryz.func15, Tryz.ntmps15
    go_wp2_with fail
    refine HK.out.mono ?_
    rintro e w1 ⟨rfl, hb1⟩
    have HB1 := vl (HB0.out.trans (hb1.mono HB0.out.size))
    clear hb1
    go_wp2
    go_ret2
    exact HF.out _ HB1.out
  rw [he] at HK
  obtain ⟨hf40, hb8, hc1, hc2, hfe⟩ := tell_ok' he
  have HFS := vl (flds_small hfe)
  have hfn : q.fn ≤ 40 := by
    have h1 := HI.out.fields.len
    have h2 : (fdsOf q.FL).length ≤ 40 := hf40
    rw [fds_len] at h2
    omega
  have hbn : q.bn ≤ 8000 := by
    have h1 := HI.out.body.len
    have h2 : q.B.length ≤ 8000 := hb8
    omega
  have HBL : Vl (q.B.length = q.bn) := vl HI.out.body.len
  obtain ⟨cd, hcd⟩ : ∃ cd : Nat, q.code = (cd : Int) := ⟨q.code.toNat, by have : (100 : Int) ≤ q.code := hc1; omega⟩
  have hc2' : q.code ≤ 599 := hc2
  have HFin : Vl (∀ w' v FL, FOwn w' w.heap.size v FL → fdsOf FL = (codeP, decL cd) :: (cleanL (fdsOf q.FL) ++ if noBody false (cd : Int) = true then [] else [(lengthN, decL q.bn)]) → Below w.heap.size w w' → RTellE q w (.returned (.tuple #[v, .int .i64 0])) w') := fun w' v FL h1 h2 h3 => by
    unfold RTellE
    rw [HLW.out, if_pos he]
    refine ⟨_, FL, rfl, h1, ?_, h3⟩
    rw [h2, hcd, HBL.out]
    rfl
  rw [hcd] at hc2' HK hcells hW0 ⊢
  clear hcd
  have HFI := vl HI.out.fields
  clear hf40 hb8 hc1 hc2 hfe he HLW HI HBL
  have c0a := (hcells.out W0 (Below.refl _ _))
  rw [hW0] at c0a
  obtain ⟨a0, a1, a2⟩ := c0a
  go_enter Tryz.func15, Tryz.ntmps15
  go_wp2_with fail
  rw [← hW0]
  clear a0 a1 a2
  refine HK.out.mono ?_
  rintro e w1 ⟨rfl, hb1⟩
  obtain ⟨c0, _, _⟩ := hcells.out w1 hb1
  have HX1 := vl hb1
  have HZ0 : Vl (W0.heap.size ≤ w1.heap.size) := vl hb1.size
  have HB1 : Vl (Below w.heap.size w w1) := vl (HB0.out.trans (hb1.mono HB0.out.size))
  have HT := vl (rdigits_any cd w1 (by omega))
  clear hb1 HK hW0
  go_wp2_with fail
  refine HT.out.mono ?_
  rintro e w2 ⟨rfl, rfl⟩
  have HSS := vl (dec_str cd)
  generalize strOfNums (decL cd) = s at *
  have HO2 := vl (one_ownB w1 ⟨#[58, 99, 111, 100, 101]⟩ s)
  obtain ⟨w3, hw3⟩ : ∃ x, w1.alloc (.cells #[.string ⟨#[58, 99, 111, 100, 101]⟩, .string s] 51) = x := ⟨_, rfl⟩
  have hb3 : Below w1.heap.size w1 w3 := by rw [← hw3]; exact (Below.refl _ w1).alloc (Nat.le_refl _) _
  rw [hw3] at HO2
  have HX3 : Vl (Below W0.heap.size W0 w3) := vl (HX1.out.trans (hb3.mono HX1.out.size))
  have HB3 : Vl (Below w.heap.size w w3) := vl (HB1.out.trans (hb3.mono HB1.out.size))
  have HZ1 : Vl (w.heap.size ≤ w1.heap.size) := vl HB1.out.size
  obtain ⟨_, c1, _⟩ := hcells.out w3 HX3.out
  have HC := vl (rclean_any q.fa q.fn q.fc q.FL w3 (HFI.out.below HB3.out) (by omega) (fun t => ⟨by have := (HFS.out t).1; omega, by have := (HFS.out t).2; omega⟩))
  have HL0 := vl HFI.out.len
  clear hb3 HT HX1 c0 HB1
  go_wp2_with fail
  refine HC.out.mono ?_
  rintro e w4 ⟨vc, CL, rfl, hoc, hec, hb4⟩
  have HX4 := vl (HX3.out.trans (hb4.mono HX3.out.size))
  have HB4 : Vl (Below w.heap.size w w4) := vl (HB3.out.trans (hb4.mono HB3.out.size))
  have HO4 := vl (fown_below HO2.out hb4)
  have HEC := vl hec
  have hcl : CL.length ≤ 40 := by
    have h1 : (fdsOf CL).length ≤ (fdsOf q.FL).length := by rw [hec]; exact List.length_filter_le _ _
    rw [fds_len, fds_len] at h1
    have h2 := HL0.out
    omega
  obtain ⟨ca, cc, rfl⟩ := fown_shape hoc
  have HCA := vl (nfrow_of hoc).2
  have hcn : ca = none → cc = 0 := fun e => fown_none hoc e
  have HZ4 : Vl (w1.heap.size ≤ w4.heap.size) := vl (Nat.le_trans (by rw [← hw3]; simp) hb4.size)
  clear hoc hb4 HC HO2 HX3 HB3 c1 hw3 hec
  go_wp2_with (at_builtin; refine wpList_fapps w4 rfl _ _ rfl w1.heap.size (.slice (some ⟨w1.heap.size, 0, none⟩) 1 1) [(⟨#[58, 99, 111, 100, 101]⟩, s)] CL ca CL.length cc rfl HO4.out rfl hcn HCA.out (by simp; omega) HZ4.out ?_)
  intro v5 w5 ho5 hg5
  have hrow : ∀ k, (Value.slice (some ⟨w1.heap.size, 0, none⟩) 1 1).ownBlock = some k → w1.heap.size ≤ k := fun k hk => (HO4.out.lt k hk).1
  have HX5 := vl (below_grown HX4.out hg5 HX4.out.size (fun k hk => Nat.le_trans HZ0.out (hrow k hk)))
  have HB5 := vl (below_grown HB4.out hg5 HB4.out.size (fun k hk => by have := hrow k hk; have := HZ1.out; omega))
  have HZ5 : Vl (w1.heap.size ≤ w5.heap.size) := vl (Nat.le_trans HZ4.out hg5.size)
  have HO5 : Vl (FOwn w5 w1.heap.size v5 ((⟨#[58, 99, 111, 100, 101]⟩, s) :: CL)) := vl ho5
  obtain ⟨c0, _, c2⟩ := hcells.out w5 HX5.out
  clear ho5 hg5 hrow HO4 HX4 HB4 HCA
  obtain ⟨va, vc, hv⟩ := fown_shape HO5.out
  subst hv
  have hel : ((((⟨#[58, 99, 111, 100, 101]⟩ : ByteArray), s) :: CL)).length ≤ 41 := by simp; omega
  have HE5 : Vl (fdsOf ((⟨#[58, 99, 111, 100, 101]⟩, s) :: CL) = (codeP, decL cd) :: cleanL (fdsOf q.FL)) := vl (by
    show (unums ⟨#[58, 99, 111, 100, 101]⟩, unums s) :: fdsOf CL = _
    rw [HSS.out, HEC.out]
    rfl)
  generalize (((⟨#[58, 99, 111, 100, 101]⟩ : ByteArray), s) :: CL) = EL at *
  have FIN1 : Vl (noBody false (cd : Int) = true → RTellE q w (.returned (.tuple #[.slice va EL.length vc, .int .i64 0])) w5) := fun hn => HFin.out w5 _ EL (fown_mono HO5.out HZ1.out) (by rw [HE5.out, if_pos hn, List.append_nil]) HB5.out
  by_cases n1 : (cd : Int) < 200
  · have HZ := vl (FIN1.out (by unfold noBody; simp; omega))
    go_wp2
    go_ret2
    exact HZ.out
  by_cases n2 : (cd : Int) = 204
  · have HZ := vl (FIN1.out (by unfold noBody; simp [n2]))
    obtain rfl : cd = 204 := by omega
    clear n1 n2
    go_wp2
    go_ret2
    exact HZ.out
  by_cases n3 : (cd : Int) = 304
  · have HZ := vl (FIN1.out (by unfold noBody; simp [n3]))
    obtain rfl : cd = 304 := by omega
    clear n1 n2 n3
    go_wp2
    go_ret2
    exact HZ.out
  have HNB : Vl (noBody false (cd : Int) = false) := vl (by unfold noBody; simp; omega)
  have n2' : ((cd : Int) != 204) = true := by simpa using n2
  have n3' : ((cd : Int) != 304) = true := by simpa using n3
  have HT2 := vl (rdigits_any q.bn w5 (by omega))
  have HS2 := vl (dec_str q.bn)
  go_wp2_with fail
  refine HT2.out.mono ?_
  rintro e w7 ⟨rfl, rfl⟩
  generalize strOfNums (decL q.bn) = s2 at *
  have LL : Vl (EL.length < 4398046511104) := vl (by omega)
  go_wp2_with (at_builtin; refine wpList_fapp w5 rfl _ _ rfl w1.heap.size (.slice va EL.length vc) EL ⟨#[108, 101, 110, 103, 116, 104]⟩ s2 rfl HO5.out rfl LL.out HZ5.out ?_)
  intro v8 w8 ho8 hg8
  have hrow : ∀ k, (Value.slice va EL.length vc).ownBlock = some k → w.heap.size ≤ k := fun k hk => by have h1 := (HO5.out.lt k hk).1; have h2 := HZ1.out; omega
  have HB8 := vl (below_grown (HB5.out.alloc HB5.out.size (.cells #[.string ⟨#[108, 101, 110, 103, 116, 104]⟩, .string s2] 51)) hg8 (by rw [World.size_alloc]; exact Nat.le_succ_of_le HB5.out.size) hrow)
  have HZ := vl (HFin.out w8 v8 (EL ++ [(⟨#[108, 101, 110, 103, 116, 104]⟩, s2)]) (fown_mono ho8 HZ1.out) (by
    rw [fds_app, HE5.out, HNB.out]
    show (codeP, decL cd) :: cleanL (fdsOf q.FL) ++ [(unums ⟨#[108, 101, 110, 103, 116, 104]⟩, unums s2)] = _
    rw [HS2.out]
    rfl) HB8.out)
  clear ho8 hg8 hrow
  go_wp2_with fail
  go_ret2
  exact HZ.out
end Go.Proofs.YtglmppadhlkkgagGreatDoor
