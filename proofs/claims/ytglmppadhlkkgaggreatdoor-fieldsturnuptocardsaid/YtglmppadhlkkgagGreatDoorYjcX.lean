/-
  FROM THE ONE TO THE OTHER: the developers' joinCookies. No claim by itself.
-/
import Derived.Deep.RegionWith
import Derived.Test.YtglmppadhlkkgagGreatDoorG8
namespace Go.Proofs.YtglmppadhlkkgagGreatDoor
open Go Go.RowKit Go.Maps
set_option maxRecDepth 100000
def ckB (f : ByteArray × ByteArray) : Bool := isCk (unums f.1, unums f.2)
def valsB (L : List (ByteArray × ByteArray)) : List ByteArray := (L.filter ckB).map Prod.snd
theorem vals_fds (L : List (ByteArray × ByteArray)) : (valsB L).map unums = ckVals (fdsOf L) := by
  unfold valsB ckVals fdsOf
  rw [List.filter_map, List.map_map, List.map_map]
  rfl
theorem vals_take {L : List (ByteArray × ByteArray)} {k : Nat} (h : k < L.length) : valsB (L.take (k + 1)) = valsB (L.take k) ++ if ckB (L.getD k fnone) = true then [(L.getD k fnone).2] else [] := by
  unfold valsB
  rw [List.take_add_one, List.getElem?_eq_getElem h, List.filter_append, List.getD, List.getElem?_eq_getElem h, List.map_append]
  congr 1
  simp only [Option.toList, Option.getD]
  split
  · rename_i hp; simp [hp]
  · rename_i hp; simp [hp]
theorem vals_len (L : List (ByteArray × ByteArray)) : (valsB L).length ≤ L.length := by
  unfold valsB
  rw [List.length_map]
  exact List.length_filter_le _ _
theorem vals_mem {L : List (ByteArray × ByteArray)} {M : Nat} (h : ∀ t, (L.getD t fnone).2.size ≤ M) : ∀ x ∈ valsB L, x.size ≤ M := fun x hx => by
  unfold valsB at hx
  obtain ⟨f, hf, rfl⟩ := List.mem_map.1 hx
  obtain ⟨i, hi, he⟩ := List.getElem_of_mem (List.mem_filter.1 hf).1
  have := h i
  rwa [List.getD, List.getElem?_eq_getElem hi, Option.getD_some, he] at this
theorem idx_le (p : Fd → Bool) : ∀ (l : List Fd), l.any p = true → l.findIdx p ≤ (l.filter fun f => !p f).length
  | [], h => by simp at h
  | f :: l, h => by
    rw [List.findIdx_cons]
    cases hp : p f with
    | true => simp
    | false =>
      have := idx_le p l (by simpa [hp] using h)
      simp [hp]
      omega
def JcE (base : Nat) (L : List (ByteArray × ByteArray)) (w : World) (e : Ending) (w' : World) : Prop := ∃ v JL, e = .returned v ∧ FOwn w' base v JL ∧ fdsOf JL = joinL (fdsOf L) ∧ Below w.heap.size w w'
set_option maxHeartbeats 8000000 in
theorem xjc_any (sa : Option Addr) (m sc base : Nat) (L : List (ByteArray × ByteArray)) (w : World) (hm : L.length = m) (ho : FOwn w base (.slice sa m sc) L) (hl : m ≤ 4194304) (hs : VOk L) (hbase : base ≤ w.heap.size) :
    Calls Tryz.prog 49 #[.slice sa m sc] w fun e w' => JcE base L w e w' := by
  have HO := vl ho
  have HS := vl hs
  have HA : Vl (FArg w sa m sc L) := vl (nfrow_of ho).2
  have HIX := vl (xidx_any sa m sc L _ isCk w HA.out (by omega) (fun t => (HS.out t).1) (prd_cook w))
  clear ho hs
  go_enter Tryz.func49, Tryz.ntmps49
  go_wp2_with fail
  refine HIX.out.mono ?_
  rintro e w1 ⟨⟨r, rfl, hr⟩, hb1⟩
  have HB1 := vl hb1
  have hs1 : w.heap.size ≤ w1.heap.size := hb1.size
  clear HIX hb1
  rcases hr with ⟨rfl, hany⟩ | ⟨k0, rfl, hk0, hfi, hany⟩
  · have HJ : Vl (joinL (fdsOf L) = fdsOf L) := vl (by unfold joinL; rw [if_neg (by rw [hany]; exact Bool.noConfusion)])
    have HO1 := vl (fown_below HO.out HB1.out)
    clear hany
    go_wp2_with fail
    go_ret
    exact ⟨_, L, rfl, HO1.out, HJ.out.symm, HB1.out⟩
  · have h0 : ¬ (k0 : Int) < 0 := by omega
    have HFI := vl hfi
    have HANY := vl hany
    clear hfi hany
    go_wp2_with fail
    go_loopw [15, 4] (fun i x wr => ∃ k : Nat, i = .int .i64 k ∧ k ≤ m ∧ Vl (SOwn wr w.heap.size x (valsB (L.take k))) ∧ Vl (Below w.heap.size w wr)) (fun i _ _ => m - (intOf i).toNat)
    case atStart => exact ⟨0, rfl, by omega, vl (by rw [List.take_zero]; exact sown_nil _ _), HB1⟩
    case round =>
      obtain ⟨k, rfl, hk, HV, HB⟩ := hrel
      have hszr : w.heap.size ≤ wr.heap.size := HB.out.size
      by_cases hlt : k < m
      · have hlt' : (k : Int) < (m : Int) := by omega
        rcases HA.out.below HB.out with ⟨h00, _⟩ | ⟨g, off, ea, hr2⟩
        · omega
        subst ea
        have hcap := hr2.hcap
        have hmax := hr2.hmax
        unfold maxLen at hmax
        have c1 := hr2.hname k hlt
        have c2 := hr2.hvalue k hlt
        have HT := vl (vals_take (L := L) (k := k) (by omega))
        generalize hf : L.getD k fnone = f at *
        obtain ⟨n, v⟩ := f
        clear hr2 hf
        have HB2 : Vl (Below w.heap.size w (wr.alloc (.cells #[.string n, .string v] 51))) := HB.out.alloc HB.out.size _
        have HCK := vl (xcook_any n v (wr.alloc (.cells #[.string n, .string v] 51)))
        have HE : Vl (ckB (n, v) = isCk (unums n, unums v)) := rfl
        obtain ⟨b, hb⟩ : ∃ b, isCk (unums n, unums v) = b := ⟨_, rfl⟩
        rw [hb] at HCK HE
        rw [HE.out] at HT
        clear hb HE
        go_wp2_with fail
        refine HCK.out.mono ?_
        rintro e w2 ⟨rfl, hb2⟩
        rw [World.size_alloc] at hb2
        obtain ⟨d1, d2⟩ := cell2_below hb2
        have hs2 : wr.heap.size < w2.heap.size := by have := hb2.size; simp at this; omega
        have HB3 : Vl (Below w.heap.size w w2) := HB2.out.trans (hb2.mono (by omega))
        have HV2 := vl (sown_below HV.out (((Below.refl _ wr).alloc (Nat.le_refl _) _).trans (hb2.mono (by omega))))
        have hvl : (valsB (L.take k)).length ≤ 4194304 := Nat.le_trans (vals_len _) (by rw [List.length_take]; omega)
        clear HCK hb2 HV HB HB2 c1 c2
        cases b with
        | false =>
          go_wp2_with fail
          go_roundw
          case rel => exact ⟨k + 1, by go_num, by omega, vl (by rw [HT.out]; simpa using HV2.out), HB3⟩
          case measure => simp [intOf]; omega
        | true =>
          generalize valsB (L.take k) = VS at *
          obtain ⟨va, vc, hv⟩ := sown_shape HV2.out
          subst hv
          go_wp2_with (at_builtin; refine wpList_sapp w2 rfl _ _ rfl w.heap.size (.slice va VS.length vc) VS v rfl HV2.out rfl (by omega) (by omega) ?_)
          intro v3 w3 ho3 hg3
          have hrow : ∀ k, (Value.slice va VS.length vc).ownBlock = some k → w.heap.size ≤ k := fun k hk => (HV2.out.lt k hk).1
          have HB4 := vl (below_grown (HB3.out.alloc HB3.out.size (.cells #[.string v] 9)) hg3 (by rw [World.size_alloc]; omega) hrow)
          have HV3 := vl ho3
          clear ho3 hg3 hrow HV2 HB3 d1 d2
          go_wp2_with fail
          go_roundw
          case rel => exact ⟨k + 1, by go_num, by omega, vl (by rw [HT.out]; simpa using HV3.out), HB4⟩
          case measure => simp [intOf]; omega
      · have hke : k = m := by omega
        subst hke
        have HE : Vl (L.take k = L) := List.take_of_length_le (by omega)
        rw [HE.out] at HV
        have HVF := vl (vals_fds L)
        have hvl : (valsB L).length ≤ 4194304 := Nat.le_trans (vals_len _) (by omega)
        have HVM := vl (vals_mem (fun t => (HS.out t).2))
        generalize valsB L = VS at *
        obtain ⟨va, vc, hv⟩ := sown_shape HV.out
        subst hv
        have HJN := vl (xjoin_any va vc w.heap.size VS wr HV.out hvl HVM.out)
        go_wp2_with fail
        refine HJN.out.mono ?_
        rintro e w2 ⟨J, rfl, hj, hb2⟩
        have HJ := vl hj
        have HB2 := vl (HB.out.trans (hb2.mono hszr))
        have hs2 : w.heap.size ≤ w2.heap.size := HB2.out.size
        clear hj hb2 HJN HV HB
        obtain ⟨W3, hW3⟩ : ∃ x, w2.alloc (.cells #[.string ⟨#[99, 111, 111, 107, 105, 101]⟩, .string J] 51) = x := ⟨_, rfl⟩
        have hbx : Below w2.heap.size w2 W3 := by rw [← hW3]; exact (Below.refl _ w2).alloc (Nat.le_refl _) _
        have hhx : W3.heap[w2.heap.size]? = some (.cells #[.string ⟨#[99, 111, 111, 107, 105, 101]⟩, .string J] 51 (0, 0)) := by rw [← hW3]; exact heap_alloc_new w2 _
        have hsx : w2.heap.size < W3.heap.size := (Array.getElem?_eq_some_iff.1 hhx).1
        have x0 : W3.drew.cell? ⟨w2.heap.size, 0, none⟩ = some (.string ⟨#[99, 111, 111, 107, 105, 101]⟩) := by
          have : W3.cell? ⟨w2.heap.size, 0, none⟩ = some (.string ⟨#[99, 111, 111, 107, 105, 101]⟩) := by simp only [World.cell?, hhx]; rfl
          exact this
        have x1 : W3.drew.cell? ⟨w2.heap.size, 1, none⟩ = some (.string J) := by
          have : W3.cell? ⟨w2.heap.size, 1, none⟩ = some (.string J) := by simp only [World.cell?, hhx]; rfl
          exact this
        have HBX := vl (HB2.out.trans (hbx.mono hs2))
        have HXW : Vl (∀ W', Below W3.heap.size W3 W' → Calls Tryz.prog 50 #[.slice sa k sc, .func (.func 108) #[] #[]] W' fun e w'' => ∃ vf, e = .returned vf ∧ FOwn w'' W'.heap.size vf (L.filter (kpF isCk)) ∧ Below W'.heap.size W' w'') := vl (fun W' hb => xwo_any sa k sc L _ isCk W' (HA.out.below (HBX.out.trans (hb.mono (Nat.le_trans hs2 (Nat.le_of_lt hsx))))) (by omega) (fun t => (HS.out t).1) (prd_cook W'))
        have hwd : Below W3.heap.size W3 W3.drew := (Below.refl _ W3).drew
        have HWA := vl hwd
        have HWB : Vl (Below W3.heap.size W3 (W3.drew.alloc (.cells #[.string ⟨#[99, 111, 111, 107, 105, 101]⟩, .string J] 51))) := vl (hwd.alloc (Nat.le_refl _) _)
        have hlen : (L.filter (kpF isCk)).length ≤ 4194304 := Nat.le_trans (List.length_filter_le _ _) (by omega)
        have hki : k0 ≤ (L.filter (kpF isCk)).length := by
          have h1 := idx_le isCk (fdsOf L) HANY.out
          rw [HFI.out, ← fds_filter, fds_len] at h1
          exact h1
        have HNL := vl (fds_filter L isCk)
        generalize L.filter (kpF isCk) = NL at *
        have HSP : Vl (NL.take k0 ++ NL.drop k0 = NL) := vl (List.take_append_drop _ _)
        have HTK : Vl ((NL.take k0).length = k0) := vl (by rw [List.length_take]; omega)
        have HIN1 : Vl (∀ w4 fa fc, FOwn w4 W3.heap.size (.slice fa NL.length fc) NL → W3.heap.size ≤ w4.heap.size → Calls Tryz.prog 115 #[.slice fa NL.length fc, .int .i64 (k0 : Int), .slice (some ⟨w4.heap.size, 0, none⟩) 1 1] (w4.alloc (.cells #[.string ⟨#[99, 111, 111, 107, 105, 101]⟩, .string J] 51)) fun e w' => InsE W3.heap.size (.slice fa NL.length fc) (NL.take k0 ++ (⟨#[99, 111, 111, 107, 105, 101]⟩, J) :: NL.drop k0) (w4.alloc (.cells #[.string ⟨#[99, 111, 111, 107, 105, 101]⟩, .string J] 51)) e w') := vl (fun w4 fa fc h hle => by
          have := xins_any ⟨#[99, 111, 111, 107, 105, 101]⟩ J w4.heap.size W3.heap.size NL.length fa fc (NL.take k0) (NL.drop k0) (w4.alloc (.cells #[.string ⟨#[99, 111, 111, 107, 105, 101]⟩, .string J] 51)) (by rw [HSP.out]) (by rw [HSP.out]; exact h.alloc _) (heap_alloc_new w4 _) (fun e => by have := (h.lt _ e).2; omega) (by rw [World.size_alloc]; omega) (by omega)
          rw [HTK.out] at this
          exact this)
        have HIN2 : Vl (∀ w4 fa fc, FOwn w4 (W3.heap.size + 1) (.slice fa NL.length fc) NL → Below (W3.heap.size + 1) (W3.drew.alloc (.cells #[.string ⟨#[99, 111, 111, 107, 105, 101]⟩, .string J] 51)) w4 → Calls Tryz.prog 115 #[.slice fa NL.length fc, .int .i64 (k0 : Int), .slice (some ⟨W3.heap.size, 0, none⟩) 1 1] w4 fun e w' => InsE (W3.heap.size + 1) (.slice fa NL.length fc) (NL.take k0 ++ (⟨#[99, 111, 111, 107, 105, 101]⟩, J) :: NL.drop k0) w4 e w') := vl (fun w4 fa fc h hb => by
          have hv := (hb.block W3.heap.size (by omega)).trans (heap_alloc_new W3.drew (.cells #[.string ⟨#[99, 111, 111, 107, 105, 101]⟩, .string J] 51 (0, 0)))
          have hz : W3.heap.size + 1 ≤ w4.heap.size := by have := hb.size; simpa using this
          have := xins_any ⟨#[99, 111, 111, 107, 105, 101]⟩ J W3.heap.size (W3.heap.size + 1) NL.length fa fc (NL.take k0) (NL.drop k0) w4 (by rw [HSP.out]) (by rw [HSP.out]; exact h) hv (fun e => by have := (h.lt _ e).1; omega) hz (by omega)
          rw [HTK.out] at this
          exact this)
        have x0' : (W3.drew.alloc (.cells #[.string ⟨#[99, 111, 111, 107, 105, 101]⟩, .string J] 51)).cell? ⟨w2.heap.size, 0, none⟩ = some (.string ⟨#[99, 111, 111, 107, 105, 101]⟩) := (((Below.refl W3.heap.size W3.drew).alloc (Nat.le_refl _) _).cell (p := ⟨w2.heap.size, 0, none⟩) hsx).trans x0
        have x1' : (W3.drew.alloc (.cells #[.string ⟨#[99, 111, 111, 107, 105, 101]⟩, .string J] 51)).cell? ⟨w2.heap.size, 1, none⟩ = some (.string J) := (((Below.refl W3.heap.size W3.drew).alloc (Nat.le_refl _) _).cell (p := ⟨w2.heap.size, 1, none⟩) hsx).trans x1
        have HX0 := vl x0
        have HX1 := vl x1
        have HX0' := vl x0'
        have HX1' := vl x1'
        have hsy : w.heap.size ≤ W3.heap.size := Nat.le_trans hs2 (Nat.le_of_lt hsx)
        have HJL : Vl (fdsOf (NL.take k0 ++ (⟨#[99, 111, 111, 107, 105, 101]⟩, J) :: NL.drop k0) = joinL (fdsOf L)) := vl (by
          unfold joinL
          rw [if_pos HANY.out, HFI.out, fds_app]
          show fdsOf (NL.take k0) ++ (cookieN, unums J) :: fdsOf (NL.drop k0) = _
          rw [HJ.out, HVF.out]
          have e1 : fdsOf (NL.take k0) = (noCk (fdsOf L)).take k0 := by
            unfold noCk
            rw [← HNL.out]
            simp [fdsOf]
          have e2 : fdsOf (NL.drop k0) = (noCk (fdsOf L)).drop k0 := by
            unfold noCk
            rw [← HNL.out]
            simp [fdsOf]
          rw [e1, e2])
        clear hbx hhx hwd x0' x1'
        go_wp2_with fail
        go_region_with (first | (go_at_call 50; refine (HXW.out W3.drew HWA.out).mono ?_; rintro e w4 ⟨vf, rfl, ho4, hb4⟩; obtain ⟨fa, fc, rfl⟩ := fown_shape ho4; have HO4 := vl ho4; have HB4 := vl hb4; have HW4 : Vl (Below w.heap.size w w4) := vl ((HBX.out.trans (HWA.out.mono hsy)).trans (hb4.mono hsy)); have y0 := (hb4.cell (p := ⟨w2.heap.size, 0, none⟩) hsx).trans HX0.out; have y1 := (hb4.cell (p := ⟨w2.heap.size, 1, none⟩) hsx).trans HX1.out; have hs4 : W3.heap.size ≤ w4.heap.size := hb4.size; clear ho4 hb4) | (go_at_call 50; refine (HXW.out (W3.drew.alloc (.cells #[.string ⟨#[99, 111, 111, 107, 105, 101]⟩, .string J] 51)) HWB.out).mono ?_; rintro e w4 ⟨vf, rfl, ho4, hb4⟩; obtain ⟨fa, fc, rfl⟩ := fown_shape ho4; rw [World.size_alloc] at ho4 hb4; have HO4 := vl ho4; have HB4 := vl hb4; have HW4 : Vl (Below w.heap.size w w4) := vl ((HBX.out.trans (HWB.out.mono hsy)).trans (hb4.mono (Nat.le_trans hsy (Nat.le_succ _)))); clear ho4 hb4) | (go_at_call 115; refine (HIN1.out w4 fa fc HO4.out hs4).mono ?_; rintro e w5 ⟨v5, rfl, ho5, hg5⟩; have HF5 := vl (fown_mono ho5 (Nat.le_trans hbase hsy)); have HB5 := vl (below_grown (HW4.out.alloc HW4.out.size (.cells #[.string ⟨#[99, 111, 111, 107, 105, 101]⟩, .string J] 51)) hg5 (by rw [World.size_alloc]; exact Nat.le_trans HW4.out.size (Nat.le_succ _)) (fun q hq => Nat.le_trans hsy (HO4.out.lt q hq).1)); clear ho5 hg5) | (go_at_call 115; refine (HIN2.out w4 fa fc HO4.out HB4.out).mono ?_; rintro e w5 ⟨v5, rfl, ho5, hg5⟩; have HF5 := vl (fown_mono ho5 (Nat.le_trans hbase (Nat.le_trans hsy (Nat.le_succ _)))); have HB5 := vl (below_grown HW4.out hg5 HW4.out.size (fun q hq => Nat.le_trans hsy (Nat.le_of_succ_le (HO4.out.lt q hq).1))); clear ho5 hg5))
        all_goals
          go_wp2_with fail
          go_ret
          exact ⟨_, _, rfl, HF5.out, HJL.out, HB5.out⟩
end Go.Proofs.YtglmppadhlkkgagGreatDoor
