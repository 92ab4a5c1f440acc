/-
  FROM THE ONE TO THE OTHER: the developers' namedBy. No claim by itself.
-/
import Derived.Test.YtkaihfminlincagDoorYcl3
import Derived.WalkArith
namespace Go.Proofs.YtkaihfminlincagDoor
open Go Go.RowKit Go.Maps
set_option maxRecDepth 100000
/-- Pieces of a text in memory. -/
def Pcs (w : World) (sb : Nat) (PS : List ByteArray) : Prop := sb < w.heap.size ∧ ∀ j, j < PS.length → w.cell? ⟨sb, j, none⟩ = some (.string (PS.getD j ByteArray.empty))
theorem Pcs.below {w w' : World} {sb : Nat} {PS : List ByteArray} (h : Pcs w sb PS) (hb : Below w.heap.size w w') : Pcs w' sb PS :=
  ⟨Nat.lt_of_lt_of_le h.1 hb.size, fun j hj => (hb.cell (p := ⟨sb, j, none⟩) h.1).trans (h.2 j hj)⟩
theorem Pcs.grown {w w' : World} {sb mb : Nat} {PS : List ByteArray} (h : Pcs w sb PS) (hg : w.grownBy w' (some mb)) (hne : sb ≠ mb) : Pcs w' sb PS :=
  ⟨Nat.lt_of_lt_of_le h.1 hg.size, fun j hj => (World.cell?_of_block (a := ⟨sb, j, none⟩) (hg.block sb h.1 (fun e => hne (Option.some.inj e)))).trans (h.2 j hj)⟩
theorem Pcs.made (w : World) (PS : List ByteArray) : Pcs (w.alloc (.cells (PS.map Value.string).toArray 9)) w.heap.size PS :=
  ⟨by simp, fun j hj => pc_cell (Below.refl _ _) j hj⟩
def VOk (L : List (ByteArray × ByteArray)) : Prop := ∀ t, (L.getD t fnone).1.size ≤ 140737488351232 ∧ (L.getD t fnone).2.size ≤ 4194304
theorem VOk.named {L : List (ByteArray × ByteArray)} (h : VOk L) (hl : L.length ≤ 4194304) (k : Nat) : (namedL (fdsOf (L.take k))).length ≤ 17592190238720 := by
  have h1 := named_len (fdsOf (L.take k)) 4194304 (fun f hf => by
    unfold fdsOf at hf
    obtain ⟨x, hx, rfl⟩ := List.mem_map.1 hf
    obtain ⟨i, hi, rfl⟩ := List.getElem_of_mem (List.mem_of_mem_take hx)
    have := (h i).2
    rw [List.getD, List.getElem?_eq_getElem hi] at this
    show (unums _).length ≤ _
    rw [unums_len]
    exact this)
  have h2 : (fdsOf (L.take k)).length ≤ 4194304 := by
    unfold fdsOf
    rw [List.length_map, List.length_take]
    omega
  exact Nat.le_trans h1 (Nat.le_trans (Nat.mul_le_mul_right _ h2) (by decide))
set_option maxHeartbeats 4000000 in
theorem xnamed_row (g off len cap : Nat) (L : List (ByteArray × ByteArray)) (w : World) (hr : FRow w g off len cap L) (hl : len ≤ 4194304) (hs : VOk L) (hm : mxP w) :
    Calls Tryd.prog 6 #[.slice (some ⟨g, off, none⟩) len cap] w fun e w' => ∃ D c, e = .returned (.map (some w.heap.size)) ∧ MOwn w' w.heap.size c D ∧ Cnt D (namedL (fdsOf L)) ∧ Below w.heap.size w w' := by
  have HR := vl hr
  have HS := vl hs
  have HM := vl hm
  have HNL := vl (hs.named (by rw [hr.hlen]; exact hl))
  have hcap := hr.hcap
  have hmax := hr.hmax
  unfold maxLen at hmax
  have hLl := hr.hlen
  have hmm := @run_makeMap Tryd.prog
  clear hr hs hm
  go_enter Tryd.func6, Tryd.ntmps6
  go_wp2_with fail
  clear hmm
  go_loopw [11] (fun i wr => ∃ (k : Nat) (D : SDat), i = .int .i64 k ∧ k ≤ len ∧ Vl (MOwn wr w.heap.size (namedL (fdsOf (L.take k))).length D) ∧ Vl (Cnt D (namedL (fdsOf (L.take k)))) ∧ Vl (Below w.heap.size w wr)) (fun i _ => len - (intOf i).toNat)
  case atStart => exact ⟨0, .map [], rfl, by omega, World.ownsMap_made _ _ _ _, cnt_nil, (Below.refl _ _).alloc (Nat.le_refl _) _⟩
  case round =>
    obtain ⟨k, D, rfl, hk, HO, HC, HB⟩ := hrel
    by_cases hlt : k < len
    · have hlt' : (k : Int) < (len : Int) := by omega
      have hr2 := HR.out.below HB.out
      have c1 := hr2.hname k hlt
      have c2 := hr2.hvalue k hlt
      have HT := vl (named_take (L := L) (k := k) (by omega))
      have HN1 := HNL.out (k + 1)
      have HN0 := HNL.out k
      obtain ⟨hsn, hsv⟩ := HS.out k
      generalize hf : L.getD k fnone = f at *
      obtain ⟨n, v⟩ := f
      have hsn : n.size ≤ 140737488351232 := hsn
      have hsv : v.size ≤ 4194304 := hsv
      clear hr2 hf
      obtain ⟨nm1, hnm1⟩ : ∃ x, namedL (fdsOf (L.take (k + 1))) = x := ⟨_, rfl⟩
      have HNM := vl hnm1
      rw [hnm1] at HT HN1
      clear hnm1
      generalize namedL (fdsOf (L.take k)) = nm at *
      have hszr : w.heap.size ≤ wr.heap.size := HB.out.size
      have HB1 : Vl (Below w.heap.size w (wr.alloc (.cells #[.string n, .string v] 25))) := HB.out.alloc HB.out.size _
      have HO1 : Vl (MOwn (wr.alloc (.cells #[.string n, .string v] 25)) w.heap.size nm.length D) := HO.out.alloc _
      by_cases q : n.toList = [99, 111, 110, 110, 101, 99, 116, 105, 111, 110]
      · have q' : (n.toList == [99, 111, 110, 110, 101, 99, 116, 105, 111, 110]) = true := by simpa using q
        have HQ := vl (yL_conn.1 q)
        have HSP := vl (xsplit_any 44 32 v (wr.alloc (.cells #[.string n, .string v] 25)) (mxP.below HM.out ⟨HB1.out.os, HB1.out.tape, HB1.out.output, HB1.out.size, HB1.out.block⟩) (by omega))
        go_wp2_with fail
        refine HSP.out.mono ?_
        rintro e w2 ⟨PS, rfl, rfl, hpc, hps⟩
        have HPC := vl hpc
        have HPS := vl hps
        have HP0 := vl (Pcs.made (wr.alloc (.cells #[.string n, .string v] 25)) PS)
        have hpl : PS.length ≤ 4194305 := by
          have := cut2_len 44 32 (unums v)
          have e := congrArg List.length hpc
          rw [List.length_map] at e
          rw [unums_len] at this
          have e2 : PS.length = (cut2 44 32 (unums v)).length := e
          omega
        have HB2 : Vl (Below w.heap.size w ((wr.alloc (.cells #[.string n, .string v] 25)).alloc (.cells (PS.map Value.string).toArray 9))) := HB1.out.alloc HB1.out.size _
        have HO2 : Vl (MOwn ((wr.alloc (.cells #[.string n, .string v] 25)).alloc (.cells (PS.map Value.string).toArray 9)) w.heap.size nm.length D) := HO1.out.alloc _
        have HW1 : Vl (nm1 = nm ++ ((PS.map unums).filter tokL)) := vl (by
          rw [HT.out, if_pos HQ.out]
          show nm ++ List.filter tokL (cut2 44 32 (unums v)) = _
          have : cut2 44 32 (unums v) = PS.map unums := hpc.symm
          rw [this])
        obtain ⟨sb, hsb⟩ : ∃ x, (wr.alloc (.cells #[.string n, .string v] 25)).heap.size = x := ⟨_, rfl⟩
        rw [hsb] at HP0 ⊢
        have hsb1 : w.heap.size < sb := by rw [← hsb]; simp; omega
        obtain ⟨W2, hW2⟩ : ∃ x, (wr.alloc (.cells #[.string n, .string v] 25)).alloc (.cells (PS.map Value.string).toArray 9) = x := ⟨_, rfl⟩
        rw [hW2] at HP0 HB2 HO2 ⊢
        clear hsb hW2 hpc hps HSP HO HB HO1 HB1 HT HQ c1 c2 q q'
        go_wp2_with fail
        go_loopw [22] (fun i wx => ∃ (j : Nat) (D' : SDat), i = .int .i64 j ∧ j ≤ PS.length ∧ Vl (MOwn wx w.heap.size (nm ++ ((PS.take j).map unums).filter tokL).length D') ∧ Vl (Cnt D' (nm ++ ((PS.take j).map unums).filter tokL)) ∧ Vl (Below w.heap.size w wx) ∧ Vl (Pcs wx sb PS)) (fun i _ => PS.length - (intOf i).toNat)
        case atStart => exact ⟨0, D, rfl, by omega, by simpa using HO2, by simpa using HC, HB2, HP0⟩
        case round =>
          obtain ⟨j, D', rfl, hj, HOj, HCj, HBj, HPj⟩ := hrel
          by_cases hjl : j < PS.length
          · have hjl' : (j : Int) < (PS.length : Int) := by omega
            have cp := HPj.out.2 j hjl
            have HTk := vl (pc_take hjl nm)
            have hx := HPS.out (PS.getD j ByteArray.empty) (by rw [List.getD, List.getElem?_eq_getElem hjl]; exact List.getElem_mem _)
            generalize PS.getD j ByteArray.empty = s at *
            have hsx : s.size ≤ 140737488351232 := by omega
            have HK := vl (ntoken_any s wr hsx)
            obtain ⟨nmk, hnmk⟩ : ∃ x, nm ++ ((PS.take (j + 1)).map unums).filter tokL = x := ⟨_, rfl⟩
            have HNK := vl hnmk
            rw [hnmk] at HTk
            obtain ⟨nmj, hnmj⟩ : ∃ x, nm ++ ((PS.take j).map unums).filter tokL = x := ⟨_, rfl⟩
            have hnl : nmj.length ≤ 17592190238720 + 4194305 := by
              have h1 : (((PS.take j).map unums).filter tokL).length ≤ PS.length := Nat.le_trans (List.length_filter_le _ _) (by rw [List.length_map, List.length_take]; omega)
              rw [← hnmj, List.length_append]
              omega
            rw [hnmj] at HOj HCj HTk
            obtain ⟨b, hb⟩ : ∃ b, tokL (unums s) = b := ⟨_, rfl⟩
            rw [hb] at HK HTk
            clear hnmj hnmk hb
            go_wp2_with fail
            refine HK.out.mono ?_
            rintro e w3 ⟨rfl, hb3⟩
            have hs3 : w.heap.size ≤ wr.heap.size := HBj.out.size
            have HB3 := vl (HBj.out.trans (hb3.mono hs3))
            have HO3 := vl (mown_below HOj.out hb3)
            have HP3 := vl (HPj.out.below hb3)
            clear hb3 HK HOj HBj HPj cp
            cases b with
            | false =>
              have HE : Vl (nmk = nmj) := vl (by rw [HTk.out]; simp)
              rw [← HE.out] at HO3 HCj
              clear HE HTk
              go_wp2_with fail
              go_roundw
              case rel => exact ⟨j + 1, D', by go_num, by omega, by rw [HNK.out]; exact HO3, by rw [HNK.out]; exact HCj, HB3, HP3⟩
              case measure => simp [intOf]; omega
            | true =>
              have HE : Vl (nmk = nmj ++ [unums s]) := vl (by rw [HTk.out]; simp)
              have hrun := mown_look HO3.out HCj.out hsx
              have HKY := vl (ky_ok hsx)
              have HPT := vl (cnt_put HCj.out s)
              have hcl : nmj.count (unums s) ≤ nmj.length := List.count_le_length
              generalize nmj.count (unums s) = cn at *
              have HWF : Vl ((Lit.int .i64 ((cn : Int) + 1)).wf = true) := vl (WalkArith.wf_i64 (by omega))
              clear HTk
              go_wp2_with (at_mapUpdate; refine wpList_mapUpdate_own _ rfl _ _ _ 28 rfl 9 3 skl Tryd.underlying28 _ w.heap.size nmj.length D' rfl HO3.out (by unfold maxLen; omega) _ _ _ rfl rfl HKY.out (.lit (.int .i64 ((cn : Nat) + 1))) [] (plainElem_int Tryd.underlying3 HWF.out) ?_)
              intro w4 hown4 hg4
              have HB4 := vl (below_grown HB3.out hg4 HB3.out.size (fun k hk => by cases hk; exact Nat.le_refl _))
              have HP4 := vl (HP3.out.grown hg4 (by omega))
              have HO4 : Vl (MOwn w4 w.heap.size nmk.length (D'.put (kyS s) (.lit (.int .i64 ((cn : Nat) + 1))))) := vl (by rw [HE.out, List.length_append]; exact hown4)
              have HC4 : Vl (Cnt (D'.put (kyS s) (.lit (.int .i64 ((cn : Nat) + 1)))) nmk) := vl (by rw [HE.out]; exact HPT.out)
              clear hown4 hg4 hrun HO3 HP3 HB3 HKY HPT HE
              go_wp2_with fail
              go_roundw
              case rel => exact ⟨j + 1, _, by go_num, by omega, by rw [HNK.out]; exact HO4, by rw [HNK.out]; exact HC4, HB4, HP4⟩
              case measure => simp [intOf]; omega
          · have hje : j = PS.length := by omega
            subst hje
            have HE : Vl (nm ++ ((PS.take PS.length).map unums).filter tokL = nm1) := vl (by rw [HW1.out, List.take_length])
            rw [HE.out] at HOj HCj
            clear HPj HE HW1
            go_wp2_with fail
            go_roundw
            case rel => exact ⟨k + 1, D', by go_num, by omega, by rw [HNM.out]; exact HOj, by rw [HNM.out]; exact HCj, HBj⟩
            case measure => simp [intOf]; omega
      · have q' : (n.toList == [99, 111, 110, 110, 101, 99, 116, 105, 111, 110]) = false := by simpa using q
        have HQ : Vl (nm1 = nm) := vl (by
          rw [HT.out, if_neg (fun e => q (yL_conn.2 e))]
          simp)
        rw [← HQ.out] at HO1 HC
        clear HT HQ HO HB q
        go_wp2_with fail
        go_roundw
        case rel => exact ⟨k + 1, D, by go_num, by omega, by rw [HNM.out]; exact HO1, by rw [HNM.out]; exact HC, HB1⟩
        case measure => simp [intOf]; omega
    · have hke : k = len := by omega
      subst hke
      have HE : Vl (L.take k = L) := List.take_of_length_le (by omega)
      rw [HE.out] at HO HC
      go_wp2_with fail
      go_ret
      exact ⟨D, _, rfl, HO.out, HC.out, HB.out⟩
end Go.Proofs.YtkaihfminlincagDoor
