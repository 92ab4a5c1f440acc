/-
  FROM THE ONE TO THE OTHER: the developers' namedBy. No claim by itself.
-/
import Derived.WalkArith
import Derived.Deep.QuietTactic
import Derived.BigQuiet
import Derived.Test.YtglmppadhlkkgagGreatDoorYcl3X
import Derived.Test.YtglmppadhlkkgagGreatDoorG3
namespace Go.Proofs.YtglmppadhlkkgagGreatDoor
open Go Go.RowKit Go.Maps
set_option maxRecDepth 100000
/-- Pieces of a text in memory. -/
def Pcs (w : World) (sb : Nat) (PS : List ByteArray) : Prop := sb < w.heap.size ∧ ∀ j, j < PS.length → w.cell? ⟨sb, j, none⟩ = some (.string (PS.getD j ByteArray.empty))
theorem Pcs.below {w w' : World} {sb : Nat} {PS : List ByteArray} (h : Pcs w sb PS) (hb : Below w.heap.size w w') : Pcs w' sb PS :=
  ⟨Nat.lt_of_lt_of_le h.1 hb.size, fun j hj => (hb.cell (p := ⟨sb, j, none⟩) h.1).trans (h.2 j hj)⟩
theorem Pcs.grown {w w' : World} {sb mb : Nat} {PS : List ByteArray} (h : Pcs w sb PS) (hg : w.grownBy w' (some mb)) (hne : sb ≠ mb) : Pcs w' sb PS :=
  ⟨Nat.lt_of_lt_of_le h.1 hg.size, fun j hj => (World.cell?_of_block (a := ⟨sb, j, none⟩) (hg.block sb h.1 (fun e => hne (Option.some.inj e)))).trans (h.2 j hj)⟩
theorem Pcs.made (w : World) (PS : List ByteArray) : Pcs (w.alloc (.cells (PS.map Value.string).toArray 9)) w.heap.size PS :=
  ⟨by simp, fun j hj => pc_cell (Below.refl _ _) j hj⟩
def VOk (L : List (ByteArray × ByteArray)) : Prop := ∀ t, (L.getD t fnone).1.size ≤ 140737488351232 ∧ (L.getD t fnone).2.size ≤ 4194304
theorem VOk.named {L : List (ByteArray × ByteArray)} (h : VOk L) (hl : L.length ≤ 4194304) (k : Nat) : (namedL (fdsOf (L.take k))).length ≤ 17592190238720 := by
  have h1 := named_len (fdsOf (L.take k)) 4194304 (fun f hf => by
    unfold fdsOf at hf
    obtain ⟨x, hx, rfl⟩ := List.mem_map.1 hf
    obtain ⟨i, hi, rfl⟩ := List.getElem_of_mem (List.mem_of_mem_take hx)
    have := (h i).2
    rw [List.getD, List.getElem?_eq_getElem hi] at this
    show (unums _).length ≤ _
    rw [unums_len]
    exact this)
  have h2 : (fdsOf (L.take k)).length ≤ 4194304 := by
    unfold fdsOf
    rw [List.length_map, List.length_take]
    omega
  exact Nat.le_trans h1 (Nat.le_trans (Nat.mul_le_mul_right _ h2) (by decide))
set_option maxHeartbeats 4000000 in
theorem xnamed_row (g off len cap : Nat) (L : List (ByteArray × ByteArray)) (w : World) (hr : FRow w g off len cap L) (hl : len ≤ 4194304) (hs : VOk L) (hm : mxP w) :
    Calls Tryz.prog 58 #[.slice (some ⟨g, off, none⟩) len cap] w fun e w' => ∃ D c, e = .returned (.map (some w.heap.size)) ∧ MOwn w' w.heap.size c D ∧ Cnt D (namedL (fdsOf L)) ∧ Below w.heap.size w w' := by
  have HR := vl hr
  have HS := vl hs
  have HM := vl hm
  have HNL := vl (hs.named (by rw [hr.hlen]; exact hl))
  have hcap := hr.hcap
  have hmax := hr.hmax
  unfold maxLen at hmax
  have hLl := hr.hlen
  have hmm := @run_makeMap Tryz.prog
  clear hr hs hm
  go_enter Tryz.func58, Tryz.ntmps58
  go_wp2_with fail
  clear hmm
  go_loopw [11] (fun i wr => ∃ (k : Nat) (D : SDat), i = .int .i64 k ∧ k ≤ len ∧ Vl (MOwn wr w.heap.size (namedL (fdsOf (L.take k))).length D) ∧ Vl (Cnt D (namedL (fdsOf (L.take k)))) ∧ Vl (Below w.heap.size w wr)) (fun i _ => len - (intOf i).toNat)
  case atStart => exact ⟨0, .map [], rfl, by omega, World.ownsMap_made _ _ _ _, cnt_nil, (Below.refl _ _).alloc (Nat.le_refl _) _⟩
  case round =>
    obtain ⟨k, D, rfl, hk, HO, HC, HB⟩ := hrel
    by_cases hlt : k < len
    · have hlt' : (k : Int) < (len : Int) := by omega
      have hr2 := HR.out.below HB.out
      have c1 := hr2.hname k hlt
      have c2 := hr2.hvalue k hlt
      have HT := vl (named_take (L := L) (k := k) (by omega))
      have HN1 := HNL.out (k + 1)
      have HN0 := HNL.out k
      obtain ⟨hsn, hsv⟩ := HS.out k
      generalize hf : L.getD k fnone = f at *
      obtain ⟨n, v⟩ := f
      have hsn : n.size ≤ 140737488351232 := hsn
      have hsv : v.size ≤ 4194304 := hsv
      clear hr2 hf
      obtain ⟨nm1, hnm1⟩ : ∃ x, namedL (fdsOf (L.take (k + 1))) = x := ⟨_, rfl⟩
      have HNM := vl hnm1
      rw [hnm1] at HT HN1
      clear hnm1
      generalize namedL (fdsOf (L.take k)) = nm at *
      have hszr : w.heap.size ≤ wr.heap.size := HB.out.size
      have HB1 : Vl (Below w.heap.size w (wr.alloc (.cells #[.string n, .string v] 51))) := HB.out.alloc HB.out.size _
      have HO1 : Vl (MOwn (wr.alloc (.cells #[.string n, .string v] 51)) w.heap.size nm.length D) := HO.out.alloc _
      by_cases q : n.toList = [99, 111, 110, 110, 101, 99, 116, 105, 111, 110]
      · have q' : (n.toList == [99, 111, 110, 110, 101, 99, 116, 105, 111, 110]) = true := by simpa using q
        have HQ := vl (yL_conn.1 q)
        have HSP := vl (xsplit_any 44 32 v (wr.alloc (.cells #[.string n, .string v] 51)) (mxP.below HM.out ⟨HB1.out.os, HB1.out.tape, HB1.out.output, HB1.out.size, HB1.out.block⟩) (by omega))
        go_wp2_with fail
        refine HSP.out.mono ?_
        rintro e w2 ⟨PS, rfl, rfl, hpc, hps⟩
        have HPC := vl hpc
        have HPS := vl hps
        have HP0 := vl (Pcs.made (wr.alloc (.cells #[.string n, .string v] 51)) PS)
        have hpl : PS.length ≤ 4194305 := by
          have := cut2_len 44 32 (unums v)
          have e := congrArg List.length hpc
          rw [List.length_map] at e
          rw [unums_len] at this
          have e2 : PS.length = (cut2 44 32 (unums v)).length := e
          omega
        have HB2 : Vl (Below w.heap.size w ((wr.alloc (.cells #[.string n, .string v] 51)).alloc (.cells (PS.map Value.string).toArray 9))) := HB1.out.alloc HB1.out.size _
        have HO2 : Vl (MOwn ((wr.alloc (.cells #[.string n, .string v] 51)).alloc (.cells (PS.map Value.string).toArray 9)) w.heap.size nm.length D) := HO1.out.alloc _
        have HW1 : Vl (nm1 = nm ++ ((PS.map unums).filter tokL)) := vl (by
          rw [HT.out, if_pos HQ.out]
          show nm ++ List.filter tokL (cut2 44 32 (unums v)) = _
          have : cut2 44 32 (unums v) = PS.map unums := hpc.symm
          rw [this])
        obtain ⟨sb, hsb⟩ : ∃ x, (wr.alloc (.cells #[.string n, .string v] 51)).heap.size = x := ⟨_, rfl⟩
        rw [hsb] at HP0 ⊢
        have hsb1 : w.heap.size < sb := by rw [← hsb]; simp; omega
        obtain ⟨W2, hW2⟩ : ∃ x, (wr.alloc (.cells #[.string n, .string v] 51)).alloc (.cells (PS.map Value.string).toArray 9) = x := ⟨_, rfl⟩
        rw [hW2] at HP0 HB2 HO2 ⊢
        clear hsb hW2 hpc hps HSP HO HB HO1 HB1 HT HQ c1 c2 q q'
        go_wp2_with fail
        go_loopw [22] (fun i wx => ∃ (j : Nat) (D' : SDat), i = .int .i64 j ∧ j ≤ PS.length ∧ Vl (MOwn wx w.heap.size (nm ++ ((PS.take j).map unums).filter tokL).length D') ∧ Vl (Cnt D' (nm ++ ((PS.take j).map unums).filter tokL)) ∧ Vl (Below w.heap.size w wx) ∧ Vl (Pcs wx sb PS)) (fun i _ => PS.length - (intOf i).toNat)
        case atStart => exact ⟨0, D, rfl, by omega, by simpa using HO2, by simpa using HC, HB2, HP0⟩
        case round =>
          obtain ⟨j, D', rfl, hj, HOj, HCj, HBj, HPj⟩ := hrel
          by_cases hjl : j < PS.length
          · have hjl' : (j : Int) < (PS.length : Int) := by omega
            have cp := HPj.out.2 j hjl
            have HTk := vl (pc_take hjl nm)
            have hx := HPS.out (PS.getD j ByteArray.empty) (by rw [List.getD, List.getElem?_eq_getElem hjl]; exact List.getElem_mem _)
            generalize PS.getD j ByteArray.empty = s at *
            have hsx : s.size ≤ 140737488351232 := by omega
            have HK := vl (ntoken_any s wr hsx)
            obtain ⟨nmk, hnmk⟩ : ∃ x, nm ++ ((PS.take (j + 1)).map unums).filter tokL = x := ⟨_, rfl⟩
            have HNK := vl hnmk
            rw [hnmk] at HTk
            obtain ⟨nmj, hnmj⟩ : ∃ x, nm ++ ((PS.take j).map unums).filter tokL = x := ⟨_, rfl⟩
            have hnl : nmj.length ≤ 17592190238720 + 4194305 := by
              have h1 : (((PS.take j).map unums).filter tokL).length ≤ PS.length := Nat.le_trans (List.length_filter_le _ _) (by rw [List.length_map, List.length_take]; omega)
              rw [← hnmj, List.length_append]
              omega
            rw [hnmj] at HOj HCj HTk
            obtain ⟨b, hb⟩ : ∃ b, tokL (unums s) = b := ⟨_, rfl⟩
            rw [hb] at HK HTk
            clear hnmj hnmk hb
            go_wp2_with fail
            refine HK.out.mono ?_
            rintro e w3 ⟨rfl, hb3⟩
            have hs3 : w.heap.size ≤ wr.heap.size := HBj.out.size
            have HB3 := vl (HBj.out.trans (hb3.mono hs3))
            have HO3 := vl (mown_below HOj.out hb3)
            have HP3 := vl (HPj.out.below hb3)
            clear hb3 HK HOj HBj HPj cp
            cases b with
            | false =>
              have HE : Vl (nmk = nmj) := vl (by rw [HTk.out]; simp)
              rw [← HE.out] at HO3 HCj
              clear HE HTk
              go_wp2_with fail
              go_roundw
              case rel => exact ⟨j + 1, D', by go_num, by omega, by rw [HNK.out]; exact HO3, by rw [HNK.out]; exact HCj, HB3, HP3⟩
              case measure => simp [intOf]; omega
            | true =>
              have HE : Vl (nmk = nmj ++ [unums s]) := vl (by rw [HTk.out]; simp)
              have hrun := mown_look HO3.out HCj.out hsx
              have HKY := vl (ky_ok hsx)
              have HPT := vl (cnt_put HCj.out s)
              have hcl : nmj.count (unums s) ≤ nmj.length := List.count_le_length
              generalize nmj.count (unums s) = cn at *
              have HWF : Vl ((Lit.int .i64 ((cn : Int) + 1)).wf = true) := vl (WalkArith.wf_i64 (by omega))
              clear HTk
              go_wp2_with (at_mapUpdate; refine wpList_mapUpdate_own _ rfl _ _ _ 94 rfl 9 3 skl Tryz.underlying94 _ w.heap.size nmj.length D' rfl HO3.out (by unfold maxLen; omega) _ _ _ rfl rfl HKY.out (.lit (.int .i64 ((cn : Nat) + 1))) [] (plainElem_int Tryz.underlying3 HWF.out) ?_)
              intro w4 hown4 hg4
              have HB4 := vl (below_grown HB3.out hg4 HB3.out.size (fun k hk => by cases hk; exact Nat.le_refl _))
              have HP4 := vl (HP3.out.grown hg4 (by omega))
              have HO4 : Vl (MOwn w4 w.heap.size nmk.length (D'.put (kyS s) (.lit (.int .i64 ((cn : Nat) + 1))))) := vl (by rw [HE.out, List.length_append]; exact hown4)
              have HC4 : Vl (Cnt (D'.put (kyS s) (.lit (.int .i64 ((cn : Nat) + 1)))) nmk) := vl (by rw [HE.out]; exact HPT.out)
              clear hown4 hg4 hrun HO3 HP3 HB3 HKY HPT HE
              go_wp2_with fail
              go_roundw
              case rel => exact ⟨j + 1, _, by go_num, by omega, by rw [HNK.out]; exact HO4, by rw [HNK.out]; exact HC4, HB4, HP4⟩
              case measure => simp [intOf]; omega
          · have hje : j = PS.length := by omega
            subst hje
            have HE : Vl (nm ++ ((PS.take PS.length).map unums).filter tokL = nm1) := vl (by rw [HW1.out, List.take_length])
            rw [HE.out] at HOj HCj
            clear HPj HE HW1
            go_wp2_with fail
            go_roundw
            case rel => exact ⟨k + 1, D', by go_num, by omega, by rw [HNM.out]; exact HOj, by rw [HNM.out]; exact HCj, HBj⟩
            case measure => simp [intOf]; omega
      · have q' : (n.toList == [99, 111, 110, 110, 101, 99, 116, 105, 111, 110]) = false := by simpa using q
        have HQ : Vl (nm1 = nm) := vl (by
          rw [HT.out, if_neg (fun e => q (yL_conn.2 e))]
          simp)
        rw [← HQ.out] at HO1 HC
        clear HT HQ HO HB q
        go_wp2_with fail
        go_roundw
        case rel => exact ⟨k + 1, D, by go_num, by omega, by rw [HNM.out]; exact HO1, by rw [HNM.out]; exact HC, HB1⟩
        case measure => simp [intOf]; omega
    · have hke : k = len := by omega
      subst hke
      have HE : Vl (L.take k = L) := List.take_of_length_le (by omega)
      rw [HE.out] at HO HC
      go_wp2_with fail
      go_ret
      exact ⟨D, _, rfl, HO.out, HC.out, HB.out⟩
end Go.Proofs.YtglmppadhlkkgagGreatDoor
/-
  FROM THE ONE TO THE OTHER: the developers' Clean. No claim by itself.
-/
namespace Go.Proofs.YtglmppadhlkkgagGreatDoor
open Go Go.RowKit Go.Maps
set_option maxRecDepth 100000
theorem xnamed_any (a : Option Addr) (len cap : Nat) (L : List (ByteArray × ByteArray)) (w : World) (hA : FArg w a len cap L) (hl : len ≤ 4194304) (hs : VOk L) (hm : mxP w) :
    Calls Tryz.prog 58 #[.slice a len cap] w fun e w' => ∃ D c, e = .returned (.map (some w.heap.size)) ∧ MOwn w' w.heap.size c D ∧ Cnt D (namedL (fdsOf L)) ∧ Below w.heap.size w w' := by
  rcases hA with ⟨rfl, rfl⟩ | ⟨g, off, rfl, hr⟩
  · have hmm := @run_makeMap Tryz.prog
    go_enter Tryz.func58, Tryz.ntmps58
    go_wp2_with fail
    clear hmm
    go_loopw [11] (fun i wr => i = .int .i64 0 ∧ wr = w.alloc (.map #[] 0)) (fun _ _ => 0)
    case atStart => exact ⟨rfl, rfl⟩
    case round =>
      obtain ⟨rfl, rfl⟩ := hrel
      go_wp2_with fail
      go_ret
      exact ⟨.map [], 0, rfl, World.ownsMap_made _ _ _ _, cnt_nil, (Below.refl _ _).alloc (Nat.le_refl _) _⟩
  · exact xnamed_row g off len cap L w hr hl hs hm
theorem xcl1_any (n v : ByteArray) (cb mb c : Nat) (D : SDat) (nm : List (List Int)) (w : World) (hcell : w.cell? ⟨cb, 0, none⟩ = some (.map (some mb))) (hown : MOwn w mb c D) (hc : Cnt D nm) (hn : n.size ≤ 140737488351232) :
    Calls Tryz.prog 59 #[.agg #[.string n, .string v], .pointer (some ⟨cb, 0, none⟩)] w fun e w' => e = .returned (.bool (goneL nm (unums n))) ∧ Below w.heap.size w w' := by
  have hcb : cb < w.heap.size := by
    rcases Nat.lt_or_ge cb w.heap.size with h1 | h1
    · exact h1
    · simp [World.cell?, Array.getElem?_eq_none h1] at hcell
  have HO := vl hown
  have HC := vl hc
  have HCL := vl hcell
  have HG : Vl (goneL nm (unums n) = (btwL (unums n) || isLn (unums n, unums v) || decide (unums n ∈ nm))) := rfl
  have HX := vl (fun W => xbtw_any n v W)
  have HY := vl (fun W => xlen_any n v W)
  have HA : Vl (Below w.heap.size w (w.alloc (.cells #[.string n, .string v] 51))) := (Below.refl _ w).alloc (Nat.le_refl _) _
  clear hown hc hcell
  generalize btwL (unums n) = b1 at *
  generalize isLn (unums n, unums v) = b2 at *
  rw [HG.out]
  clear HG
  obtain ⟨b3, hb3⟩ : ∃ b, decide (unums n ∈ nm) = b := ⟨_, rfl⟩
  rw [hb3]
  have H3 := vl hb3
  clear hb3
  cases b1 with
  | true =>
    go_enter Tryz.func59, Tryz.ntmps59
    go_wp2_with fail
    refine (HX.out _).mono ?_
    rintro e w1 ⟨rfl, hb1⟩
    have HB1 := vl (HA.out.trans (hb1.mono (by simp)))
    clear hb1
    go_wp2_with fail
    go_ret
    exact ⟨rfl, HB1.out⟩
  | false =>
    go_enter Tryz.func59, Tryz.ntmps59
    go_wp2_with fail
    refine (HX.out _).mono ?_
    rintro e w1 ⟨rfl, hb1⟩
    have HB1 := vl (HA.out.trans (hb1.mono (by simp)))
    rw [World.size_alloc] at hb1
    obtain ⟨d1, d2⟩ := cell2_below hb1
    have hs1 : w.heap.size < w1.heap.size := by have := hb1.size; simp at this; omega
    clear hb1
    go_wp2_with fail
    refine (HY.out _).mono ?_
    rintro e w2 ⟨rfl, hb2⟩
    have HB2 := vl (HB1.out.trans (hb2.mono (by omega)))
    have e1 := (hb2.cell (p := ⟨w.heap.size, 0, none⟩) hs1).trans d1
    have e2 := (HB2.out.cell (p := ⟨cb, 0, none⟩) hcb).trans HCL.out
    have hrun := mown_look (mown_below HO.out HB2.out) HC.out hn
    clear hb2 d1 d2
    cases b2 with
    | true =>
      clear hrun
      go_wp2_with fail
      go_ret
      exact ⟨rfl, HB2.out⟩
    | false =>
      have HM : Vl (0 < nm.count (unums n) ↔ unums n ∈ nm) := List.count_pos_iff
      cases b3 with
      | true =>
        have h0 : (0 : Int) < (nm.count (unums n) : Nat) := by have := HM.out.2 (of_decide_eq_true H3.out); omega
        generalize nm.count (unums n) = cn at *
        clear HM
        go_wp2_with fail
        go_ret
        refine ⟨?_, HB2.out⟩
        show Ending.returned (Value.bool (decide (0 < cn))) = _
        rw [decide_eq_true (by omega : 0 < cn)]
        rfl
      | false =>
        have h0 : nm.count (unums n) = 0 := by
          rcases Nat.eq_zero_or_pos (nm.count (unums n)) with h | h
          · exact h
          · exact absurd (HM.out.1 h) (of_decide_eq_false H3.out)
        rw [h0] at hrun
        clear HM h0
        go_wp2_with fail
        go_ret
        exact ⟨rfl, HB2.out⟩
theorem prd_gone {w : World} {cb mb c : Nat} {D : SDat} {nm : List (List Int)} (hcell : w.cell? ⟨cb, 0, none⟩ = some (.map (some mb))) (hown : MOwn w mb c D) (hc : Cnt D nm) :
    PrdF w (.func (.func 59) #[] #[.pointer (some ⟨cb, 0, none⟩)]) (fun f => goneL nm f.1) := by
  have hcb : cb < w.heap.size := by
    rcases Nat.lt_or_ge cb w.heap.size with h1 | h1
    · exact h1
    · simp [World.cell?, Array.getElem?_eq_none h1] at hcell
  exact ⟨59, #[.pointer (some ⟨cb, 0, none⟩)], rfl, enters_of Tryz.func59 (by kernel_rfl) rfl, fun W n v hn hb => xcl1_any n v cb mb c D nm W ((hb.cell (p := ⟨cb, 0, none⟩) hcb).trans hcell) (mown_below hown hb) hc hn⟩
def goneF (L : List (ByteArray × ByteArray)) (f : Fd) : Bool := goneL (namedL (fdsOf L)) f.1
def cleanB (L : List (ByteArray × ByteArray)) : List (ByteArray × ByteArray) := L.filter (kpF (goneF L))
theorem fds_clean (L : List (ByteArray × ByteArray)) : fdsOf (cleanB L) = cleanL (fdsOf L) := fds_filter L _
theorem fown_mono {w : World} {b b' : Nat} {v : Value} {L : List (ByteArray × ByteArray)} (h : FOwn w b v L) (hb : b' ≤ b) : FOwn w b' v L := by
  obtain ⟨h1, h2 | ⟨g, cap, cur, hv, hg, hr⟩⟩ := id h
  · exact ⟨h1, Or.inl h2⟩
  · exact ⟨h1, Or.inr ⟨g, cap, cur, hv, Nat.le_trans hb hg, hr⟩⟩
theorem xclean_any (a : Option Addr) (len cap : Nat) (L : List (ByteArray × ByteArray)) (w : World) (hA : FArg w a len cap L) (hl : len ≤ 4194304) (hs : VOk L) (hm : mxP w) :
    Calls Tryz.prog 20 #[.slice a len cap] w fun e w' => ∃ v, e = .returned v ∧ FOwn w' w.heap.size v (cleanB L) ∧ Below w.heap.size w w' := by
  have HN := vl (xnamed_any a len cap L w hA hl hs hm)
  have HA := vl hA
  have HS := vl hs
  clear hA hs hm
  go_enter Tryz.func20, Tryz.ntmps20
  go_wp2_with fail
  refine HN.out.mono ?_
  rintro e w1 ⟨D, c, rfl, ho, hc, hb⟩
  have hk : (w1.alloc (.cells #[.map (some w.heap.size)] 94)).heap[w1.heap.size]? = some (.cells #[.map (some w.heap.size)] 94 (0, 0)) := heap_alloc_new w1 _
  have hcc : (w1.alloc (.cells #[.map (some w.heap.size)] 94)).cell? ⟨w1.heap.size, 0, none⟩ = some (.map (some w.heap.size)) := by simp only [World.cell?, hk]; rfl
  have HB2 : Vl (Below w.heap.size w (w1.alloc (.cells #[.map (some w.heap.size)] 94))) := hb.alloc hb.size _
  have HP := vl (prd_gone hcc (ho.alloc _) hc)
  have HW := vl (xwo_any a len cap L _ _ (w1.alloc (.cells #[.map (some w.heap.size)] 94)) (HA.out.below HB2.out) (by omega) (fun t => (HS.out t).1) HP.out)
  have hsz : w.heap.size ≤ w1.heap.size := hb.size
  clear HN ho hc hb hk hcc HP HA HS
  go_wp2_with fail
  refine HW.out.mono ?_
  rintro e w3 ⟨v, rfl, ho3, hb3⟩
  rw [World.size_alloc] at ho3 hb3
  have HF : Vl (FOwn w3 w.heap.size v (cleanB L) ∧ Below w.heap.size w w3) := vl ⟨fown_mono ho3 (by omega), HB2.out.trans (hb3.mono (by omega))⟩
  clear ho3 hb3 HW HB2
  go_wp2_with fail
  go_ret
  exact ⟨_, rfl, HF.out.1, HF.out.2⟩
end Go.Proofs.YtglmppadhlkkgagGreatDoor
/-
  MESSAGES AS LINES: tollsame.Fields, Request, Reply, at like ones. No claim by itself.
-/
namespace Go.Proofs.YtglmppadhlkkgagGreatDoor
open Go.RowKit
set_option maxRecDepth 100000
set_option maxHeartbeats 4000000 in
theorem sfields_any (a a2 : Option Addr) (len cap cap2 : Nat) (L : List (ByteArray × ByteArray)) (w : World) (h1 : FArg w a len cap L) (h2 : FArg w a2 len cap2 L) (hlm : len ≤ 4611686018427387904) :
    Calls Tryz.prog 11 #[.slice a len cap, .slice a2 len cap2] w fun e w' => e = .returned (.bool true) ∧ Below w.heap.size w w' := by
  have heq : ∀ (a b : ByteArray) (w : World), (binOp .neq 51 (.agg #[.string a, .string b]) (.agg #[.string a, .string b])).run Tryz.prog w = .ok (.bool false) w := fun a b w => by rw [run_neqF]; simp
  have hgd := eqGuardF
  have H1 : Hid (∀ wx, Below w.heap.size w wx → FArg wx a len cap L) := fun wx hb => h1.below hb
  have H2 : Hid (∀ wx, Below w.heap.size w wx → FArg wx a2 len cap2 L) := fun wx hb => h2.below hb
  clear h1 h2
  go_enter Tryz.func11, Tryz.ntmps11
  go_wp2_with fail
  go_loopw [5] (fun i wr => ∃ k : Nat, i = .int .i64 k ∧ k ≤ len ∧ Below w.heap.size w wr) (fun i _ => len - (intOf i).toNat)
  case atStart => exact ⟨0, rfl, by omega, Below.refl _ _⟩
  case round =>
    obtain ⟨k, rfl, hk, hbel⟩ := hrel
    by_cases hlt : k < len
    · rcases H1.out wr hbel with ⟨h0, _⟩ | ⟨g, off, rfl, hr⟩
      · omega
      rcases H2.out wr hbel with ⟨h0, _⟩ | ⟨g2, off2, rfl, hr2⟩
      · omega
      have c1 := hr.hname k hlt
      have c2 := hr.hvalue k hlt
      have c3 := hr2.hname k hlt
      have c4 := hr2.hvalue k hlt
      have hcap := hr.hcap
      have hcap2 := hr2.hcap
      have hk0 : (0 : Int) ≤ (k : Int) := by omega
      have hk1 : (k : Int) < (len : Int) := by omega
      generalize L.getD k fnone = f at *
      obtain ⟨n, v⟩ := f
      have HBE := hide hbel
      clear hr hr2 hbel
      go_wp2_with fail
      go_quiet (fail)
      go_wp2
      go_roundw
      case rel => exact ⟨k + 1, by go_num, by omega, drewN_below HBE.out _⟩
      case measure => simp [intOf]; omega
    · have hge : ¬ (k : Int) < (len : Int) := by omega
      go_wp2
      go_ret
      exact ⟨rfl, hbel⟩
theorem fds_inj : ∀ {A B : List (ByteArray × ByteArray)}, fdsOf A = fdsOf B → A = B
  | [], [], _ => rfl
  | [], _ :: _, h => by simp [fdsOf] at h
  | _ :: _, [], h => by simp [fdsOf] at h
  | (a, b) :: A, (c, d) :: B, h => by
    simp only [fdsOf, List.map_cons, List.cons.injEq, Prod.mk.injEq] at h
    obtain ⟨⟨h1, h2⟩, h3⟩ := h
    rw [unums_inj h1, unums_inj h2, fds_inj (A := A) (B := B) h3]
theorem Arg.conv {w : World} {a : Option Addr} {len cap : Nat} {Z : List Int} (h : Arg w a len cap Z) : (convert 23 9 (.slice a len cap)).run Tryz.prog w = .ok (.string (strOfNums Z)) w := by
  rcases h with ⟨rfl, rfl⟩ | ⟨g, off, rfl, hr⟩
  · cases a with
    | none => exact run_convert_bytes_nil (P := Tryz.prog) w 23 5 Tryz.underlying23 Tryz.underlying5 0 cap 9 Tryz.underlying9
    | some ad =>
      rw [run_convert_bytes_string w 23 9 5 _ 0 cap Tryz.underlying23 Tryz.underlying5 Tryz.underlying9]
      have hl : (loadCells ad 0).run Tryz.prog w = .ok #[] w := by
        have := run_loadCells_list (P := Tryz.prog) w ad [] (fun j v hj => by simp at hj)
        simpa using this
      simp [Conv.bytesToString, hl]
      rfl
  · exact run_convert_bytes_arg w 23 5 Tryz.underlying23 Tryz.underlying5 g off len cap Z hr.hlen hr.hcell 9 Tryz.underlying9
set_option maxHeartbeats 2000000 in
theorem sreply_any (c : Int) (fa : Option Addr) (fn fc : Nat) (ba : Option Addr) (bn bc : Nat) (fa2 : Option Addr) (fc2 : Nat) (ba2 : Option Addr) (bc2 : Nat) (FL : List (ByteArray × ByteArray)) (B : List Int) (w : World)
    (h1 : FArg w fa fn fc FL) (h2 : FArg w fa2 fn fc2 FL) (h3 : Arg w ba bn bc B) (h4 : Arg w ba2 bn bc2 B) (hm : fn ≤ 4611686018427387904) :
    Calls Tryz.prog 19 #[.agg #[.int .i64 c, .slice fa fn fc, .slice ba bn bc], .agg #[.int .i64 c, .slice fa2 fn fc2, .slice ba2 bn bc2]] w fun e w' => e = .returned (.bool true) ∧ Below w.heap.size w w' := by
  obtain ⟨W1, hW1⟩ : ∃ W1, W1 = (w.alloc (.cells #[.int .i64 c, .slice fa fn fc, .slice ba bn bc] 27)).alloc (.cells #[.int .i64 c, .slice fa2 fn fc2, .slice ba2 bn bc2] 27) := ⟨_, rfl⟩
  have hx0 : (w.alloc (.cells #[.int .i64 c, .slice fa fn fc, .slice ba bn bc] 27)).heap[w.heap.size]? = some (.cells #[.int .i64 c, .slice fa fn fc, .slice ba bn bc] 27 (0, 0)) := heap_alloc_new w _
  have hs0 : (w.alloc (.cells #[.int .i64 c, .slice fa fn fc, .slice ba bn bc] 27)).heap.size = w.heap.size + 1 := by simp
  have hb0 : Below w.heap.size w (w.alloc (.cells #[.int .i64 c, .slice fa fn fc, .slice ba bn bc] 27)) := (Below.refl _ w).alloc (Nat.le_refl _) _
  have hb00 : Below (w.heap.size + 1) (w.alloc (.cells #[.int .i64 c, .slice fa fn fc, .slice ba bn bc] 27)) W1 := by rw [hW1]; exact (Below.refl _ _).alloc (by rw [hs0]; exact Nat.le_refl _) _
  have hbW : Below w.heap.size w W1 := hb0.trans (hb00.mono (by omega))
  have hx1 : W1.heap[w.heap.size]? = some (.cells #[.int .i64 c, .slice fa fn fc, .slice ba bn bc] 27 (0, 0)) := (hb00.block _ (by omega)).trans hx0
  have hx2 : W1.heap[w.heap.size + 1]? = some (.cells #[.int .i64 c, .slice fa2 fn fc2, .slice ba2 bn bc2] 27 (0, 0)) := by
    rw [hW1]
    have := heap_alloc_new (w.alloc (.cells #[.int .i64 c, .slice fa fn fc, .slice ba bn bc] 27)) (.cells #[.int .i64 c, .slice fa2 fn fc2, .slice ba2 bn bc2] 27 (0, 0))
    rw [hs0] at this
    exact this
  have hsW : W1.heap.size = w.heap.size + 2 := by rw [hW1]; simp
  have HF := vl (sfields_any fa fa2 fn fc fc2 FL W1 (h1.below hbW) (h2.below hbW) hm)
  have H3 := vl h3
  have H4 := vl h4
  have HBW := vl hbW
  have HX1 := vl hx1
  have HX2 := vl hx2
  have HSW := vl hsW
  have HW1 := vl hW1
  clear h1 h2 h3 h4 hbW hx1 hx2 hsW hW1 hx0 hs0 hb0 hb00
  go_enter Tryz.func19, Tryz.ntmps19
  go_wp2_with fail
  rw [← HW1.out]
  refine HF.out.mono ?_
  rintro e w1 ⟨rfl, hb⟩
  have e1 := (hb.block w.heap.size (by have := HSW.out; omega)).trans HX1.out
  have e2 := (hb.block (w.heap.size + 1) (by have := HSW.out; omega)).trans HX2.out
  have c0 : w1.cell? ⟨w.heap.size, 0, none⟩ = some (.int .i64 c) := by simp only [World.cell?, e1]; rfl
  have d0 : w1.cell? ⟨w.heap.size + 1, 0, none⟩ = some (.int .i64 c) := by simp only [World.cell?, e2]; rfl
  have c1 : w1.cell? ⟨w.heap.size, 2, none⟩ = some (.slice ba bn bc) := by simp only [World.cell?, e1]; rfl
  have d1 : w1.cell? ⟨w.heap.size + 1, 2, none⟩ = some (.slice ba2 bn bc2) := by simp only [World.cell?, e2]; rfl
  have HB : Vl (Below w.heap.size w w1) := HBW.out.trans (hb.mono HBW.out.size)
  have cv1 := (H3.out.below HB.out).conv
  have cv2 := (H4.out.below HB.out).conv
  clear hb HF e1 e2 HX1 HX2 HSW HW1 HBW
  go_wp2
  go_ret
  exact ⟨by first | rfl | simp, HB.out⟩
set_option maxHeartbeats 2000000 in
theorem srequest_any (m p h : ByteArray) (fa : Option Addr) (fn fc : Nat) (ba : Option Addr) (bn bc : Nat) (fa2 : Option Addr) (fc2 : Nat) (ba2 : Option Addr) (bc2 : Nat) (FL : List (ByteArray × ByteArray)) (B : List Int) (w : World)
    (h1 : FArg w fa fn fc FL) (h2 : FArg w fa2 fn fc2 FL) (h3 : Arg w ba bn bc B) (h4 : Arg w ba2 bn bc2 B) (hm : fn ≤ 4611686018427387904) :
    Calls Tryz.prog 14 #[.agg #[.string m, .string p, .string h, .slice fa fn fc, .slice ba bn bc], .agg #[.string m, .string p, .string h, .slice fa2 fn fc2, .slice ba2 bn bc2]] w fun e w' => e = .returned (.bool true) ∧ Below w.heap.size w w' := by
  obtain ⟨W1, hW1⟩ : ∃ W1, W1 = (w.alloc (.cells #[.string m, .string p, .string h, .slice fa fn fc, .slice ba bn bc] 25)).alloc (.cells #[.string m, .string p, .string h, .slice fa2 fn fc2, .slice ba2 bn bc2] 25) := ⟨_, rfl⟩
  have hx0 : (w.alloc (.cells #[.string m, .string p, .string h, .slice fa fn fc, .slice ba bn bc] 25)).heap[w.heap.size]? = some (.cells #[.string m, .string p, .string h, .slice fa fn fc, .slice ba bn bc] 25 (0, 0)) := heap_alloc_new w _
  have hs0 : (w.alloc (.cells #[.string m, .string p, .string h, .slice fa fn fc, .slice ba bn bc] 25)).heap.size = w.heap.size + 1 := by simp
  have hb0 : Below w.heap.size w (w.alloc (.cells #[.string m, .string p, .string h, .slice fa fn fc, .slice ba bn bc] 25)) := (Below.refl _ w).alloc (Nat.le_refl _) _
  have hb00 : Below (w.heap.size + 1) (w.alloc (.cells #[.string m, .string p, .string h, .slice fa fn fc, .slice ba bn bc] 25)) W1 := by rw [hW1]; exact (Below.refl _ _).alloc (by rw [hs0]; exact Nat.le_refl _) _
  have hbW : Below w.heap.size w W1 := hb0.trans (hb00.mono (by omega))
  have hx1 : W1.heap[w.heap.size]? = some (.cells #[.string m, .string p, .string h, .slice fa fn fc, .slice ba bn bc] 25 (0, 0)) := (hb00.block _ (by omega)).trans hx0
  have hx2 : W1.heap[w.heap.size + 1]? = some (.cells #[.string m, .string p, .string h, .slice fa2 fn fc2, .slice ba2 bn bc2] 25 (0, 0)) := by
    rw [hW1]
    have := heap_alloc_new (w.alloc (.cells #[.string m, .string p, .string h, .slice fa fn fc, .slice ba bn bc] 25)) (.cells #[.string m, .string p, .string h, .slice fa2 fn fc2, .slice ba2 bn bc2] 25 (0, 0))
    rw [hs0] at this
    exact this
  have hsW : W1.heap.size = w.heap.size + 2 := by rw [hW1]; simp
  have HF := vl (sfields_any fa fa2 fn fc fc2 FL W1 (h1.below hbW) (h2.below hbW) hm)
  have H3 := vl h3
  have H4 := vl h4
  have HBW := vl hbW
  have HX1 := vl hx1
  have HX2 := vl hx2
  have HSW := vl hsW
  have HW1 := vl hW1
  clear h1 h2 h3 h4 hbW hx1 hx2 hsW hW1 hx0 hs0 hb0 hb00
  go_enter Tryz.func14, Tryz.ntmps14
  go_wp2_with fail
  rw [← HW1.out]
  refine HF.out.mono ?_
  rintro e w1 ⟨rfl, hb⟩
  have e1 := (hb.block w.heap.size (by have := HSW.out; omega)).trans HX1.out
  have e2 := (hb.block (w.heap.size + 1) (by have := HSW.out; omega)).trans HX2.out
  have c0 : w1.cell? ⟨w.heap.size, 0, none⟩ = some (.string m) := by simp only [World.cell?, e1]; rfl
  have d0 : w1.cell? ⟨w.heap.size + 1, 0, none⟩ = some (.string m) := by simp only [World.cell?, e2]; rfl
  have c1 : w1.cell? ⟨w.heap.size, 1, none⟩ = some (.string p) := by simp only [World.cell?, e1]; rfl
  have d1 : w1.cell? ⟨w.heap.size + 1, 1, none⟩ = some (.string p) := by simp only [World.cell?, e2]; rfl
  have c2 : w1.cell? ⟨w.heap.size, 2, none⟩ = some (.string h) := by simp only [World.cell?, e1]; rfl
  have d2 : w1.cell? ⟨w.heap.size + 1, 2, none⟩ = some (.string h) := by simp only [World.cell?, e2]; rfl
  have c3 : w1.cell? ⟨w.heap.size, 4, none⟩ = some (.slice ba bn bc) := by simp only [World.cell?, e1]; rfl
  have d3 : w1.cell? ⟨w.heap.size + 1, 4, none⟩ = some (.slice ba2 bn bc2) := by simp only [World.cell?, e2]; rfl
  have HB : Vl (Below w.heap.size w w1) := HBW.out.trans (hb.mono HBW.out.size)
  have cv1 := (H3.out.below HB.out).conv
  have cv2 := (H4.out.below HB.out).conv
  clear hb HF e1 e2 HX1 HX2 HSW HW1 HBW
  go_wp2
  go_ret
  exact ⟨by first | rfl | simp, HB.out⟩
end Go.Proofs.YtglmppadhlkkgagGreatDoor
/-
  FROM THE ONE TO THE OTHER: FieldsClean, over what the developers' Clean does. No claim by itself.
-/
namespace Go.Proofs.YtglmppadhlkkgagGreatDoor
open Go Go.RowKit Go.Maps
set_option maxRecDepth 100000
def bConn : ByteArray := ⟨#[99, 111, 110, 110, 101, 99, 116, 105, 111, 110]⟩
def fact0 : List (ByteArray × ByteArray) := [(⟨#[99, 111, 110, 110, 101, 99, 116, 105, 111, 110]⟩, ⟨#[97, 44, 32, 98]⟩), (⟨#[98]⟩, ⟨#[49]⟩), (⟨#[99]⟩, ⟨#[]⟩)]
theorem fact_clean : cleanB fact0 = [(⟨#[99]⟩, ⟨#[]⟩)] := by decide
theorem row_made (w : World) (L : List (ByteArray × ByteArray)) (xs : Array Value) (hx : xs = (fcells L).toArray) (n : Nat) (hn : n = L.length) (hm : n ≤ maxLen) : FRow (w.alloc (.cells xs 51)) w.heap.size 0 n n L := by
  subst hx hn
  have hh : (w.alloc (.cells (fcells L).toArray 51)).heap[w.heap.size]? = some (.cells (fcells L).toArray 51 (0, 0)) := heap_alloc_new w _
  refine ⟨rfl, Nat.le_refl _, hm, fun t ht => ?_, fun t ht => ?_⟩
  · have := (fcells_at L t ht).1
    simp only [World.cell?, hh]
    simpa [Nat.mul_comm] using this
  · have := (fcells_at L t ht).2
    simp only [World.cell?, hh]
    simpa [Nat.mul_comm] using this
theorem sub_step {α : Type} {x y : α} {c l : List α} (h : (x :: c).Sublist (y :: l)) (hne : y ≠ x) : (x :: c).Sublist l := by
  cases h with
  | cons _ h => exact h
  | cons_cons _ h => exact absurd rfl hne
theorem sub_hit {α : Type} {x : α} {c l : List α} (h : (x :: c).Sublist (x :: l)) : c.Sublist l := by
  cases h with
  | cons _ h => exact List.Sublist.trans (List.sublist_cons_self _ _) h
  | cons_cons _ h => exact h
theorem clean_sub' (L : List (ByteArray × ByteArray)) : (cleanB L).Sublist L := List.filter_sublist
theorem drop_get {L : List (ByteArray × ByteArray)} {k : Nat} (h : k < L.length) : L.drop k = L.getD k fnone :: L.drop (k + 1) := by
  rw [List.drop_eq_getElem_cons h, List.getD, List.getElem?_eq_getElem h]
  rfl
theorem clean_nm {L : List (ByteArray × ByteArray)} {i : Nat} (h : i < (cleanB L).length) : btwL (unums ((cleanB L).getD i fnone).1) = false ∧ unums ((cleanB L).getD i fnone).1 ≠ lengthN := by
  have hm : (cleanB L).getD i fnone ∈ cleanB L := by rw [List.getD, List.getElem?_eq_getElem h]; exact List.getElem_mem _
  have : (unums ((cleanB L).getD i fnone).1, unums ((cleanB L).getD i fnone).2) ∈ cleanL (fdsOf L) := by
    rw [← fds_clean]
    exact List.mem_map_of_mem hm
  exact clean_names this
theorem nm_lits {n : ByteArray} (h1 : btwL (unums n) = false) (h2 : unums n ≠ lengthN) : ((n.toList == [99, 111, 110, 110, 101, 99, 116, 105, 111, 110]) = false ∧ (n.toList == [99, 111, 100, 105, 110, 103]) = false ∧ (n.toList == [107, 101, 101, 112]) = false ∧ (n.toList == [117, 112, 103, 114, 97, 100, 101]) = false ∧ (n.toList == [108, 101, 110, 103, 116, 104]) = false) := by
  have hx := of_decide_eq_false h1
  refine ⟨?_, ?_, ?_, ?_, ?_⟩ <;> rw [beq_eq_false_iff_ne]
  · exact fun e => hx (Or.inl (yL_conn.1 e))
  · exact fun e => hx (Or.inr (Or.inl (yL_coding.1 e)))
  · exact fun e => hx (Or.inr (Or.inr (Or.inl (yL_keep.1 e))))
  · exact fun e => hx (Or.inr (Or.inr (Or.inr (yL_upgrade.1 e))))
  · exact fun e => h2 (yL_length.1 e)
theorem ycells_one (L : List (ByteArray × ByteArray)) : ∀ u ∈ fcells L, u.oneCell' = true := by
  intro u hu
  obtain ⟨f, _, hf⟩ := List.mem_flatMap.1 hu
  simp at hf
  rcases hf with rfl | rfl <;> rfl
/-- Append of a row of fields. -/
theorem wpList_fapps {ops : Array Oper} {rest : List Oper} {o : Oper} {a : Act} {Q : Exit → Act → World → Prop} (w : World) (hgd : o.guard = none) (s x : Operand)
    (ho : o.op = .call { callee := .builtin .append, args := #[s, x], argTypes := #[22, 22] }) (base : Nat) (v : Value) (FL : List (ByteArray × ByteArray)) (L : List (ByteArray × ByteArray)) (xa : Option Addr) (len cap : Nat) (hs : a.eval s = v) (hown : FOwn w base v FL)
    (hx : a.eval x = .slice xa len cap) (hz : xa = none → cap = 0) (hA : FArg w xa len cap L) (hlen : FL.length + len < 4398046511104) (hbase : base ≤ w.heap.size)
    (h : ∀ v' w', FOwn w' base v' (FL ++ L) → w.grownBy w' v.ownBlock → wpList Tryz.prog ops Q rest (a.put o.dst v') w') : wpList Tryz.prog ops Q (o :: rest) a w := by
  obtain ⟨i0, hi, hz0, hz1, hz2⟩ := info_parts n_infoF
  cases xa with
  | none =>
    have hc := hz rfl
    subst hc
    rcases hA with ⟨rfl, rfl⟩ | ⟨g, off, hg, _⟩
    · refine wpList_append_own_none hgd s x 22 ho base 51 i0 2 Tryz.underlying22 hi v FL.length _ hs hown hx ?_
      exact h v w (by rw [List.append_nil]; exact hown) (World.grownBy.refl w _)
    · cases hg
  | some ad =>
    refine wpList_append_own _ hgd s x 22 ho base 51 i0 (.agg #[.string ⟨#[]⟩, .string ⟨#[]⟩]) 2 32 Tryz.underlying22 hi hz0 hz1 hz2 rfl (by decide) v FL.length _ hs hown ad len cap (fcells L) hx ?_ ?_ ?_ (by unfold maxLen; omega) (by omega) hbase ?_
    · rw [fcells_len, hA.len]
    · intro j y hj
      rcases hA with ⟨rfl, rfl⟩ | ⟨g, off, hg, hr⟩
      · simp [fcells] at hj
      · cases hg
        have hjl : j < (fcells L).length := by
          rcases Nat.lt_or_ge j (fcells L).length with h1 | h1
          · exact h1
          · rw [List.getElem?_eq_none h1] at hj; cases hj
        rw [fcells_len, hr.hlen] at hjl
        rw [n_add]
        rcases Nat.mod_two_eq_zero_or_one j with e | e
        · have hc := hr.hname (j / 2) (by omega)
          have hf := (fcells_at L (j / 2) (by rw [hr.hlen]; omega)).1
          rw [show 2 * (j / 2) = j by omega, hj] at hf
          rw [show off + j = off + j / 2 * 2 by omega, hc, hf]
        · have hc := hr.hvalue (j / 2) (by omega)
          have hf := (fcells_at L (j / 2) (by rw [hr.hlen]; omega)).2
          rw [show 2 * (j / 2) + 1 = j by omega, hj] at hf
          rw [show off + j = off + j / 2 * 2 + 1 by omega, hc, hf]
    · intro y hy
      exact ycells_one L y hy
    · intro v' w' h1 h2 _
      refine h v' w' ?_ h2
      rw [← fcells_append] at h1
      show World.ownsRow _ _ _ _ _ _ _
      rw [List.length_append, hA.len]
      exact h1
end Go.Proofs.YtglmppadhlkkgagGreatDoor
/-
  FROM THE ONE TO THE OTHER: the developers' cutCookies. No claim by itself.
-/
namespace Go.Proofs.YtglmppadhlkkgagGreatDoor
open Go Go.RowKit Go.Maps
set_option maxRecDepth 100000
def VSm (L : List (ByteArray × ByteArray)) : Prop := ∀ t, (L.getD t fnone).1.size ≤ 1048576 ∧ (L.getD t fnone).2.size ≤ 1048576
theorem VSm.vok {L : List (ByteArray × ByteArray)} (h : VSm L) : VOk L := fun t => ⟨by have := (h t).1; omega, by have := (h t).2; omega⟩
def bCook : ByteArray := ⟨#[99, 111, 111, 107, 105, 101]⟩
theorem fds_app (A B : List (ByteArray × ByteArray)) : fdsOf (A ++ B) = fdsOf A ++ fdsOf B := by simp [fdsOf]
theorem pcs_take {L : List (ByteArray × ByteArray)} {k : Nat} (h : k < L.length) : (fdsOf (L.take (k + 1))).flatMap pcsL = (fdsOf (L.take k)).flatMap pcsL ++ pcsL (unums (L.getD k fnone).1, unums (L.getD k fnone).2) := by
  unfold fdsOf
  rw [List.take_add_one, List.getElem?_eq_getElem h, List.getD, List.getElem?_eq_getElem h, List.map_append, List.flatMap_append]
  congr 1
  simp
theorem pcs_one (f : Fd) (M : Nat) (h : f.2.length ≤ M) : (pcsL f).length ≤ M + 1 := by
  unfold pcsL
  split
  · rw [List.length_map]
    exact Nat.le_trans (cut2_len _ _ _) (by omega)
  · simp
theorem pcs_len : ∀ (L : List Fd) (M : Nat), (∀ f ∈ L, f.2.length ≤ M) → (L.flatMap pcsL).length ≤ L.length * (M + 1)
  | [], _, _ => by simp
  | f :: L, M, h => by
    have ih := pcs_len L M (fun g hg => h g (List.mem_cons_of_mem _ hg))
    have h1 := pcs_one f M (h f (List.mem_cons_self ..))
    rw [List.flatMap_cons, List.length_append, List.length_cons, Nat.add_mul]
    omega
theorem VSm.pcs {L : List (ByteArray × ByteArray)} (h : VSm L) (hl : L.length ≤ 1048576) (k : Nat) : ((fdsOf (L.take k)).flatMap pcsL).length ≤ 1099512676352 := by
  have h1 := pcs_len (fdsOf (L.take k)) 1048576 (fun f hf => by
    unfold fdsOf at hf
    obtain ⟨x, hx, rfl⟩ := List.mem_map.1 hf
    obtain ⟨i, hi, rfl⟩ := List.getElem_of_mem (List.mem_of_mem_take hx)
    have := (h i).2
    rw [List.getD, List.getElem?_eq_getElem hi] at this
    show (unums _).length ≤ _
    rw [unums_len]
    exact this)
  have h2 : (fdsOf (L.take k)).length ≤ 1048576 := by
    unfold fdsOf
    rw [List.length_map, List.length_take]
    omega
  exact Nat.le_trans h1 (Nat.le_trans (Nat.mul_le_mul_right _ h2) (by decide))
theorem ck_take {PS : List ByteArray} {j : Nat} (h : j < PS.length) : (PS.take (j + 1)).map (fun p => (cookieN, unums p)) = (PS.take j).map (fun p => (cookieN, unums p)) ++ [(cookieN, unums (PS.getD j ByteArray.empty))] := by
  rw [List.take_add_one, List.getElem?_eq_getElem h, List.getD, List.getElem?_eq_getElem h, List.map_append]
  rfl
/-- The pieces' block. -/
def PB (w : World) (sb : Nat) (PS : List ByteArray) : Prop := w.heap[sb]? = some (.cells (PS.map Value.string).toArray 9 (0, 0))
theorem PB.cell {w : World} {sb : Nat} {PS : List ByteArray} (h : PB w sb PS) (j : Nat) (hj : j < PS.length) : w.cell? ⟨sb, j, none⟩ = some (.string (PS.getD j ByteArray.empty)) := by
  have h' : w.heap[sb]? = some (.cells (PS.map Value.string).toArray 9 (0, 0)) := h
  simp only [World.cell?, h']
  simp [List.getD, List.getElem?_eq_getElem hj]
theorem PB.lt {w : World} {sb : Nat} {PS : List ByteArray} (h : PB w sb PS) : sb < w.heap.size := (Array.getElem?_eq_some_iff.1 h).1
theorem PB.below {w w' : World} {sb : Nat} {PS : List ByteArray} (h : PB w sb PS) (hb : Below w.heap.size w w') : PB w' sb PS := (hb.block sb h.lt).trans h
theorem PB.made (w : World) (PS : List ByteArray) : PB (w.alloc (.cells (PS.map Value.string).toArray 9)) w.heap.size PS := heap_alloc_new w _
theorem fown_ne {w : World} {base sb : Nat} {v : Value} {FL : List (ByteArray × ByteArray)} {PS : List ByteArray} (h : FOwn w base v FL) (hp : PB w sb PS) : ∀ k, v.ownBlock = some k → sb ≠ k := by
  intro k hk e
  subst e
  obtain ⟨_, ⟨rfl, _⟩ | ⟨g, cap, cur, rfl, _, hc, _⟩⟩ := id h
  · cases hk
  · obtain rfl : g = sb := by injection hk
    have h' : w.heap[g]? = some (.cells (PS.map Value.string).toArray 9 (0, 0)) := hp
    rw [h'] at hc
    injection hc with hc
    injection hc with _ ht _
    exact absurd ht (by decide)
theorem PB.grown {w w' : World} {sb : Nat} {row : Option Nat} {PS : List ByteArray} (h : PB w sb PS) (hg : w.grownBy w' row) (hr : ∀ k, row = some k → sb ≠ k) : PB w' sb PS := (hg.block sb h.lt (fun e => hr sb e.symm rfl)).trans h
set_option maxHeartbeats 4000000 in
theorem xcut_row (g off len cap : Nat) (L : List (ByteArray × ByteArray)) (w : World) (hr : FRow w g off len cap L) (hl : len ≤ 1048576) (hs : VSm L) (hm : mxP w) :
    Calls Tryz.prog 43 #[.slice (some ⟨g, off, none⟩) len cap] w fun e w' => ∃ v FL, e = .returned v ∧ FOwn w' w.heap.size v FL ∧ fdsOf FL = (fdsOf L).flatMap pcsL ∧ Below w.heap.size w w' := by
  have HR := vl hr
  have HS := vl hs
  have HM := vl hm
  have HNL := vl (hs.pcs (by rw [hr.hlen]; exact hl))
  have hcap := hr.hcap
  have hmax := hr.hmax
  unfold maxLen at hmax
  have hLl := hr.hlen
  clear hr hs hm
  go_enter Tryz.func43, Tryz.ntmps43
  go_wp2_with fail
  go_loopw [9, 2] (fun i x wr => ∃ (k : Nat) (FL : List (ByteArray × ByteArray)), i = .int .i64 k ∧ k ≤ len ∧ Vl (FOwn wr w.heap.size x FL) ∧ Vl (fdsOf FL = (fdsOf (L.take k)).flatMap pcsL) ∧ Vl (Below w.heap.size w wr)) (fun i _ _ => len - (intOf i).toNat)
  case atStart => exact ⟨0, [], rfl, by omega, ⟨rfl, Or.inl ⟨rfl, rfl⟩⟩, rfl, Below.refl _ _⟩
  case round =>
    obtain ⟨k, FL, rfl, hk, HO, HE, HB⟩ := hrel
    by_cases hlt : k < len
    · have hlt' : (k : Int) < (len : Int) := by omega
      have hr2 := HR.out.below HB.out
      have c1 := hr2.hname k hlt
      have c2 := hr2.hvalue k hlt
      have HT := vl (pcs_take (L := L) (k := k) (by omega))
      have HN1 := HNL.out (k + 1)
      have HFL : Vl (FL.length = ((fdsOf (L.take k)).flatMap pcsL).length) := vl (by rw [← HE.out, fds_len])
      have hfl : FL.length ≤ 1099512676352 := by have := HNL.out k; have := HFL.out; omega
      obtain ⟨hsn, hsv⟩ := HS.out k
      generalize hf : L.getD k fnone = f at *
      obtain ⟨n, v⟩ := f
      have hsn : n.size ≤ 1048576 := hsn
      have hsv : v.size ≤ 1048576 := hsv
      clear hr2 hf HFL
      rw [← HE.out] at HT
      obtain ⟨X1, hX1⟩ : ∃ x, (fdsOf (L.take (k + 1))).flatMap pcsL = x := ⟨_, rfl⟩
      have HX := vl hX1
      rw [hX1] at HT HN1
      clear hX1 HE
      have hszr : w.heap.size ≤ wr.heap.size := HB.out.size
      have HB1 : Vl (Below w.heap.size w (wr.alloc (.cells #[.string n, .string v] 51))) := HB.out.alloc HB.out.size _
      have HCK := vl (xcook_any n v (wr.alloc (.cells #[.string n, .string v] 51)))
      obtain ⟨b, hb⟩ : ∃ b, isCk (unums n, unums v) = b := ⟨_, rfl⟩
      rw [hb] at HCK
      have HBB := vl hb
      clear hb
      go_wp2_with fail
      refine HCK.out.mono ?_
      rintro e w1 ⟨rfl, hb1⟩
      rw [World.size_alloc] at hb1
      obtain ⟨d1, d2⟩ := cell2_below hb1
      have hs1 : wr.heap.size < w1.heap.size := by have := hb1.size; simp at this; omega
      have HB2 : Vl (Below w.heap.size w w1) := HB1.out.trans (hb1.mono (by omega))
      have HO1 := vl (fown_below HO.out (((Below.refl _ wr).alloc (Nat.le_refl _) _).trans (hb1.mono (by omega))))
      clear HCK hb1 HO HB HB1 c1 c2
      obtain ⟨sa, sc, hv⟩ := fown_shape HO1.out
      subst hv
      cases b with
      | false =>
        have HP : Vl (pcsL (unums n, unums v) = [(unums n, unums v)]) := vl (if_neg (of_decide_eq_false HBB.out))
        rw [HP.out] at HT
        go_wp2_with (at_builtin; refine wpList_fapp w1 rfl _ _ rfl w.heap.size (.slice sa FL.length sc) FL n v rfl HO1.out rfl (by omega) (by omega) ?_)
        intro v3 w3 ho3 hg3
        have hrow : ∀ k, (Value.slice sa FL.length sc).ownBlock = some k → w.heap.size ≤ k := fun k hk => (HO1.out.lt k hk).1
        have HB3 := vl (below_grown (HB2.out.alloc HB2.out.size (.cells #[.string n, .string v] 51)) hg3 (by rw [World.size_alloc]; omega) hrow)
        have HO3 := vl ho3
        clear ho3 hg3 hrow HO1 HB2 d1 d2
        go_wp2_with fail
        go_roundw
        case rel => exact ⟨k + 1, _, by go_num, by omega, HO3, vl (by rw [HX.out, HT.out, fds_app]; rfl), HB3⟩
        case measure => simp [intOf]; omega
      | true =>
        have HP : Vl (pcsL (unums n, unums v) = (cut2 59 32 (unums v)).map fun v => (cookieN, v)) := vl (if_pos (of_decide_eq_true HBB.out))
        rw [HP.out] at HT
        have HSP := vl (xsplit_any 59 32 v w1 (HM.out.below HB2.out) (by omega))
        go_wp2_with fail
        refine HSP.out.mono ?_
        rintro e w2 ⟨PS, rfl, rfl, hpc, hps⟩
        have HPS := vl hps
        have HP0 := vl (PB.made w1 PS)
        have hpl : PS.length ≤ 1048577 := by
          have := cut2_len 59 32 (unums v)
          have e := congrArg List.length hpc
          rw [List.length_map] at e
          rw [unums_len] at this
          have e2 : PS.length = (cut2 59 32 (unums v)).length := e
          omega
        have HT2 : Vl (X1 = fdsOf FL ++ PS.map fun p => (cookieN, unums p)) := vl (by
          rw [HT.out]
          have : cut2 59 32 (unums v) = PS.map unums := hpc.symm
          rw [this, List.map_map]
          rfl)
        have HB3 : Vl (Below w.heap.size w (w1.alloc (.cells (PS.map Value.string).toArray 9))) := HB2.out.alloc HB2.out.size _
        have HO2 : Vl (FOwn (w1.alloc (.cells (PS.map Value.string).toArray 9)) w.heap.size (.slice sa FL.length sc) FL) := HO1.out.alloc _
        obtain ⟨W2, hW2⟩ : ∃ x, w1.alloc (.cells (PS.map Value.string).toArray 9) = x := ⟨_, rfl⟩
        rw [hW2] at HP0 HB3 HO2 ⊢
        have hsb : w1.heap.size < W2.heap.size := by rw [← hW2]; simp
        obtain ⟨sb, hsb0⟩ : ∃ x, w1.heap.size = x := ⟨_, rfl⟩
        rw [hsb0] at HP0 hsb hs1 ⊢
        clear hsb0 hW2 hpc hps HSP HO1 HB2 HT HP d1 d2
        go_wp2_with fail
        go_loopw [24, 2] (fun i x wx => ∃ (j : Nat) (GL : List (ByteArray × ByteArray)), i = .int .i64 j ∧ j ≤ PS.length ∧ Vl (GL.length = FL.length + j) ∧ Vl (FOwn wx w.heap.size x GL) ∧ Vl (fdsOf GL = fdsOf FL ++ (PS.take j).map fun p => (cookieN, unums p)) ∧ Vl (Below w.heap.size w wx) ∧ Vl (PB wx sb PS)) (fun i _ _ => PS.length - (intOf i).toNat)
        case atStart => exact ⟨0, FL, rfl, by omega, vl (by omega), HO2, vl (by simp), HB3, HP0⟩
        case round =>
          obtain ⟨j, GL, rfl, hj, HGL, HOj, HEj, HBj, HPj⟩ := hrel
          by_cases hjl : j < PS.length
          · have hjl' : (j : Int) < (PS.length : Int) := by omega
            have cp := HPj.out.cell j hjl
            have HTk := vl (ck_take hjl)
            generalize PS.getD j ByteArray.empty = s at *
            obtain ⟨ga, gc, hv⟩ := fown_shape HOj.out
            subst hv
            have hsj : w.heap.size ≤ wr.heap.size := HBj.out.size
            have hgb : GL.length ≤ 1099512676352 + 1048577 := by have := HGL.out; omega
            go_wp2_with (at_builtin; refine wpList_fapp wr rfl _ _ rfl w.heap.size (.slice ga GL.length gc) GL ⟨#[99, 111, 111, 107, 105, 101]⟩ s rfl HOj.out rfl (by omega) (by omega) ?_)
            intro v3 w3 ho3 hg3
            have hrow : ∀ k, (Value.slice ga GL.length gc).ownBlock = some k → w.heap.size ≤ k := fun k hk => (HOj.out.lt k hk).1
            have HB4 := vl (below_grown (HBj.out.alloc HBj.out.size (.cells #[.string ⟨#[99, 111, 111, 107, 105, 101]⟩, .string s] 51)) hg3 (by rw [World.size_alloc]; omega) hrow)
            have HP4 := vl ((HPj.out.below ((Below.refl _ wr).alloc (Nat.le_refl _) (.cells #[.string ⟨#[99, 111, 111, 107, 105, 101]⟩, .string s] 51))).grown hg3 (fown_ne HOj.out HPj.out))
            have HO4 := vl ho3
            clear ho3 hg3 hrow HOj HBj HPj cp
            go_wp2_with fail
            go_roundw
            case rel => exact ⟨j + 1, _, by go_num, by omega, vl (by have := HGL.out; simp; omega), HO4, vl (by rw [HTk.out, fds_app, HEj.out, List.append_assoc]; rfl), HB4, HP4⟩
            case measure => simp [intOf]; omega
          · have hje : j = PS.length := by omega
            subst hje
            have HE5 : Vl (fdsOf GL = X1) := vl (by rw [HEj.out, HT2.out, List.take_length])
            clear HPj HEj HT2
            go_wp2_with fail
            go_roundw
            case rel => exact ⟨k + 1, GL, by go_num, by omega, HOj, vl (by rw [HX.out]; exact HE5.out), HBj⟩
            case measure => simp [intOf]; omega
    · have hke : k = len := by omega
      subst hke
      have HE2 : Vl (L.take k = L) := List.take_of_length_le (by omega)
      rw [HE2.out] at HE
      go_wp2_with fail
      go_ret
      exact ⟨_, FL, rfl, HO.out, HE.out, HB.out⟩
theorem xcut_any (a : Option Addr) (len cap : Nat) (L : List (ByteArray × ByteArray)) (w : World) (hA : FArg w a len cap L) (hl : len ≤ 1048576) (hs : VSm L) (hm : mxP w) :
    Calls Tryz.prog 43 #[.slice a len cap] w fun e w' => ∃ v FL, e = .returned v ∧ FOwn w' w.heap.size v FL ∧ fdsOf FL = (fdsOf L).flatMap pcsL ∧ Below w.heap.size w w' := by
  rcases hA with ⟨rfl, rfl⟩ | ⟨g, off, rfl, hr⟩
  · go_enter Tryz.func43, Tryz.ntmps43
    go_wp2_with fail
    go_loopw [9, 2] (fun i x wr => i = .int .i64 0 ∧ x = .slice none 0 0 ∧ wr = w) (fun _ _ _ => 0)
    case atStart => exact ⟨rfl, rfl, rfl⟩
    case round =>
      obtain ⟨rfl, rfl, rfl⟩ := hrel
      go_wp2_with fail
      go_ret
      exact ⟨_, [], rfl, ⟨rfl, Or.inl ⟨rfl, rfl⟩⟩, rfl, Below.refl _ _⟩
  · exact xcut_row g off len cap L w hr hl hs hm
end Go.Proofs.YtglmppadhlkkgagGreatDoor
