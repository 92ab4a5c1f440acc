/-
  FROM THE ONE TO THE OTHER: FieldsClean, over what the developers' Clean does. No claim by itself.
-/
import Derived.Test.YtkaihfminlincagDoorYcl6
namespace Go.Proofs.YtkaihfminlincagDoor
open Go Go.RowKit Go.Maps
set_option maxRecDepth 100000
theorem fact_vok : VOk fact0 := fun t => by
  match t with
  | 0 => decide
  | 1 => decide
  | 2 => decide
  | t + 3 => simp [fact0, fnone]
theorem one_own (w : World) (n v : ByteArray) : FOwn (w.alloc (.cells #[.string n, .string v] 25)) w.heap.size (.slice (some ⟨w.heap.size, 0, none⟩) 1 1) [(n, v)] := by
  exact ⟨rfl, .inr ⟨w.heap.size, 1, #[.string n, .string v], rfl, Nat.le_refl _, heap_alloc_new w _, Nat.le_refl _, by decide, rfl, by simp [fcells]⟩⟩
theorem more_vok {L : List (ByteArray × ByteArray)} (h : VOk L) {n : ByteArray} (hn : n.size ≤ 4194304) : VOk (([(bConn, n)] : List (ByteArray × ByteArray)) ++ L) := fun t => by
  cases t with
  | zero => exact ⟨by show (10 : Nat) ≤ _; omega, hn⟩
  | succ t => exact h t
set_option maxHeartbeats 8000000 in
theorem xcleans_ok (a : Option Addr) (len cap : Nat) (L : List (ByteArray × ByteArray)) (nm : ByteArray) (w : World) (hA : FArg w a len cap L) (hz : a = none → cap = 0) (hl : len ≤ 4194303) (hs : VOk L) (hn : nm.size ≤ 4194304) (hm : mxP w) :
    Calls Tryd.prog 3 #[.slice a len cap, .string nm] w fun e w' => e = .returned (.bool true) ∧ Below w.heap.size w w' := by
  have HA := vl hA
  have HS := vl hs
  have HM := vl hm
  have hLl := hA.len
  clear hA hs hm
  have hb0 : Vl (Below w.heap.size w (w.alloc (.cells #[.string ⟨#[99, 111, 110, 110, 101, 99, 116, 105, 111, 110]⟩, .string ⟨#[97, 44, 32, 98]⟩, .string ⟨#[98]⟩, .string ⟨#[49]⟩, .string ⟨#[99]⟩, .string ⟨#[]⟩] 25))) := (Below.refl _ w).alloc (Nat.le_refl _) _
  have HF0 := vl (xclean_any (some ⟨w.heap.size, 0, none⟩) 3 3 fact0 _ (Or.inr ⟨w.heap.size, 0, rfl, row_made w fact0 #[.string ⟨#[99, 111, 110, 110, 101, 99, 116, 105, 111, 110]⟩, .string ⟨#[97, 44, 32, 98]⟩, .string ⟨#[98]⟩, .string ⟨#[49]⟩, .string ⟨#[99]⟩, .string ⟨#[]⟩] rfl 3 rfl (by decide)⟩) (by omega) fact_vok (HM.out.below hb0.out))
  rw [fact_clean] at HF0
  go_enter Tryd.func3, Tryd.ntmps3
  go_wp2_with fail
  refine HF0.out.mono ?_
  rintro e w1 ⟨v0, rfl, ho0, hb1⟩
  obtain ⟨sa, sc, rfl⟩ := fown_shape ho0
  have HB1 : Vl (Below w.heap.size w w1) := hb0.out.trans (hb1.mono (by simp))
  obtain ⟨_, hf0⟩ := nfrow_of ho0
  rcases hf0 with ⟨h0, _⟩ | ⟨g0, off0, rfl, hr0⟩
  · cases h0
  have c0 := hr0.hname 0 (by decide)
  have hc0 := hr0.hcap
  simp only [List.length_singleton] at hc0 c0
  have c0' : w1.cell? ⟨g0, off0, none⟩ = some (.string ⟨#[99]⟩) := c0
  clear hr0 ho0 hb1 HF0 c0 hb0
  have HCL := vl (xclean_any a len cap L w1 (HA.out.below HB1.out) (by omega) HS.out (HM.out.below HB1.out))
  go_wp2_with fail
  refine HCL.out.mono ?_
  rintro e w2 ⟨vc, rfl, hoc, hb2⟩
  have hs12 := HB1.out.size
  have HB2 : Vl (Below w.heap.size w w2) := HB1.out.trans (hb2.mono hs12)
  have HSUB := vl (clean_sub' L)
  have HNM := vl (fun i h => clean_nm (L := L) (i := i) h)
  have HFD := vl (fds_clean L)
  obtain ⟨C, hC⟩ : ∃ C, cleanB L = C := ⟨_, rfl⟩
  rw [hC] at hoc HSUB HNM HFD
  clear hC hb2 HCL c0'
  obtain ⟨ca, cc, rfl⟩ := fown_shape hoc
  have HFC := vl (nfrow_of hoc).2
  have hcl : C.length ≤ 4194303 := by have := HSUB.out.length_le; omega
  clear hoc
  go_wp2_with fail
  go_loopw [8, 7] (fun i k wr => ∃ (i' k' : Nat), i = .int .i64 i' ∧ k = .int .i64 k' ∧ i' ≤ C.length ∧ k' ≤ len ∧ Vl ((C.drop i').Sublist (L.drop k')) ∧ Vl (Below w2.heap.size w2 wr)) (fun i _ _ => C.length - (intOf i).toNat)
  case atStart => exact ⟨0, 0, rfl, rfl, by omega, by omega, by simpa using HSUB, Below.refl _ _⟩
  case round =>
    obtain ⟨i, k, rfl, rfl, hi, hk, HSB, HBR⟩ := hrel
    by_cases hlt : i < C.length
    · have hlt' : (i : Int) < (C.length : Int) := by omega
      rcases HFC.out.below HBR.out with ⟨h0, _⟩ | ⟨gc, offc, rfl, hrc⟩
      · omega
      have c1 := hrc.hname i hlt
      have hcc := hrc.hcap
      obtain ⟨q1, q2⟩ := HNM.out i hlt
      obtain ⟨l1, l2, l3, l4, l5⟩ := nm_lits q1 q2
      have HG := vl (drop_get hlt)
      generalize hx : C.getD i fnone = x at *
      have HX := vl hx
      clear hx
      obtain ⟨xn, xv⟩ := x
      clear q1 q2 hrc
      have HBR' := HBR
      go_wp2_with fail
      go_loopw [7] (fun k wr => ∃ (k' : Nat), k = .int .i64 k' ∧ k' ≤ len ∧ Vl (((xn, xv) :: C.drop (i + 1)).Sublist (L.drop k')) ∧ Vl (Below w2.heap.size w2 wr)) (fun k _ => len - (intOf k).toNat)
      case atStart => exact ⟨k, rfl, hk, vl (by rw [← HG.out]; exact HSB.out), HBR'.out⟩
      case round =>
        obtain ⟨k, rfl, hk, HSk, HBk⟩ := hrel
        have hkl : k < len := by
          rcases Nat.lt_or_ge k len with h | h
          · exact h
          · have := HSk.out.length_le
            rw [List.length_drop] at this
            simp at this
            omega
        have hkl' : (k : Int) < (len : Int) := by omega
        have hBw : Below w.heap.size w wr := HB2.out.trans (HBk.out.mono HB2.out.size)
        rcases HA.out.below hBw with ⟨h0, _⟩ | ⟨g, off, ea, hr⟩
        · omega
        subst ea
        rcases HFC.out.below HBk.out with ⟨h0, _⟩ | ⟨gc', offc', ea, hrc⟩
        · omega
        cases ea
        have d1 := hrc.hname i hlt
        have d2 := hrc.hvalue i hlt
        rw [HX.out] at d1 d2
        have d3 := hr.hname k hkl
        have d4 := hr.hvalue k hkl
        have hcap := hr.hcap
        have hmax := hr.hmax
        have hmax2 := hrc.hmax
        unfold maxLen at hmax hmax2
        have HGk := vl (drop_get (L := L) (k := k) (by omega))
        generalize L.getD k fnone = y at *
        obtain ⟨yn, yv⟩ := y
        have hgd := eqGuardF
        have hne := run_neqF yn yv xn xv
        have hk0 : (0 : Int) ≤ (k : Int) := by omega
        have hi0 : (0 : Int) ≤ (i : Int) := by omega
        rw [HGk.out] at HSk
        clear hr hrc hBw HGk
        by_cases he : (yn.toList == xn.toList && yv.toList == xv.toList) = true
        · rw [he] at hne
          have HEQ : Vl ((yn, yv) = (xn, xv)) := vl (by
            simp only [Bool.and_eq_true, beq_iff_eq] at he
            have e1 : yn = xn := ByteArray.ext (by have := he.1; rw [ByteArray.toList_eq, ByteArray.toList_eq] at this; exact Array.toList_inj.1 this)
            have e2 : yv = xv := ByteArray.ext (by have := he.2; rw [ByteArray.toList_eq, ByteArray.toList_eq] at this; exact Array.toList_inj.1 this)
            rw [e1, e2])
          clear he
          go_wp2_with fail
          go_quiet (fail)
          go_wp2_with fail
          rw [HEQ.out] at HSk
          have HSN := vl (sub_hit HSk.out)
          have HBN := vl (drewN_below HBk.out nq)
          go_roundw
          case rel => exact ⟨i + 1, k + 1, by go_num, by go_num, by omega, by omega, HSN, HBN⟩
          case measure => simp [intOf]; omega
        · have he' : (yn.toList == xn.toList && yv.toList == xv.toList) = false := by simpa using he
          rw [he'] at hne
          have HNE : Vl ((yn, yv) ≠ (xn, xv)) := vl (fun e => by
            injection e with e1 e2
            apply he
            rw [e1, e2]
            simp)
          clear he he'
          go_wp2_with fail
          go_quiet (fail)
          go_wp2_with fail
          have HSN := vl (sub_step HSk.out HNE.out)
          have HBN := vl (drewN_below HBk.out nq)
          go_roundw
          case rel => exact ⟨k + 1, by go_num, by omega, HSN, HBN⟩
          case measure => simp [intOf]; omega
    · have hie : i = C.length := by omega
      subst hie
      have HBx : Vl (Below w.heap.size w wr) := vl (HB2.out.trans (HBR.out.mono HB2.out.size))
      have HT := vl (rtoken_any nm wr (by omega))
      obtain ⟨b, hb⟩ : ∃ b, tokL (unums nm) = b := ⟨_, rfl⟩
      rw [hb] at HT
      have HTB := vl hb
      clear hb HSB
      go_wp2_with fail
      refine HT.out.mono ?_
      rintro e w3 ⟨rfl, rfl⟩
      clear HT
      cases b with
      | false =>
        go_wp2_with fail
        go_ret
        exact ⟨rfl, HBx.out⟩
      | true =>
        have hsw : w.heap.size ≤ wr.heap.size := HBx.out.size
        have HO1 := vl (one_own wr bConn nm)
        have HA1 : Vl (FArg (wr.alloc (.cells #[.string bConn, .string nm] 25)) a len cap L) := vl (HA.out.below (HBx.out.alloc hsw _))
        have HBy : Vl (Below w.heap.size w (wr.alloc (.cells #[.string bConn, .string nm] 25))) := vl (HBx.out.alloc hsw _)
        have HCM := vl (clean_more HTB.out (fdsOf L))
        unfold bConn at HO1 HA1 HBy
        obtain ⟨w4, hw4⟩ : ∃ x, wr.alloc (.cells #[.string ⟨#[99, 111, 110, 110, 101, 99, 116, 105, 111, 110]⟩, .string nm] 25) = x := ⟨_, rfl⟩
        have hs4 : wr.heap.size < w4.heap.size := by rw [← hw4]; simp
        rw [hw4] at HO1 HA1 HBy
        go_wp2_with (at_builtin; refine wpList_fapps w4 rfl _ _ rfl wr.heap.size (.slice (some ⟨wr.heap.size, 0, none⟩) 1 1) [(⟨#[99, 111, 110, 110, 101, 99, 116, 105, 111, 110]⟩, nm)] L a len cap rfl HO1.out rfl hz HA1.out (by simp; omega) (by omega) ?_)
        intro v5 w5 ho5 hg5
        have hrow : ∀ k, (Value.slice (some ⟨wr.heap.size, 0, none⟩) 1 1).ownBlock = some k → w.heap.size ≤ k := fun k hk => by
          have := (HO1.out.lt k hk).1
          omega
        have HB5 := vl (below_grown HBy.out hg5 HBy.out.size hrow)
        have hl5 : (((⟨#[99, 111, 110, 110, 101, 99, 116, 105, 111, 110]⟩ : ByteArray), nm) :: L).length = len + 1 := by simp [hLl]
        obtain ⟨va, vc, hv⟩ := fown_shape ho5
        rw [hl5] at hv
        subst hv
        have HF5 := vl (nfrow_of ho5).2
        have HD := vl (xclean_any va (len + 1) vc _ w5 HF5.out (by omega) (more_vok HS.out hn) (HM.out.below HB5.out))
        have hs5 : w.heap.size ≤ w5.heap.size := HB5.out.size
        clear ho5 hg5 hrow HO1 HA1 HBy HF5 hw4 hs4 hl5
        go_wp2_with fail
        refine HD.out.mono ?_
        rintro e w6 ⟨vd, rfl, hod, hb6⟩
        have HB6 : Vl (Below w.heap.size w w6) := vl (HB5.out.trans (hb6.mono hs5))
        have HFE := vl (fds_clean (((⟨#[99, 111, 110, 110, 101, 99, 116, 105, 111, 110]⟩, nm) :: L) : List (ByteArray × ByteArray)))
        obtain ⟨E, hE⟩ : ∃ C, cleanB (((⟨#[99, 111, 110, 110, 101, 99, 116, 105, 111, 110]⟩, nm) :: L) : List (ByteArray × ByteArray)) = C := ⟨_, rfl⟩
        rw [hE] at hod HFE
        clear hE hb6 HD HB5
        obtain ⟨da, dc, rfl⟩ := fown_shape hod
        have HFD6 := vl (nfrow_of hod).2
        have HE2 : Vl (fdsOf E = cleanL ((connN, unums nm) :: fdsOf L)) := HFE
        have hel : E.length ≤ C.length := by
          have h1 := congrArg List.length HE2.out
          have h2 := congrArg List.length HFD.out
          have h3 := HCM.out.2
          unfold fdsOf at h1 h2
          rw [List.length_map] at h1 h2
          unfold fdsOf at h3
          omega
        have HNE : Vl (∀ i, i < E.length → (E.getD i fnone).1.toList ≠ nm.toList) := vl (fun i hi e => by
          have hm : E.getD i fnone ∈ E := by rw [List.getD, List.getElem?_eq_getElem hi]; exact List.getElem_mem _
          have hm2 : (unums (E.getD i fnone).1, unums (E.getD i fnone).2) ∈ cleanL ((connN, unums nm) :: fdsOf L) := by
            rw [← HE2.out]
            exact List.mem_map_of_mem hm
          refine HCM.out.1 _ hm2 ?_
          show unums (E.getD i fnone).1 = unums nm
          have e1 : (E.getD i fnone).1 = nm := ByteArray.ext (by rw [ByteArray.toList_eq, ByteArray.toList_eq] at e; exact Array.toList_inj.1 e)
          rw [e1])
        clear hod HFE HE2 HCM HFD HNM HSUB HTB HM HS HA HFC HBR HBx HB2
        go_wp2_with fail
        go_loopw [13] (fun i wr => ∃ (i' : Nat), i = .int .i64 i' ∧ i' ≤ E.length ∧ wr = w6) (fun i _ => E.length - (intOf i).toNat)
        case atStart => exact ⟨0, rfl, by omega, rfl⟩
        case round =>
          obtain ⟨i, rfl, hi, rfl⟩ := hrel
          by_cases hlt : i < E.length
          · have hlt' : (i : Int) < (E.length : Int) := by omega
            rcases HFD6.out with ⟨h0, _⟩ | ⟨gc, offc, rfl, hrc⟩
            · omega
            have c1 := hrc.hname i hlt
            have hcc := hrc.hcap
            have hx := HNE.out i hlt
            generalize (E.getD i fnone).1 = x at *
            have hx' : (x.toList == nm.toList) = false := by simpa using hx
            clear hrc hx
            go_wp2_with fail
            go_roundw
            case rel => exact ⟨i + 1, by go_num, by omega, trivial⟩
            case measure => simp [intOf]; omega
          · have h6 : (E.length : Int) ≤ (C.length : Int) := by omega
            go_wp2_with fail
            go_ret
            exact ⟨rfl, HB6.out⟩
end Go.Proofs.YtkaihfminlincagDoor
