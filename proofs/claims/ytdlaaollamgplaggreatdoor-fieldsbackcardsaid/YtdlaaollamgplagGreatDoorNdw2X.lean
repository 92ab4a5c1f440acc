/-
  MESSAGES AS LINES: the developers' writer: checkFields. No claim by itself.
-/
import Derived.Shelf.RegionOpenPlain
import Derived.Test.YtdlaaollamgplagGreatDoorNdw1X
namespace Go.Proofs.YtdlaaollamgplagGreatDoor
open Go Go.RowKit Go.Shelf
set_option maxRecDepth 100000
/-- What is known of one field. -/
def FdT (FL : List (ByteArray × ByteArray)) (k : Nat) (n s : ByteArray) : Prop := fldsE (fdsOf FL) = fldsE ((unums n, unums s) :: (fdsOf FL).drop (k + 1))
theorem fd_bad {FL : List (ByteArray × ByteArray)} {k : Nat} {n s : ByteArray} (h : FdT FL k n s) (hb : (nameL (unums n) && plainL (unums s)) = false) : fldsE (fdsOf FL) = 2 := by
  rw [h]
  have : fldE (unums n, unums s) = 2 := by
    unfold fldE
    rw [if_neg]
    rintro ⟨x, y⟩
    simp only at x y
    rw [x, y] at hb
    cases hb
  show (if fldE (unums n, unums s) = 0 then _ else fldE (unums n, unums s)) = 2
  rw [this]
  rfl
theorem fd_three {FL : List (ByteArray × ByteArray)} {k : Nat} {n s : ByteArray} (h : FdT FL k n s) (h1 : nameL (unums n) = true) (h2 : plainL (unums s) = true) (h3 : takenB n = true) : fldsE (fdsOf FL) = 3 := by
  rw [h]
  have : fldE (unums n, unums s) = 3 := by
    unfold fldE
    rw [if_pos ⟨h1, h2⟩, if_pos (of_decide_eq_true h3)]
  show (if fldE (unums n, unums s) = 0 then _ else fldE (unums n, unums s)) = 3
  rw [this]
  rfl
theorem fd_next {FL : List (ByteArray × ByteArray)} {k : Nat} {n s : ByteArray} (h : FdT FL k n s) (h1 : nameL (unums n) = true) (h2 : plainL (unums s) = true) (h3 : takenB n = false) : fldsE (fdsOf FL) = fldsE ((fdsOf FL).drop (k + 1)) := by
  rw [h]
  have hn := of_decide_eq_false h3
  have : fldE (unums n, unums s) = 0 := fld_of h1 h2 (fun e => hn (Or.inl e)) (fun e => hn (Or.inr (Or.inl e))) (fun e => hn (Or.inr (Or.inr e)))
  show (if fldE (unums n, unums s) = 0 then _ else fldE (unums n, unums s)) = _
  rw [if_pos this]
set_option maxHeartbeats 4000000 in
theorem ncheckf_any (fa : Option Addr) (fn fc : Nat) (FL : List (ByteArray × ByteArray)) (w : World) (hA : FArg w fa fn fc FL) (hm : fn ≤ 4611686018427387904) (he : ∀ t, (FL.getD t fnone).1.size ≤ 140737488351232 ∧ (FL.getD t fnone).2.size ≤ 140737488351232) :
    Calls Tryz.prog 104 #[.slice fa fn fc] w fun e w' => e = .returned (errW (fldsE (fdsOf FL))) ∧ Below w.heap.size w w' := by
  have hlen := hA.len
  have HA := vl hA
  have HE := vl he
  clear hA he
  go_enter Tryz.func104, Tryz.ntmps104
  go_wp2_with fail
  go_loopw [7] (fun i wr => ∃ k : Nat, i = .int .i64 k ∧ k ≤ fn ∧ Vl (fldsE (fdsOf FL) = fldsE ((fdsOf FL).drop k)) ∧ Vl (Below w.heap.size w wr)) (fun i _ => fn - (intOf i).toNat)
  case atStart => exact ⟨0, rfl, by omega, rfl, Below.refl _ _⟩
  case round =>
    obtain ⟨k, rfl, hk, HK, HB⟩ := hrel
    by_cases hlt : k < fn
    · rcases (HA.out.below HB.out) with ⟨h0, _⟩ | ⟨g, off, rfl, hr⟩
      · omega
      have c1 := hr.hname k hlt
      have c2 := hr.hvalue k hlt
      have hcap := hr.hcap
      have hlt' : (k : Int) < (fn : Int) := by omega
      have HD := fds_drop (L := FL) (k := k) (by omega)
      have hsz := HE.out k
      obtain ⟨⟨n, s⟩, hf⟩ : ∃ f, FL.getD k fnone = f := ⟨_, rfl⟩
      rw [hf] at c1 c2 HD hsz
      have HF : Vl (FdT FL k n s) := by
        show fldsE _ = _
        rw [HK.out, HD]
      obtain ⟨W1, hW1⟩ : ∃ W1, wr.alloc (.cells #[.string n, .string s] 51) = W1 := ⟨_, rfl⟩
      have hbw : Below wr.heap.size wr W1 := by rw [← hW1]; exact (Below.refl _ _).alloc (Nat.le_refl _) _
      have hx1 : W1.heap[wr.heap.size]? = some (.cells #[.string n, .string s] 51 (0, 0)) := by rw [← hW1]; exact heap_alloc_new wr _
      have HB1 : Vl (Below w.heap.size w W1) := HB.out.trans (hbw.mono HB.out.size)
      obtain ⟨d0, d1, _, _⟩ := f2_cell hx1
      have hlt1 : wr.heap.size < W1.heap.size := (Array.getElem?_eq_some_iff.1 hx1).1
      have HZ : Vl (∀ w1, Below W1.drew.heap.size W1.drew w1 → w1.cell? ⟨wr.heap.size, 0, none⟩ = some (.string n) ∧ w1.cell? ⟨wr.heap.size, 1, none⟩ = some (.string s) ∧ Below w.heap.size w w1) := fun w1 hb => ⟨(hb.cell (p := ⟨wr.heap.size, 0, none⟩) hlt1).trans d0, (hb.cell (p := ⟨wr.heap.size, 1, none⟩) hlt1).trans d1, HB1.out.trans (((Below.refl _ W1).drew.trans hb).mono HB1.out.size)⟩
      have HN := vl (nnamef_any W1.drew)
      have HH : Vl (∀ (G : Value) (B : Nat) (W : World), MayF W B G isSmall → Calls Tryz.prog 102 #[formV 1 G, .string n] W fun e w' => e = .returned (.bool (nameL (unums n))) ∧ Below W.heap.size W w') := fun G B W hG => by
        have := nholds_any 1 G isSmall B n W hG hsz.1
        rw [form_name] at this
        exact this
      have HP : Vl (∀ W, Calls Tryz.prog 167 #[.string s] W fun e w' => e = .returned (.bool (plainL (unums s))) ∧ Below W.heap.size W w') := fun W => nplain_any0 s W hsz.2
      obtain ⟨b1, hb1⟩ : ∃ b, nameL (unums n) = b := ⟨_, rfl⟩
      obtain ⟨b2, hb2⟩ : ∃ b, plainL (unums s) = b := ⟨_, rfl⟩
      rw [hb1] at HH
      rw [hb2] at HP
      have HQ1 := vl hb1
      have HQ2 := vl hb2
      unfold formV at HN HH
      have HW1 := vl hW1
      clear hf hr hb1 hb2 HD hsz hbw hx1 hlt1 hW1
      cases b1 with
      | true =>
        go_wp2_with fail
        rw [HW1.out]
        clear HW1
        go_region_held3 (fun w1 => w1.cell? ⟨wr.heap.size, 0, none⟩ = some (.string n) ∧ w1.cell? ⟨wr.heap.size, 1, none⟩ = some (.string s))
          (first
            | go_keep
            | (exact ⟨(HZ.out _ hbc).1, (HZ.out _ hbc).2.1⟩)
            | (exact ⟨(HZ.out _ hbb).1, (HZ.out _ hbb).2.1⟩)
            | (exact ⟨(HZ.out _ hba).1, (HZ.out _ hba).2.1⟩))
          (first
            | (go_at_call 166; refine HN.out.mono ?_; rintro e wa ⟨G, rfl, hG, hba⟩)
            | (go_at_call 102; refine (HH.out G _ _ hG).mono ?_; rintro e wb ⟨rfl, hb0⟩; have hbb := hba.trans (hb0.mono hba.size))
            | (go_at_call 167; refine (HP.out _).mono ?_; rintro e wc ⟨rfl, hc0⟩; have hbc := hbb.trans (hc0.mono hbb.size)))
        obtain ⟨e0, e1, hbw⟩ := HZ.out _ hbc
        have HBW := vl hbw
        have HT := vl (ntaken_any n wc)
        clear HZ HN HH HP hba hbb hbc hb0 hc0 hG d0 d1 hbw
        cases b2 with
        | false =>
          have HX := vl (fd_bad HF.out (by rw [HQ1.out, HQ2.out]; rfl))
          go_wp2
          go_ret
          refine ⟨?_, HBW.out⟩
          rw [HX.out, errW_ne (by omega)]
          rfl
        | true =>
          obtain ⟨b3, hb3⟩ : ∃ b, takenB n = b := ⟨_, rfl⟩
          rw [hb3] at HT
          have HQ3 := vl hb3
          clear hb3
          cases b3 with
          | true =>
            have HX := vl (fd_three HF.out HQ1.out HQ2.out HQ3.out)
            go_wp2_with (go_at_call 168; refine HT.out.mono ?_; rintro e w' ⟨rfl, rfl⟩)
            go_ret
            refine ⟨?_, HBW.out⟩
            rw [HX.out, errW_ne (by omega)]
            rfl
          | false =>
            have HX := vl (fd_next HF.out HQ1.out HQ2.out HQ3.out)
            go_wp2_with (go_at_call 168; refine HT.out.mono ?_; rintro e w' ⟨rfl, rfl⟩)
            go_roundw
            case rel => exact ⟨k + 1, by go_num, by omega, HX.out, HBW.out⟩
            case measure => simp [intOf]; omega
      | false =>
        have HX := vl (fd_bad HF.out (by rw [HQ1.out]; rfl))
        go_wp2_with fail
        rw [HW1.out]
        clear HW1
        refine wp_region_any (by kernel_rfl) ?_
        change wpAny _ _ _ _ _ _ _ (World.drew _)
        refine wpAny_ready (rs := [0, 1]) (by kernel_rfl) (by simp) ?_
        refine AllReady.cons rfl (fun K hK => ?_) ?_
        · go_simp
          go_wp2_with (go_at_call 166; refine HN.out.mono ?_; rintro e wa ⟨G, rfl, hG, hba⟩; obtain ⟨ea0, ea1, hwa⟩ := HZ.out _ hba)
          refine wpAny_ready (rs := [1]) (by kernel_rfl) (by simp) ?_
          refine AllReady.cons rfl (fun K hK => ?_) ?_
          · go_simp
            refine hK _ _ ?_
            clear hK K
            refine wpAny_ready (rs := [2]) (by kernel_rfl) (by simp) ?_
            refine AllReady.cons rfl (fun K hK => ?_) ?_
            · go_simp
              refine hK _ _ ?_
              clear hK K
              refine wpAny_ready (rs := [3]) (by kernel_rfl) (by simp) ?_
              refine AllReady.cons rfl (fun K hK => ?_) ?_
              · go_simp
                go_wp2_with (go_at_call 102; refine (HH.out G _ _ hG).mono ?_; rintro e wb ⟨rfl, hb0⟩; obtain ⟨_, _, hwb⟩ := HZ.out _ (hba.trans (hb0.mono hba.size)))
                refine wpAny_ready (rs := [4]) (by kernel_rfl) (by simp) ?_
                refine AllReady.cons rfl (fun K hK => ?_) ?_
                · go_simp
                  refine hK _ _ ?_
                  clear hK K
                  refine wpAny_ready (rs := [5]) (by kernel_rfl) (by simp) ?_
                  refine AllReady.cons rfl (fun K hK => ?_) ?_
                  · go_simp
                    refine hK _ _ ?_
                    clear hK K
                    refine wpAny_ready (rs := [6]) (by kernel_rfl) (by simp) ?_
                    refine AllReady.cons rfl (fun K hK => ?_) ?_
                    · go_simp
                      refine hK _ _ ?_
                      clear hK K
                      refine wpAny_ready (rs := [7]) (by kernel_rfl) (by simp) ?_
                      refine AllReady.cons rfl (fun K hK => ?_) ?_
                      · go_simp
                        refine hK _ _ ?_
                        clear hK K
                        refine wpAny_ready (rs := [8]) (by kernel_rfl) (by simp) ?_
                        refine AllReady.cons rfl (fun K hK => ?_) ?_
                        · go_simp
                          refine hK _ _ ?_
                          clear hK K
                          refine wpAny_ready (rs := [9]) (by kernel_rfl) (by simp) ?_
                          refine AllReady.cons rfl (fun K hK => ?_) ?_
                          · go_simp
                            refine hK _ _ ?_
                            clear hK K
                            refine wpAny_ready (rs := [10]) (by kernel_rfl) (by simp) ?_
                            refine AllReady.cons rfl (fun K hK => ?_) ?_
                            · go_simp
                              refine hK _ _ ?_
                              clear hK K
                              refine wpAny_done (by kernel_rfl) ?_ _
                              have HBW := vl hwb
                              clear HZ HN HH HP hba hb0 hG d0 d1 hwb hwa
                              go_wp2
                              go_ret
                              refine ⟨?_, HBW.out⟩
                              rw [HX.out, errW_ne (by omega)]
                              rfl
                            exact AllReady.nil
                          exact AllReady.nil
                        exact AllReady.nil
                      exact AllReady.nil
                    exact AllReady.nil
                  exact AllReady.nil
                exact AllReady.nil
              exact AllReady.nil
            exact AllReady.nil
          exact AllReady.nil
        refine AllReady.cons rfl (fun K hK => ?_) ?_
        · go_simp
          refine hK _ _ ?_
          clear hK K
          refine wpAny_ready (rs := [0, 2]) (by kernel_rfl) (by simp) ?_
          refine AllReady.cons rfl (fun K hK => ?_) ?_
          · go_simp
            go_wp2_with (go_at_call 166; refine HN.out.mono ?_; rintro e wa ⟨G, rfl, hG, hba⟩; obtain ⟨ea0, ea1, hwa⟩ := HZ.out _ hba)
            refine wpAny_ready (rs := [2]) (by kernel_rfl) (by simp) ?_
            refine AllReady.cons rfl (fun K hK => ?_) ?_
            · go_simp
              refine hK _ _ ?_
              clear hK K
              refine wpAny_ready (rs := [3]) (by kernel_rfl) (by simp) ?_
              refine AllReady.cons rfl (fun K hK => ?_) ?_
              · go_simp
                go_wp2_with (go_at_call 102; refine (HH.out G _ _ hG).mono ?_; rintro e wb ⟨rfl, hb0⟩; obtain ⟨_, _, hwb⟩ := HZ.out _ (hba.trans (hb0.mono hba.size)))
                refine wpAny_ready (rs := [4]) (by kernel_rfl) (by simp) ?_
                refine AllReady.cons rfl (fun K hK => ?_) ?_
                · go_simp
                  refine hK _ _ ?_
                  clear hK K
                  refine wpAny_ready (rs := [5]) (by kernel_rfl) (by simp) ?_
                  refine AllReady.cons rfl (fun K hK => ?_) ?_
                  · go_simp
                    refine hK _ _ ?_
                    clear hK K
                    refine wpAny_ready (rs := [6]) (by kernel_rfl) (by simp) ?_
                    refine AllReady.cons rfl (fun K hK => ?_) ?_
                    · go_simp
                      refine hK _ _ ?_
                      clear hK K
                      refine wpAny_ready (rs := [7]) (by kernel_rfl) (by simp) ?_
                      refine AllReady.cons rfl (fun K hK => ?_) ?_
                      · go_simp
                        refine hK _ _ ?_
                        clear hK K
                        refine wpAny_ready (rs := [8]) (by kernel_rfl) (by simp) ?_
                        refine AllReady.cons rfl (fun K hK => ?_) ?_
                        · go_simp
                          refine hK _ _ ?_
                          clear hK K
                          refine wpAny_ready (rs := [9]) (by kernel_rfl) (by simp) ?_
                          refine AllReady.cons rfl (fun K hK => ?_) ?_
                          · go_simp
                            refine hK _ _ ?_
                            clear hK K
                            refine wpAny_ready (rs := [10]) (by kernel_rfl) (by simp) ?_
                            refine AllReady.cons rfl (fun K hK => ?_) ?_
                            · go_simp
                              refine hK _ _ ?_
                              clear hK K
                              refine wpAny_done (by kernel_rfl) ?_ _
                              have HBW := vl hwb
                              clear HZ HN HH HP hba hb0 hG d0 d1 hwb hwa
                              go_wp2
                              go_ret
                              refine ⟨?_, HBW.out⟩
                              rw [HX.out, errW_ne (by omega)]
                              rfl
                            exact AllReady.nil
                          exact AllReady.nil
                        exact AllReady.nil
                      exact AllReady.nil
                    exact AllReady.nil
                  exact AllReady.nil
                exact AllReady.nil
              exact AllReady.nil
            exact AllReady.nil
          refine AllReady.cons rfl (fun K hK => ?_) ?_
          · go_simp
            refine hK _ _ ?_
            clear hK K
            refine wpAny_ready (rs := [0]) (by kernel_rfl) (by simp) ?_
            refine AllReady.cons rfl (fun K hK => ?_) ?_
            · go_simp
              go_wp2_with (go_at_call 166; refine HN.out.mono ?_; rintro e wa ⟨G, rfl, hG, hba⟩; obtain ⟨ea0, ea1, hwa⟩ := HZ.out _ hba)
              refine wpAny_ready (rs := [3]) (by kernel_rfl) (by simp) ?_
              refine AllReady.cons rfl (fun K hK => ?_) ?_
              · go_simp
                go_wp2_with (go_at_call 102; refine (HH.out G _ _ hG).mono ?_; rintro e wb ⟨rfl, hb0⟩; obtain ⟨_, _, hwb⟩ := HZ.out _ (hba.trans (hb0.mono hba.size)))
                refine wpAny_ready (rs := [4]) (by kernel_rfl) (by simp) ?_
                refine AllReady.cons rfl (fun K hK => ?_) ?_
                · go_simp
                  refine hK _ _ ?_
                  clear hK K
                  refine wpAny_ready (rs := [5]) (by kernel_rfl) (by simp) ?_
                  refine AllReady.cons rfl (fun K hK => ?_) ?_
                  · go_simp
                    refine hK _ _ ?_
                    clear hK K
                    refine wpAny_ready (rs := [6]) (by kernel_rfl) (by simp) ?_
                    refine AllReady.cons rfl (fun K hK => ?_) ?_
                    · go_simp
                      refine hK _ _ ?_
                      clear hK K
                      refine wpAny_ready (rs := [7]) (by kernel_rfl) (by simp) ?_
                      refine AllReady.cons rfl (fun K hK => ?_) ?_
                      · go_simp
                        refine hK _ _ ?_
                        clear hK K
                        refine wpAny_ready (rs := [8]) (by kernel_rfl) (by simp) ?_
                        refine AllReady.cons rfl (fun K hK => ?_) ?_
                        · go_simp
                          refine hK _ _ ?_
                          clear hK K
                          refine wpAny_ready (rs := [9]) (by kernel_rfl) (by simp) ?_
                          refine AllReady.cons rfl (fun K hK => ?_) ?_
                          · go_simp
                            refine hK _ _ ?_
                            clear hK K
                            refine wpAny_ready (rs := [10]) (by kernel_rfl) (by simp) ?_
                            refine AllReady.cons rfl (fun K hK => ?_) ?_
                            · go_simp
                              refine hK _ _ ?_
                              clear hK K
                              refine wpAny_done (by kernel_rfl) ?_ _
                              have HBW := vl hwb
                              clear HZ HN HH HP hba hb0 hG d0 d1 hwb hwa
                              go_wp2
                              go_ret
                              refine ⟨?_, HBW.out⟩
                              rw [HX.out, errW_ne (by omega)]
                              rfl
                            exact AllReady.nil
                          exact AllReady.nil
                        exact AllReady.nil
                      exact AllReady.nil
                    exact AllReady.nil
                  exact AllReady.nil
                exact AllReady.nil
              exact AllReady.nil
            exact AllReady.nil
          exact AllReady.nil
        exact AllReady.nil
    · have hlt' : ¬ ((k : Int) < (fn : Int)) := by omega
      have HX : Vl (fldsE (fdsOf FL) = 0) := by
        show fldsE _ = 0
        rw [HK.out, List.drop_eq_nil_of_le (by rw [fds_len]; omega)]
        rfl
      go_wp2
      go_ret
      refine ⟨?_, HB.out⟩
      rw [HX.out]
      rfl
end Go.Proofs.YtdlaaollamgplagGreatDoor
