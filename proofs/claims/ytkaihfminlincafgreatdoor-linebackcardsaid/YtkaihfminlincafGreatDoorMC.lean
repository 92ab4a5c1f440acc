/-
  MESSAGES AS LINES: the developers' writer: checkFields. No claim by itself.
-/
import Derived.Shelf.RegionOpenPlain
import Derived.Deep.DeepCutAuto
import Derived.Lib.MinMax
import Derived.Test.YtkaihfminlincafGreatDoorNdw1
import Derived.Test.YtkaihfminlincafGreatDoorUenc
namespace Go.Proofs.YtkaihfminlincafGreatDoor
open Go Go.RowKit Go.Shelf
set_option maxRecDepth 100000
/-- What is known of one field. -/
def FdT (FL : List (ByteArray × ByteArray)) (k : Nat) (n s : ByteArray) : Prop := fldsE (fdsOf FL) = fldsE ((unums n, unums s) :: (fdsOf FL).drop (k + 1))
theorem fd_bad {FL : List (ByteArray × ByteArray)} {k : Nat} {n s : ByteArray} (h : FdT FL k n s) (hb : (nameL (unums n) && plainL (unums s)) = false) : fldsE (fdsOf FL) = 2 := by
  rw [h]
  have : fldE (unums n, unums s) = 2 := by
    unfold fldE
    rw [if_neg]
    rintro ⟨x, y⟩
    simp only at x y
    rw [x, y] at hb
    cases hb
  show (if fldE (unums n, unums s) = 0 then _ else fldE (unums n, unums s)) = 2
  rw [this]
  rfl
theorem fd_three {FL : List (ByteArray × ByteArray)} {k : Nat} {n s : ByteArray} (h : FdT FL k n s) (h1 : nameL (unums n) = true) (h2 : plainL (unums s) = true) (h3 : takenB n = true) : fldsE (fdsOf FL) = 3 := by
  rw [h]
  have : fldE (unums n, unums s) = 3 := by
    unfold fldE
    rw [if_pos ⟨h1, h2⟩, if_pos (of_decide_eq_true h3)]
  show (if fldE (unums n, unums s) = 0 then _ else fldE (unums n, unums s)) = 3
  rw [this]
  rfl
theorem fd_next {FL : List (ByteArray × ByteArray)} {k : Nat} {n s : ByteArray} (h : FdT FL k n s) (h1 : nameL (unums n) = true) (h2 : plainL (unums s) = true) (h3 : takenB n = false) : fldsE (fdsOf FL) = fldsE ((fdsOf FL).drop (k + 1)) := by
  rw [h]
  have hn := of_decide_eq_false h3
  have : fldE (unums n, unums s) = 0 := fld_of h1 h2 (fun e => hn (Or.inl e)) (fun e => hn (Or.inr (Or.inl e))) (fun e => hn (Or.inr (Or.inr e)))
  show (if fldE (unums n, unums s) = 0 then _ else fldE (unums n, unums s)) = _
  rw [if_pos this]
set_option maxHeartbeats 4000000 in
theorem ncheckf_any (fa : Option Addr) (fn fc : Nat) (FL : List (ByteArray × ByteArray)) (w : World) (hA : FArg w fa fn fc FL) (hm : fn ≤ 4611686018427387904) (he : ∀ t, (FL.getD t fnone).1.size ≤ 140737488351232 ∧ (FL.getD t fnone).2.size ≤ 140737488351232) :
    Calls Tryz.prog 25 #[.slice fa fn fc] w fun e w' => e = .returned (errW (fldsE (fdsOf FL))) ∧ Below w.heap.size w w' := by
  have hlen := hA.len
  have HA := vl hA
  have HE := vl he
  clear hA he
  go_enter Tryz.func25, Tryz.ntmps25
  go_wp2_with fail
  go_loopw [7] (fun i wr => ∃ k : Nat, i = .int .i64 k ∧ k ≤ fn ∧ Vl (fldsE (fdsOf FL) = fldsE ((fdsOf FL).drop k)) ∧ Vl (Below w.heap.size w wr)) (fun i _ => fn - (intOf i).toNat)
  case atStart => exact ⟨0, rfl, by omega, rfl, Below.refl _ _⟩
  case round =>
    obtain ⟨k, rfl, hk, HK, HB⟩ := hrel
    by_cases hlt : k < fn
    · rcases (HA.out.below HB.out) with ⟨h0, _⟩ | ⟨g, off, rfl, hr⟩
      · omega
      have c1 := hr.hname k hlt
      have c2 := hr.hvalue k hlt
      have hcap := hr.hcap
      have hlt' : (k : Int) < (fn : Int) := by omega
      have HD := fds_drop (L := FL) (k := k) (by omega)
      have hsz := HE.out k
      obtain ⟨⟨n, s⟩, hf⟩ : ∃ f, FL.getD k fnone = f := ⟨_, rfl⟩
      rw [hf] at c1 c2 HD hsz
      have HF : Vl (FdT FL k n s) := by
        show fldsE _ = _
        rw [HK.out, HD]
      obtain ⟨W1, hW1⟩ : ∃ W1, wr.alloc (.cells #[.string n, .string s] 75) = W1 := ⟨_, rfl⟩
      have hbw : Below wr.heap.size wr W1 := by rw [← hW1]; exact (Below.refl _ _).alloc (Nat.le_refl _) _
      have hx1 : W1.heap[wr.heap.size]? = some (.cells #[.string n, .string s] 75 (0, 0)) := by rw [← hW1]; exact heap_alloc_new wr _
      have HB1 : Vl (Below w.heap.size w W1) := HB.out.trans (hbw.mono HB.out.size)
      obtain ⟨d0, d1, _, _⟩ := f2_cell hx1
      have hlt1 : wr.heap.size < W1.heap.size := (Array.getElem?_eq_some_iff.1 hx1).1
      have HZ : Vl (∀ w1, Below W1.drew.heap.size W1.drew w1 → w1.cell? ⟨wr.heap.size, 0, none⟩ = some (.string n) ∧ w1.cell? ⟨wr.heap.size, 1, none⟩ = some (.string s) ∧ Below w.heap.size w w1) := fun w1 hb => ⟨(hb.cell (p := ⟨wr.heap.size, 0, none⟩) hlt1).trans d0, (hb.cell (p := ⟨wr.heap.size, 1, none⟩) hlt1).trans d1, HB1.out.trans (((Below.refl _ W1).drew.trans hb).mono HB1.out.size)⟩
      have HN := vl (nnamef_any W1.drew)
      have HH : Vl (∀ (G : Value) (B : Nat) (W : World), MayF W B G isSmall → Calls Tryz.prog 23 #[formV 1 G, .string n] W fun e w' => e = .returned (.bool (nameL (unums n))) ∧ Below W.heap.size W w') := fun G B W hG => by
        have := nholds_any 1 G isSmall B n W hG hsz.1
        rw [form_name] at this
        exact this
      have HP : Vl (∀ W, Calls Tryz.prog 60 #[.string s] W fun e w' => e = .returned (.bool (plainL (unums s))) ∧ Below W.heap.size W w') := fun W => nplain_any0 s W hsz.2
      obtain ⟨b1, hb1⟩ : ∃ b, nameL (unums n) = b := ⟨_, rfl⟩
      obtain ⟨b2, hb2⟩ : ∃ b, plainL (unums s) = b := ⟨_, rfl⟩
      rw [hb1] at HH
      rw [hb2] at HP
      have HQ1 := vl hb1
      have HQ2 := vl hb2
      unfold formV at HN HH
      have HW1 := vl hW1
      clear hf hr hb1 hb2 HD hsz hbw hx1 hlt1 hW1
      cases b1 with
      | true =>
        go_wp2_with fail
        rw [HW1.out]
        clear HW1
        go_region_held3 (fun w1 => w1.cell? ⟨wr.heap.size, 0, none⟩ = some (.string n) ∧ w1.cell? ⟨wr.heap.size, 1, none⟩ = some (.string s))
          (first
            | go_keep
            | (exact ⟨(HZ.out _ hbc).1, (HZ.out _ hbc).2.1⟩)
            | (exact ⟨(HZ.out _ hbb).1, (HZ.out _ hbb).2.1⟩)
            | (exact ⟨(HZ.out _ hba).1, (HZ.out _ hba).2.1⟩))
          (first
            | (go_at_call 53; refine HN.out.mono ?_; rintro e wa ⟨G, rfl, hG, hba⟩)
            | (go_at_call 23; refine (HH.out G _ _ hG).mono ?_; rintro e wb ⟨rfl, hb0⟩; have hbb := hba.trans (hb0.mono hba.size))
            | (go_at_call 60; refine (HP.out _).mono ?_; rintro e wc ⟨rfl, hc0⟩; have hbc := hbb.trans (hc0.mono hbb.size)))
        obtain ⟨e0, e1, hbw⟩ := HZ.out _ hbc
        have HBW := vl hbw
        have HT := vl (ntaken_any n wc)
        clear HZ HN HH HP hba hbb hbc hb0 hc0 hG d0 d1 hbw
        cases b2 with
        | false =>
          have HX := vl (fd_bad HF.out (by rw [HQ1.out, HQ2.out]; rfl))
          go_wp2
          go_ret
          refine ⟨?_, HBW.out⟩
          rw [HX.out, errW_ne (by omega)]
          rfl
        | true =>
          obtain ⟨b3, hb3⟩ : ∃ b, takenB n = b := ⟨_, rfl⟩
          rw [hb3] at HT
          have HQ3 := vl hb3
          clear hb3
          cases b3 with
          | true =>
            have HX := vl (fd_three HF.out HQ1.out HQ2.out HQ3.out)
            go_wp2_with (go_at_call 54; refine HT.out.mono ?_; rintro e w' ⟨rfl, rfl⟩)
            go_ret
            refine ⟨?_, HBW.out⟩
            rw [HX.out, errW_ne (by omega)]
            rfl
          | false =>
            have HX := vl (fd_next HF.out HQ1.out HQ2.out HQ3.out)
            go_wp2_with (go_at_call 54; refine HT.out.mono ?_; rintro e w' ⟨rfl, rfl⟩)
            go_roundw
            case rel => exact ⟨k + 1, by go_num, by omega, HX.out, HBW.out⟩
            case measure => simp [intOf]; omega
      | false =>
        have HX := vl (fd_bad HF.out (by rw [HQ1.out]; rfl))
        go_wp2_with fail
        rw [HW1.out]
        clear HW1
        refine wp_region_any (by kernel_rfl) ?_
        change wpAny _ _ _ _ _ _ _ (World.drew _)
        refine wpAny_ready (rs := [0, 1]) (by kernel_rfl) (by simp) ?_
        refine AllReady.cons rfl (fun K hK => ?_) ?_
        · go_simp
          go_wp2_with (go_at_call 53; refine HN.out.mono ?_; rintro e wa ⟨G, rfl, hG, hba⟩; obtain ⟨ea0, ea1, hwa⟩ := HZ.out _ hba)
          refine wpAny_ready (rs := [1]) (by kernel_rfl) (by simp) ?_
          refine AllReady.cons rfl (fun K hK => ?_) ?_
          · go_simp
            refine hK _ _ ?_
            clear hK K
            refine wpAny_ready (rs := [2]) (by kernel_rfl) (by simp) ?_
            refine AllReady.cons rfl (fun K hK => ?_) ?_
            · go_simp
              refine hK _ _ ?_
              clear hK K
              refine wpAny_ready (rs := [3]) (by kernel_rfl) (by simp) ?_
              refine AllReady.cons rfl (fun K hK => ?_) ?_
              · go_simp
                go_wp2_with (go_at_call 23; refine (HH.out G _ _ hG).mono ?_; rintro e wb ⟨rfl, hb0⟩; obtain ⟨_, _, hwb⟩ := HZ.out _ (hba.trans (hb0.mono hba.size)))
                refine wpAny_ready (rs := [4]) (by kernel_rfl) (by simp) ?_
                refine AllReady.cons rfl (fun K hK => ?_) ?_
                · go_simp
                  refine hK _ _ ?_
                  clear hK K
                  refine wpAny_ready (rs := [5]) (by kernel_rfl) (by simp) ?_
                  refine AllReady.cons rfl (fun K hK => ?_) ?_
                  · go_simp
                    refine hK _ _ ?_
                    clear hK K
                    refine wpAny_ready (rs := [6]) (by kernel_rfl) (by simp) ?_
                    refine AllReady.cons rfl (fun K hK => ?_) ?_
                    · go_simp
                      refine hK _ _ ?_
                      clear hK K
                      refine wpAny_ready (rs := [7]) (by kernel_rfl) (by simp) ?_
                      refine AllReady.cons rfl (fun K hK => ?_) ?_
                      · go_simp
                        refine hK _ _ ?_
                        clear hK K
                        refine wpAny_ready (rs := [8]) (by kernel_rfl) (by simp) ?_
                        refine AllReady.cons rfl (fun K hK => ?_) ?_
                        · go_simp
                          refine hK _ _ ?_
                          clear hK K
                          refine wpAny_ready (rs := [9]) (by kernel_rfl) (by simp) ?_
                          refine AllReady.cons rfl (fun K hK => ?_) ?_
                          · go_simp
                            refine hK _ _ ?_
                            clear hK K
                            refine wpAny_ready (rs := [10]) (by kernel_rfl) (by simp) ?_
                            refine AllReady.cons rfl (fun K hK => ?_) ?_
                            · go_simp
                              refine hK _ _ ?_
                              clear hK K
                              refine wpAny_done (by kernel_rfl) ?_ _
                              have HBW := vl hwb
                              clear HZ HN HH HP hba hb0 hG d0 d1 hwb hwa
                              go_wp2
                              go_ret
                              refine ⟨?_, HBW.out⟩
                              rw [HX.out, errW_ne (by omega)]
                              rfl
                            exact AllReady.nil
                          exact AllReady.nil
                        exact AllReady.nil
                      exact AllReady.nil
                    exact AllReady.nil
                  exact AllReady.nil
                exact AllReady.nil
              exact AllReady.nil
            exact AllReady.nil
          exact AllReady.nil
        refine AllReady.cons rfl (fun K hK => ?_) ?_
        · go_simp
          refine hK _ _ ?_
          clear hK K
          refine wpAny_ready (rs := [0, 2]) (by kernel_rfl) (by simp) ?_
          refine AllReady.cons rfl (fun K hK => ?_) ?_
          · go_simp
            go_wp2_with (go_at_call 53; refine HN.out.mono ?_; rintro e wa ⟨G, rfl, hG, hba⟩; obtain ⟨ea0, ea1, hwa⟩ := HZ.out _ hba)
            refine wpAny_ready (rs := [2]) (by kernel_rfl) (by simp) ?_
            refine AllReady.cons rfl (fun K hK => ?_) ?_
            · go_simp
              refine hK _ _ ?_
              clear hK K
              refine wpAny_ready (rs := [3]) (by kernel_rfl) (by simp) ?_
              refine AllReady.cons rfl (fun K hK => ?_) ?_
              · go_simp
                go_wp2_with (go_at_call 23; refine (HH.out G _ _ hG).mono ?_; rintro e wb ⟨rfl, hb0⟩; obtain ⟨_, _, hwb⟩ := HZ.out _ (hba.trans (hb0.mono hba.size)))
                refine wpAny_ready (rs := [4]) (by kernel_rfl) (by simp) ?_
                refine AllReady.cons rfl (fun K hK => ?_) ?_
                · go_simp
                  refine hK _ _ ?_
                  clear hK K
                  refine wpAny_ready (rs := [5]) (by kernel_rfl) (by simp) ?_
                  refine AllReady.cons rfl (fun K hK => ?_) ?_
                  · go_simp
                    refine hK _ _ ?_
                    clear hK K
                    refine wpAny_ready (rs := [6]) (by kernel_rfl) (by simp) ?_
                    refine AllReady.cons rfl (fun K hK => ?_) ?_
                    · go_simp
                      refine hK _ _ ?_
                      clear hK K
                      refine wpAny_ready (rs := [7]) (by kernel_rfl) (by simp) ?_
                      refine AllReady.cons rfl (fun K hK => ?_) ?_
                      · go_simp
                        refine hK _ _ ?_
                        clear hK K
                        refine wpAny_ready (rs := [8]) (by kernel_rfl) (by simp) ?_
                        refine AllReady.cons rfl (fun K hK => ?_) ?_
                        · go_simp
                          refine hK _ _ ?_
                          clear hK K
                          refine wpAny_ready (rs := [9]) (by kernel_rfl) (by simp) ?_
                          refine AllReady.cons rfl (fun K hK => ?_) ?_
                          · go_simp
                            refine hK _ _ ?_
                            clear hK K
                            refine wpAny_ready (rs := [10]) (by kernel_rfl) (by simp) ?_
                            refine AllReady.cons rfl (fun K hK => ?_) ?_
                            · go_simp
                              refine hK _ _ ?_
                              clear hK K
                              refine wpAny_done (by kernel_rfl) ?_ _
                              have HBW := vl hwb
                              clear HZ HN HH HP hba hb0 hG d0 d1 hwb hwa
                              go_wp2
                              go_ret
                              refine ⟨?_, HBW.out⟩
                              rw [HX.out, errW_ne (by omega)]
                              rfl
                            exact AllReady.nil
                          exact AllReady.nil
                        exact AllReady.nil
                      exact AllReady.nil
                    exact AllReady.nil
                  exact AllReady.nil
                exact AllReady.nil
              exact AllReady.nil
            exact AllReady.nil
          refine AllReady.cons rfl (fun K hK => ?_) ?_
          · go_simp
            refine hK _ _ ?_
            clear hK K
            refine wpAny_ready (rs := [0]) (by kernel_rfl) (by simp) ?_
            refine AllReady.cons rfl (fun K hK => ?_) ?_
            · go_simp
              go_wp2_with (go_at_call 53; refine HN.out.mono ?_; rintro e wa ⟨G, rfl, hG, hba⟩; obtain ⟨ea0, ea1, hwa⟩ := HZ.out _ hba)
              refine wpAny_ready (rs := [3]) (by kernel_rfl) (by simp) ?_
              refine AllReady.cons rfl (fun K hK => ?_) ?_
              · go_simp
                go_wp2_with (go_at_call 23; refine (HH.out G _ _ hG).mono ?_; rintro e wb ⟨rfl, hb0⟩; obtain ⟨_, _, hwb⟩ := HZ.out _ (hba.trans (hb0.mono hba.size)))
                refine wpAny_ready (rs := [4]) (by kernel_rfl) (by simp) ?_
                refine AllReady.cons rfl (fun K hK => ?_) ?_
                · go_simp
                  refine hK _ _ ?_
                  clear hK K
                  refine wpAny_ready (rs := [5]) (by kernel_rfl) (by simp) ?_
                  refine AllReady.cons rfl (fun K hK => ?_) ?_
                  · go_simp
                    refine hK _ _ ?_
                    clear hK K
                    refine wpAny_ready (rs := [6]) (by kernel_rfl) (by simp) ?_
                    refine AllReady.cons rfl (fun K hK => ?_) ?_
                    · go_simp
                      refine hK _ _ ?_
                      clear hK K
                      refine wpAny_ready (rs := [7]) (by kernel_rfl) (by simp) ?_
                      refine AllReady.cons rfl (fun K hK => ?_) ?_
                      · go_simp
                        refine hK _ _ ?_
                        clear hK K
                        refine wpAny_ready (rs := [8]) (by kernel_rfl) (by simp) ?_
                        refine AllReady.cons rfl (fun K hK => ?_) ?_
                        · go_simp
                          refine hK _ _ ?_
                          clear hK K
                          refine wpAny_ready (rs := [9]) (by kernel_rfl) (by simp) ?_
                          refine AllReady.cons rfl (fun K hK => ?_) ?_
                          · go_simp
                            refine hK _ _ ?_
                            clear hK K
                            refine wpAny_ready (rs := [10]) (by kernel_rfl) (by simp) ?_
                            refine AllReady.cons rfl (fun K hK => ?_) ?_
                            · go_simp
                              refine hK _ _ ?_
                              clear hK K
                              refine wpAny_done (by kernel_rfl) ?_ _
                              have HBW := vl hwb
                              clear HZ HN HH HP hba hb0 hG d0 d1 hwb hwa
                              go_wp2
                              go_ret
                              refine ⟨?_, HBW.out⟩
                              rw [HX.out, errW_ne (by omega)]
                              rfl
                            exact AllReady.nil
                          exact AllReady.nil
                        exact AllReady.nil
                      exact AllReady.nil
                    exact AllReady.nil
                  exact AllReady.nil
                exact AllReady.nil
              exact AllReady.nil
            exact AllReady.nil
          exact AllReady.nil
        exact AllReady.nil
    · have hlt' : ¬ ((k : Int) < (fn : Int)) := by omega
      have HX : Vl (fldsE (fdsOf FL) = 0) := by
        show fldsE _ = 0
        rw [HK.out, List.drop_eq_nil_of_le (by rw [fds_len]; omega)]
        rfl
      go_wp2
      go_ret
      refine ⟨?_, HB.out⟩
      rw [HX.out]
      rfl
end Go.Proofs.YtkaihfminlincafGreatDoor
/-
  MESSAGES AS LINES: the developers' writer: Ask. No claim by itself.
-/
namespace Go.Proofs.YtkaihfminlincafGreatDoor
open Go Go.RowKit Go.Shelf
set_option maxRecDepth 100000
theorem q5_cell {w : World} {B : Nat} {a b c d e : Value} {T : TypeId} (h : w.heap[B]? = some (.cells #[a, b, c, d, e] T (0, 0))) : w.cell? ⟨B, 0, none⟩ = some a ∧ w.cell? ⟨B, 1, none⟩ = some b ∧ w.cell? ⟨B, 2, none⟩ = some c ∧ w.cell? ⟨B, 3, none⟩ = some d ∧ w.cell? ⟨B, 4, none⟩ = some e := by simp [World.cell?, h]
theorem ask_parts {q : RqM} {w : World} (h : RqIn w q) : askE q.rq = if muchB q.fn q.bn = true then 4 else if tokL (unums q.m) = true ∧ wordL (unums q.p) = true ∧ formL ok3 1 (unums q.h) = true then fldsE (fdsOf q.FL) else 2 := by
  unfold askE RqM.rq muchB
  simp only
  rw [fds_len, h.fields.len, h.body.len]
  have e1 : (plainL (unums q.h) = true ∧ unums q.h ≠ []) ↔ formL ok3 1 (unums q.h) = true := by
    rw [form_plain, Bool.and_eq_true, decide_eq_true_eq]
    constructor
    · rintro ⟨a, b⟩; exact ⟨a, pos_of b⟩
    · rintro ⟨a, b⟩; exact ⟨a, fun e => by rw [e] at b; simp at b⟩
  by_cases hm : 40 < q.fn ∨ 8000 < q.bn
  · rw [if_pos hm, decide_eq_true hm, if_pos rfl]
  · rw [if_neg hm, decide_eq_false hm]
    simp only [Bool.false_eq_true, if_false, e1]
set_option maxHeartbeats 4000000 in
theorem nask_bad (q : RqM) (w : World) (h : RqIn w q) (hbad : muchB q.fn q.bn = true ∨ tokL (unums q.m) = false ∨ wordL (unums q.p) = false) :
    Calls Tryz.prog 5 #[q.val] w fun e w' => ∃ v, e = .returned (.tuple #[v, errW (askE q.rq)]) ∧ UOwn w' w.heap.size v (askOut q.rq) ∧ Below w.heap.size w w' := by
  have hparts := ask_parts h
  obtain ⟨m, p, ho, fa, fn, fc, ba, bn, bc, FL, B⟩ := q
  obtain ⟨h1, h2, h3, ⟨h4, h5⟩, ⟨h6, h7, h8⟩, h9⟩ := h
  simp only at h1 h2 h3 h4 h5 h6 h7 h8 h9 hparts hbad
  obtain ⟨W1, hW1⟩ : ∃ W1, w.alloc (.cells #[.string m, .string p, .string ho, .slice fa fn fc, .slice ba bn bc] 25) = W1 := ⟨_, rfl⟩
  have HW : Vl (Below w.heap.size w W1) := by rw [← hW1]; exact (Below.refl _ _).alloc (Nat.le_refl _) _
  have hx : W1.heap[w.heap.size]? = some (.cells #[.string m, .string p, .string ho, .slice fa fn fc, .slice ba bn bc] 25 (0, 0)) := by rw [← hW1]; exact heap_alloc_new w _
  obtain ⟨c0, c1, c2, c3, c4⟩ := q5_cell hx
  have hlt : w.heap.size < W1.heap.size := (Array.getElem?_eq_some_iff.1 hx).1
  have HM := vl (ntoo_any fa ba fn fc bn bc W1)
  obtain ⟨EA, hEA⟩ : ∃ EA, askE (RqM.rq ⟨m, p, ho, fa, fn, fc, ba, bn, bc, FL, B⟩) = EA := ⟨_, rfl⟩
  rw [hEA] at hparts
  have HEA := vl hEA
  obtain ⟨AO, hAO⟩ : ∃ AO, askOut (RqM.rq ⟨m, p, ho, fa, fn, fc, ba, bn, bc, FL, B⟩) = AO := ⟨_, rfl⟩
  have HAO : Vl (EA ≠ 0 → AO = []) := fun he => by
    rw [← hAO]
    unfold askOut
    rw [if_neg (by rw [HEA.out]; exact he)]
  rw [hEA, hAO]
  unfold RqM.val
  simp only
  have HW1 := vl hW1
  clear hW1 hx hEA hAO
  by_cases hm : muchB fn bn = true
  · rw [if_pos hm] at hparts
    rw [hm] at HM
    have HX := vl hparts
    have HN := vl (HAO.out (by omega))
    clear hparts hbad HAO
    go_enter Tryz.func5, Tryz.ntmps5
    go_wp2_with fail
    try rw [HW1.out]
    refine HM.out.mono ?_
    rintro e w' ⟨rfl, rfl⟩
    go_wp2
    go_ret2
    refine ⟨_, by rw [HX.out]; rfl, Or.inl ⟨rfl, HN.out⟩, HW.out⟩
  · have hm' : muchB fn bn = false := by simpa using hm
    rw [hm'] at HM hparts hbad
    rw [if_neg (by simp)] at hparts
    have HZ : Vl (∀ w1, Below W1.drew.heap.size W1.drew w1 → w1.cell? ⟨w.heap.size, 0, none⟩ = some (.string m) ∧ w1.cell? ⟨w.heap.size, 1, none⟩ = some (.string p) ∧ w1.cell? ⟨w.heap.size, 2, none⟩ = some (.string ho) ∧ w1.cell? ⟨w.heap.size, 3, none⟩ = some (.slice fa fn fc) ∧ w1.cell? ⟨w.heap.size, 4, none⟩ = some (.slice ba bn bc)) := fun w1 hb => ⟨(hb.cell (p := ⟨w.heap.size, 0, none⟩) hlt).trans c0, (hb.cell (p := ⟨w.heap.size, 1, none⟩) hlt).trans c1, (hb.cell (p := ⟨w.heap.size, 2, none⟩) hlt).trans c2, (hb.cell (p := ⟨w.heap.size, 3, none⟩) hlt).trans c3, (hb.cell (p := ⟨w.heap.size, 4, none⟩) hlt).trans c4⟩
    have HBB : Vl (∀ w1, Below W1.drew.heap.size W1.drew w1 → Below w.heap.size w w1) := fun w1 hb => HW.out.trans (((Below.refl _ W1).drew.trans hb).mono HW.out.size)
    have HTK := vl (ntoken_any m W1.drew h6)
    have HPF := vl (fun W => npathf_any W)
    have HPH : Vl (∀ (G : Value) (B : Nat) (W : World), MayF W B G ok2 → Calls Tryz.prog 23 #[formV 1 G, .string p] W fun e w' => e = .returned (.bool (wordL (unums p))) ∧ Below W.heap.size W w') := fun G B W hG => by
      have := nholds_any 1 G ok2 B p W hG h7
      rw [form_word] at this
      exact this
    unfold formV at HPF HPH
    by_cases hb1 : tokL (unums m) = true
    · have hb2 : wordL (unums p) = false := by
        rcases hbad with h | h | h
        · cases h
        · rw [hb1] at h; cases h
        · exact h
      rw [hb1] at HTK
      rw [hb2] at HPH
      rw [if_neg (by rw [hb2]; simp)] at hparts
      have HX := vl hparts
      have HN := vl (HAO.out (by omega))
      clear hparts hbad HAO hb1 hb2
      go_enter Tryz.func5, Tryz.ntmps5
      go_wp2_with fail
      try rw [HW1.out]
      refine HM.out.mono ?_
      rintro e w' ⟨rfl, rfl⟩
      go_wp2_with fail
      refine wp_region_any (by kernel_rfl) ?_
      change wpAny _ _ _ _ _ _ _ (World.drew _)
      refine wpAny_ready (rs := [0]) (by kernel_rfl) (by simp) ?_
      refine AllReady.cons rfl (fun K hK => ?_) ?_
      · go_simp
        refine hK _ _ ?_
        clear hK K
        refine wpAny_ready (rs := [1]) (by kernel_rfl) (by simp) ?_
        refine AllReady.cons rfl (fun K hK => ?_) ?_
        · go_simp
          refine hK _ _ ?_
          clear hK K
          refine wpAny_ready (rs := [2]) (by kernel_rfl) (by simp) ?_
          refine AllReady.cons rfl (fun K hK => ?_) ?_
          · go_simp
            go_wp2_with (go_at_call 22; refine HTK.out.mono ?_; rintro e wa ⟨rfl, hba⟩; obtain ⟨ea0, ea1, ea2, ea3, ea4⟩ := HZ.out _ hba)
            refine wpAny_ready (rs := [3]) (by kernel_rfl) (by simp) ?_
            refine AllReady.cons rfl (fun K hK => ?_) ?_
            · go_simp
              refine hK _ _ ?_
              clear hK K
              refine wpAny_ready (rs := [4]) (by kernel_rfl) (by simp) ?_
              refine AllReady.cons rfl (fun K hK => ?_) ?_
              · go_simp
                refine hK _ _ ?_
                clear hK K
                refine wpAny_ready (rs := [5, 6]) (by kernel_rfl) (by simp) ?_
                refine AllReady.cons rfl (fun K hK => ?_) ?_
                · go_simp
                  go_wp2_with (go_at_call 13; refine (HPF.out _).mono ?_; rintro e wb ⟨G, rfl, hG, hb0⟩; have hbb := hba.trans (hb0.mono hba.size); obtain ⟨eb0, eb1, eb2, eb3, eb4⟩ := HZ.out _ hbb)
                  refine wpAny_ready (rs := [6]) (by kernel_rfl) (by simp) ?_
                  refine AllReady.cons rfl (fun K hK => ?_) ?_
                  · go_simp
                    refine hK _ _ ?_
                    clear hK K
                    refine wpAny_ready (rs := [7]) (by kernel_rfl) (by simp) ?_
                    refine AllReady.cons rfl (fun K hK => ?_) ?_
                    · go_simp
                      refine hK _ _ ?_
                      clear hK K
                      refine wpAny_ready (rs := [8]) (by kernel_rfl) (by simp) ?_
                      refine AllReady.cons rfl (fun K hK => ?_) ?_
                      · go_simp
                        go_wp2_with (go_at_call 23; refine (HPH.out G _ _ hG).mono ?_; rintro e wd ⟨rfl, hd0⟩; have hbd := hbb.trans (hd0.mono hbb.size); obtain ⟨ed0, ed1, ed2, ed3, ed4⟩ := HZ.out _ hbd)
                        refine wpAny_ready (rs := [9]) (by kernel_rfl) (by simp) ?_
                        refine AllReady.cons rfl (fun K hK => ?_) ?_
                        · go_simp
                          refine hK _ _ ?_
                          clear hK K
                          refine wpAny_ready (rs := [10]) (by kernel_rfl) (by simp) ?_
                          refine AllReady.cons rfl (fun K hK => ?_) ?_
                          · go_simp
                            refine hK _ _ ?_
                            clear hK K
                            refine wpAny_ready (rs := [11]) (by kernel_rfl) (by simp) ?_
                            refine AllReady.cons rfl (fun K hK => ?_) ?_
                            · go_simp
                              refine hK _ _ ?_
                              clear hK K
                              refine wpAny_ready (rs := [12, 13]) (by kernel_rfl) (by simp) ?_
                              refine AllReady.cons rfl (fun K hK => ?_) ?_
                              · go_simp
                                refine hK _ _ ?_
                                clear hK K
                                refine wpAny_ready (rs := [13]) (by kernel_rfl) (by simp) ?_
                                refine AllReady.cons rfl (fun K hK => ?_) ?_
                                · go_simp
                                  refine hK _ _ ?_
                                  clear hK K
                                  refine wpAny_ready (rs := [14]) (by kernel_rfl) (by simp) ?_
                                  refine AllReady.cons rfl (fun K hK => ?_) ?_
                                  · go_simp
                                    refine hK _ _ ?_
                                    clear hK K
                                    refine wpAny_ready (rs := [15]) (by kernel_rfl) (by simp) ?_
                                    refine AllReady.cons rfl (fun K hK => ?_) ?_
                                    · go_simp
                                      refine hK _ _ ?_
                                      clear hK K
                                      refine wpAny_ready (rs := [16]) (by kernel_rfl) (by simp) ?_
                                      refine AllReady.cons rfl (fun K hK => ?_) ?_
                                      · go_simp
                                        refine hK _ _ ?_
                                        clear hK K
                                        refine wpAny_ready (rs := [17]) (by kernel_rfl) (by simp) ?_
                                        refine AllReady.cons rfl (fun K hK => ?_) ?_
                                        · go_simp
                                          refine hK _ _ ?_
                                          clear hK K
                                          refine wpAny_done (by kernel_rfl) ?_ _
                                          have HBW := vl (HBB.out _ hbd)
                                          clear HZ HTK HPF HPH HBB
                                          go_wp2
                                          go_ret2
                                          exact ⟨_, by rw [HX.out]; rfl, Or.inl ⟨rfl, HN.out⟩, HBW.out⟩
                                        exact AllReady.nil
                                      exact AllReady.nil
                                    exact AllReady.nil
                                  exact AllReady.nil
                                exact AllReady.nil
                              refine AllReady.cons rfl (fun K hK => ?_) ?_
                              · go_simp
                                refine hK _ _ ?_
                                clear hK K
                                refine wpAny_ready (rs := [12, 14]) (by kernel_rfl) (by simp) ?_
                                refine AllReady.cons rfl (fun K hK => ?_) ?_
                                · go_simp
                                  refine hK _ _ ?_
                                  clear hK K
                                  refine wpAny_ready (rs := [14]) (by kernel_rfl) (by simp) ?_
                                  refine AllReady.cons rfl (fun K hK => ?_) ?_
                                  · go_simp
                                    refine hK _ _ ?_
                                    clear hK K
                                    refine wpAny_ready (rs := [15]) (by kernel_rfl) (by simp) ?_
                                    refine AllReady.cons rfl (fun K hK => ?_) ?_
                                    · go_simp
                                      refine hK _ _ ?_
                                      clear hK K
                                      refine wpAny_ready (rs := [16]) (by kernel_rfl) (by simp) ?_
                                      refine AllReady.cons rfl (fun K hK => ?_) ?_
                                      · go_simp
                                        refine hK _ _ ?_
                                        clear hK K
                                        refine wpAny_ready (rs := [17]) (by kernel_rfl) (by simp) ?_
                                        refine AllReady.cons rfl (fun K hK => ?_) ?_
                                        · go_simp
                                          refine hK _ _ ?_
                                          clear hK K
                                          refine wpAny_done (by kernel_rfl) ?_ _
                                          have HBW := vl (HBB.out _ hbd)
                                          clear HZ HTK HPF HPH HBB
                                          go_wp2
                                          go_ret2
                                          exact ⟨_, by rw [HX.out]; rfl, Or.inl ⟨rfl, HN.out⟩, HBW.out⟩
                                        exact AllReady.nil
                                      exact AllReady.nil
                                    exact AllReady.nil
                                  exact AllReady.nil
                                refine AllReady.cons rfl (fun K hK => ?_) ?_
                                · go_simp
                                  refine hK _ _ ?_
                                  clear hK K
                                  refine wpAny_ready (rs := [12]) (by kernel_rfl) (by simp) ?_
                                  refine AllReady.cons rfl (fun K hK => ?_) ?_
                                  · go_simp
                                    refine hK _ _ ?_
                                    clear hK K
                                    refine wpAny_ready (rs := [15]) (by kernel_rfl) (by simp) ?_
                                    refine AllReady.cons rfl (fun K hK => ?_) ?_
                                    · go_simp
                                      refine hK _ _ ?_
                                      clear hK K
                                      refine wpAny_ready (rs := [16]) (by kernel_rfl) (by simp) ?_
                                      refine AllReady.cons rfl (fun K hK => ?_) ?_
                                      · go_simp
                                        refine hK _ _ ?_
                                        clear hK K
                                        refine wpAny_ready (rs := [17]) (by kernel_rfl) (by simp) ?_
                                        refine AllReady.cons rfl (fun K hK => ?_) ?_
                                        · go_simp
                                          refine hK _ _ ?_
                                          clear hK K
                                          refine wpAny_done (by kernel_rfl) ?_ _
                                          have HBW := vl (HBB.out _ hbd)
                                          clear HZ HTK HPF HPH HBB
                                          go_wp2
                                          go_ret2
                                          exact ⟨_, by rw [HX.out]; rfl, Or.inl ⟨rfl, HN.out⟩, HBW.out⟩
                                        exact AllReady.nil
                                      exact AllReady.nil
                                    exact AllReady.nil
                                  exact AllReady.nil
                                exact AllReady.nil
                              exact AllReady.nil
                            exact AllReady.nil
                          exact AllReady.nil
                        exact AllReady.nil
                      exact AllReady.nil
                    exact AllReady.nil
                  exact AllReady.nil
                refine AllReady.cons rfl (fun K hK => ?_) ?_
                · go_simp
                  refine hK _ _ ?_
                  clear hK K
                  refine wpAny_ready (rs := [5, 7]) (by kernel_rfl) (by simp) ?_
                  refine AllReady.cons rfl (fun K hK => ?_) ?_
                  · go_simp
                    go_wp2_with (go_at_call 13; refine (HPF.out _).mono ?_; rintro e wb ⟨G, rfl, hG, hb0⟩; have hbb := hba.trans (hb0.mono hba.size); obtain ⟨eb0, eb1, eb2, eb3, eb4⟩ := HZ.out _ hbb)
                    refine wpAny_ready (rs := [7]) (by kernel_rfl) (by simp) ?_
                    refine AllReady.cons rfl (fun K hK => ?_) ?_
                    · go_simp
                      refine hK _ _ ?_
                      clear hK K
                      refine wpAny_ready (rs := [8]) (by kernel_rfl) (by simp) ?_
                      refine AllReady.cons rfl (fun K hK => ?_) ?_
                      · go_simp
                        go_wp2_with (go_at_call 23; refine (HPH.out G _ _ hG).mono ?_; rintro e wd ⟨rfl, hd0⟩; have hbd := hbb.trans (hd0.mono hbb.size); obtain ⟨ed0, ed1, ed2, ed3, ed4⟩ := HZ.out _ hbd)
                        refine wpAny_ready (rs := [9]) (by kernel_rfl) (by simp) ?_
                        refine AllReady.cons rfl (fun K hK => ?_) ?_
                        · go_simp
                          refine hK _ _ ?_
                          clear hK K
                          refine wpAny_ready (rs := [10]) (by kernel_rfl) (by simp) ?_
                          refine AllReady.cons rfl (fun K hK => ?_) ?_
                          · go_simp
                            refine hK _ _ ?_
                            clear hK K
                            refine wpAny_ready (rs := [11]) (by kernel_rfl) (by simp) ?_
                            refine AllReady.cons rfl (fun K hK => ?_) ?_
                            · go_simp
                              refine hK _ _ ?_
                              clear hK K
                              refine wpAny_ready (rs := [12, 13]) (by kernel_rfl) (by simp) ?_
                              refine AllReady.cons rfl (fun K hK => ?_) ?_
                              · go_simp
                                refine hK _ _ ?_
                                clear hK K
                                refine wpAny_ready (rs := [13]) (by kernel_rfl) (by simp) ?_
                                refine AllReady.cons rfl (fun K hK => ?_) ?_
                                · go_simp
                                  refine hK _ _ ?_
                                  clear hK K
                                  refine wpAny_ready (rs := [14]) (by kernel_rfl) (by simp) ?_
                                  refine AllReady.cons rfl (fun K hK => ?_) ?_
                                  · go_simp
                                    refine hK _ _ ?_
                                    clear hK K
                                    refine wpAny_ready (rs := [15]) (by kernel_rfl) (by simp) ?_
                                    refine AllReady.cons rfl (fun K hK => ?_) ?_
                                    · go_simp
                                      refine hK _ _ ?_
                                      clear hK K
                                      refine wpAny_ready (rs := [16]) (by kernel_rfl) (by simp) ?_
                                      refine AllReady.cons rfl (fun K hK => ?_) ?_
                                      · go_simp
                                        refine hK _ _ ?_
                                        clear hK K
                                        refine wpAny_ready (rs := [17]) (by kernel_rfl) (by simp) ?_
                                        refine AllReady.cons rfl (fun K hK => ?_) ?_
                                        · go_simp
                                          refine hK _ _ ?_
                                          clear hK K
                                          refine wpAny_done (by kernel_rfl) ?_ _
                                          have HBW := vl (HBB.out _ hbd)
                                          clear HZ HTK HPF HPH HBB
                                          go_wp2
                                          go_ret2
                                          exact ⟨_, by rw [HX.out]; rfl, Or.inl ⟨rfl, HN.out⟩, HBW.out⟩
                                        exact AllReady.nil
                                      exact AllReady.nil
                                    exact AllReady.nil
                                  exact AllReady.nil
                                exact AllReady.nil
                              refine AllReady.cons rfl (fun K hK => ?_) ?_
                              · go_simp
                                refine hK _ _ ?_
                                clear hK K
                                refine wpAny_ready (rs := [12, 14]) (by kernel_rfl) (by simp) ?_
                                refine AllReady.cons rfl (fun K hK => ?_) ?_
                                · go_simp
                                  refine hK _ _ ?_
                                  clear hK K
                                  refine wpAny_ready (rs := [14]) (by kernel_rfl) (by simp) ?_
                                  refine AllReady.cons rfl (fun K hK => ?_) ?_
                                  · go_simp
                                    refine hK _ _ ?_
                                    clear hK K
                                    refine wpAny_ready (rs := [15]) (by kernel_rfl) (by simp) ?_
                                    refine AllReady.cons rfl (fun K hK => ?_) ?_
                                    · go_simp
                                      refine hK _ _ ?_
                                      clear hK K
                                      refine wpAny_ready (rs := [16]) (by kernel_rfl) (by simp) ?_
                                      refine AllReady.cons rfl (fun K hK => ?_) ?_
                                      · go_simp
                                        refine hK _ _ ?_
                                        clear hK K
                                        refine wpAny_ready (rs := [17]) (by kernel_rfl) (by simp) ?_
                                        refine AllReady.cons rfl (fun K hK => ?_) ?_
                                        · go_simp
                                          refine hK _ _ ?_
                                          clear hK K
                                          refine wpAny_done (by kernel_rfl) ?_ _
                                          have HBW := vl (HBB.out _ hbd)
                                          clear HZ HTK HPF HPH HBB
                                          go_wp2
                                          go_ret2
                                          exact ⟨_, by rw [HX.out]; rfl, Or.inl ⟨rfl, HN.out⟩, HBW.out⟩
                                        exact AllReady.nil
                                      exact AllReady.nil
                                    exact AllReady.nil
                                  exact AllReady.nil
                                refine AllReady.cons rfl (fun K hK => ?_) ?_
                                · go_simp
                                  refine hK _ _ ?_
                                  clear hK K
                                  refine wpAny_ready (rs := [12]) (by kernel_rfl) (by simp) ?_
                                  refine AllReady.cons rfl (fun K hK => ?_) ?_
                                  · go_simp
                                    refine hK _ _ ?_
                                    clear hK K
                                    refine wpAny_ready (rs := [15]) (by kernel_rfl) (by simp) ?_
                                    refine AllReady.cons rfl (fun K hK => ?_) ?_
                                    · go_simp
                                      refine hK _ _ ?_
                                      clear hK K
                                      refine wpAny_ready (rs := [16]) (by kernel_rfl) (by simp) ?_
                                      refine AllReady.cons rfl (fun K hK => ?_) ?_
                                      · go_simp
                                        refine hK _ _ ?_
                                        clear hK K
                                        refine wpAny_ready (rs := [17]) (by kernel_rfl) (by simp) ?_
                                        refine AllReady.cons rfl (fun K hK => ?_) ?_
                                        · go_simp
                                          refine hK _ _ ?_
                                          clear hK K
                                          refine wpAny_done (by kernel_rfl) ?_ _
                                          have HBW := vl (HBB.out _ hbd)
                                          clear HZ HTK HPF HPH HBB
                                          go_wp2
                                          go_ret2
                                          exact ⟨_, by rw [HX.out]; rfl, Or.inl ⟨rfl, HN.out⟩, HBW.out⟩
                                        exact AllReady.nil
                                      exact AllReady.nil
                                    exact AllReady.nil
                                  exact AllReady.nil
                                exact AllReady.nil
                              exact AllReady.nil
                            exact AllReady.nil
                          exact AllReady.nil
                        exact AllReady.nil
                      exact AllReady.nil
                    exact AllReady.nil
                  refine AllReady.cons rfl (fun K hK => ?_) ?_
                  · go_simp
                    refine hK _ _ ?_
                    clear hK K
                    refine wpAny_ready (rs := [5]) (by kernel_rfl) (by simp) ?_
                    refine AllReady.cons rfl (fun K hK => ?_) ?_
                    · go_simp
                      go_wp2_with (go_at_call 13; refine (HPF.out _).mono ?_; rintro e wb ⟨G, rfl, hG, hb0⟩; have hbb := hba.trans (hb0.mono hba.size); obtain ⟨eb0, eb1, eb2, eb3, eb4⟩ := HZ.out _ hbb)
                      refine wpAny_ready (rs := [8]) (by kernel_rfl) (by simp) ?_
                      refine AllReady.cons rfl (fun K hK => ?_) ?_
                      · go_simp
                        go_wp2_with (go_at_call 23; refine (HPH.out G _ _ hG).mono ?_; rintro e wd ⟨rfl, hd0⟩; have hbd := hbb.trans (hd0.mono hbb.size); obtain ⟨ed0, ed1, ed2, ed3, ed4⟩ := HZ.out _ hbd)
                        refine wpAny_ready (rs := [9]) (by kernel_rfl) (by simp) ?_
                        refine AllReady.cons rfl (fun K hK => ?_) ?_
                        · go_simp
                          refine hK _ _ ?_
                          clear hK K
                          refine wpAny_ready (rs := [10]) (by kernel_rfl) (by simp) ?_
                          refine AllReady.cons rfl (fun K hK => ?_) ?_
                          · go_simp
                            refine hK _ _ ?_
                            clear hK K
                            refine wpAny_ready (rs := [11]) (by kernel_rfl) (by simp) ?_
                            refine AllReady.cons rfl (fun K hK => ?_) ?_
                            · go_simp
                              refine hK _ _ ?_
                              clear hK K
                              refine wpAny_ready (rs := [12, 13]) (by kernel_rfl) (by simp) ?_
                              refine AllReady.cons rfl (fun K hK => ?_) ?_
                              · go_simp
                                refine hK _ _ ?_
                                clear hK K
                                refine wpAny_ready (rs := [13]) (by kernel_rfl) (by simp) ?_
                                refine AllReady.cons rfl (fun K hK => ?_) ?_
                                · go_simp
                                  refine hK _ _ ?_
                                  clear hK K
                                  refine wpAny_ready (rs := [14]) (by kernel_rfl) (by simp) ?_
                                  refine AllReady.cons rfl (fun K hK => ?_) ?_
                                  · go_simp
                                    refine hK _ _ ?_
                                    clear hK K
                                    refine wpAny_ready (rs := [15]) (by kernel_rfl) (by simp) ?_
                                    refine AllReady.cons rfl (fun K hK => ?_) ?_
                                    · go_simp
                                      refine hK _ _ ?_
                                      clear hK K
                                      refine wpAny_ready (rs := [16]) (by kernel_rfl) (by simp) ?_
                                      refine AllReady.cons rfl (fun K hK => ?_) ?_
                                      · go_simp
                                        refine hK _ _ ?_
                                        clear hK K
                                        refine wpAny_ready (rs := [17]) (by kernel_rfl) (by simp) ?_
                                        refine AllReady.cons rfl (fun K hK => ?_) ?_
                                        · go_simp
                                          refine hK _ _ ?_
                                          clear hK K
                                          refine wpAny_done (by kernel_rfl) ?_ _
                                          have HBW := vl (HBB.out _ hbd)
                                          clear HZ HTK HPF HPH HBB
                                          go_wp2
                                          go_ret2
                                          exact ⟨_, by rw [HX.out]; rfl, Or.inl ⟨rfl, HN.out⟩, HBW.out⟩
                                        exact AllReady.nil
                                      exact AllReady.nil
                                    exact AllReady.nil
                                  exact AllReady.nil
                                exact AllReady.nil
                              refine AllReady.cons rfl (fun K hK => ?_) ?_
                              · go_simp
                                refine hK _ _ ?_
                                clear hK K
                                refine wpAny_ready (rs := [12, 14]) (by kernel_rfl) (by simp) ?_
                                refine AllReady.cons rfl (fun K hK => ?_) ?_
                                · go_simp
                                  refine hK _ _ ?_
                                  clear hK K
                                  refine wpAny_ready (rs := [14]) (by kernel_rfl) (by simp) ?_
                                  refine AllReady.cons rfl (fun K hK => ?_) ?_
                                  · go_simp
                                    refine hK _ _ ?_
                                    clear hK K
                                    refine wpAny_ready (rs := [15]) (by kernel_rfl) (by simp) ?_
                                    refine AllReady.cons rfl (fun K hK => ?_) ?_
                                    · go_simp
                                      refine hK _ _ ?_
                                      clear hK K
                                      refine wpAny_ready (rs := [16]) (by kernel_rfl) (by simp) ?_
                                      refine AllReady.cons rfl (fun K hK => ?_) ?_
                                      · go_simp
                                        refine hK _ _ ?_
                                        clear hK K
                                        refine wpAny_ready (rs := [17]) (by kernel_rfl) (by simp) ?_
                                        refine AllReady.cons rfl (fun K hK => ?_) ?_
                                        · go_simp
                                          refine hK _ _ ?_
                                          clear hK K
                                          refine wpAny_done (by kernel_rfl) ?_ _
                                          have HBW := vl (HBB.out _ hbd)
                                          clear HZ HTK HPF HPH HBB
                                          go_wp2
                                          go_ret2
                                          exact ⟨_, by rw [HX.out]; rfl, Or.inl ⟨rfl, HN.out⟩, HBW.out⟩
                                        exact AllReady.nil
                                      exact AllReady.nil
                                    exact AllReady.nil
                                  exact AllReady.nil
                                refine AllReady.cons rfl (fun K hK => ?_) ?_
                                · go_simp
                                  refine hK _ _ ?_
                                  clear hK K
                                  refine wpAny_ready (rs := [12]) (by kernel_rfl) (by simp) ?_
                                  refine AllReady.cons rfl (fun K hK => ?_) ?_
                                  · go_simp
                                    refine hK _ _ ?_
                                    clear hK K
                                    refine wpAny_ready (rs := [15]) (by kernel_rfl) (by simp) ?_
                                    refine AllReady.cons rfl (fun K hK => ?_) ?_
                                    · go_simp
                                      refine hK _ _ ?_
                                      clear hK K
                                      refine wpAny_ready (rs := [16]) (by kernel_rfl) (by simp) ?_
                                      refine AllReady.cons rfl (fun K hK => ?_) ?_
                                      · go_simp
                                        refine hK _ _ ?_
                                        clear hK K
                                        refine wpAny_ready (rs := [17]) (by kernel_rfl) (by simp) ?_
                                        refine AllReady.cons rfl (fun K hK => ?_) ?_
                                        · go_simp
                                          refine hK _ _ ?_
                                          clear hK K
                                          refine wpAny_done (by kernel_rfl) ?_ _
                                          have HBW := vl (HBB.out _ hbd)
                                          clear HZ HTK HPF HPH HBB
                                          go_wp2
                                          go_ret2
                                          exact ⟨_, by rw [HX.out]; rfl, Or.inl ⟨rfl, HN.out⟩, HBW.out⟩
                                        exact AllReady.nil
                                      exact AllReady.nil
                                    exact AllReady.nil
                                  exact AllReady.nil
                                exact AllReady.nil
                              exact AllReady.nil
                            exact AllReady.nil
                          exact AllReady.nil
                        exact AllReady.nil
                      exact AllReady.nil
                    exact AllReady.nil
                  exact AllReady.nil
                exact AllReady.nil
              exact AllReady.nil
            exact AllReady.nil
          exact AllReady.nil
        exact AllReady.nil
      exact AllReady.nil
    · have hb1' : tokL (unums m) = false := by simpa using hb1
      rw [hb1'] at HTK
      rw [if_neg (by rw [hb1']; simp)] at hparts
      have HX := vl hparts
      have HN := vl (HAO.out (by omega))
      clear hparts hbad HAO hb1 hb1'
      go_enter Tryz.func5, Tryz.ntmps5
      go_wp2_with fail
      try rw [HW1.out]
      refine HM.out.mono ?_
      rintro e w' ⟨rfl, rfl⟩
      go_wp2_with fail
      refine wp_region_any (by kernel_rfl) ?_
      change wpAny _ _ _ _ _ _ _ (World.drew _)
      refine wpAny_ready (rs := [0]) (by kernel_rfl) (by simp) ?_
      refine AllReady.cons rfl (fun K hK => ?_) ?_
      · go_simp
        refine hK _ _ ?_
        clear hK K
        refine wpAny_ready (rs := [1]) (by kernel_rfl) (by simp) ?_
        refine AllReady.cons rfl (fun K hK => ?_) ?_
        · go_simp
          refine hK _ _ ?_
          clear hK K
          refine wpAny_ready (rs := [2]) (by kernel_rfl) (by simp) ?_
          refine AllReady.cons rfl (fun K hK => ?_) ?_
          · go_simp
            go_wp2_with (go_at_call 22; refine HTK.out.mono ?_; rintro e wa ⟨rfl, hba⟩; obtain ⟨ea0, ea1, ea2, ea3, ea4⟩ := HZ.out _ hba)
            refine wpAny_ready (rs := [3]) (by kernel_rfl) (by simp) ?_
            refine AllReady.cons rfl (fun K hK => ?_) ?_
            · go_simp
              refine hK _ _ ?_
              clear hK K
              refine wpAny_ready (rs := [4]) (by kernel_rfl) (by simp) ?_
              refine AllReady.cons rfl (fun K hK => ?_) ?_
              · go_simp
                refine hK _ _ ?_
                clear hK K
                refine wpAny_ready (rs := [5, 6]) (by kernel_rfl) (by simp) ?_
                refine AllReady.cons rfl (fun K hK => ?_) ?_
                · go_simp
                  refine hK _ _ ?_
                  clear hK K
                  refine wpAny_ready (rs := [6]) (by kernel_rfl) (by simp) ?_
                  refine AllReady.cons rfl (fun K hK => ?_) ?_
                  · go_simp
                    refine hK _ _ ?_
                    clear hK K
                    refine wpAny_ready (rs := [7]) (by kernel_rfl) (by simp) ?_
                    refine AllReady.cons rfl (fun K hK => ?_) ?_
                    · go_simp
                      refine hK _ _ ?_
                      clear hK K
                      refine wpAny_ready (rs := [8]) (by kernel_rfl) (by simp) ?_
                      refine AllReady.cons rfl (fun K hK => ?_) ?_
                      · go_simp
                        refine hK _ _ ?_
                        clear hK K
                        refine wpAny_ready (rs := [9]) (by kernel_rfl) (by simp) ?_
                        refine AllReady.cons rfl (fun K hK => ?_) ?_
                        · go_simp
                          refine hK _ _ ?_
                          clear hK K
                          refine wpAny_ready (rs := [10]) (by kernel_rfl) (by simp) ?_
                          refine AllReady.cons rfl (fun K hK => ?_) ?_
                          · go_simp
                            refine hK _ _ ?_
                            clear hK K
                            refine wpAny_ready (rs := [11]) (by kernel_rfl) (by simp) ?_
                            refine AllReady.cons rfl (fun K hK => ?_) ?_
                            · go_simp
                              refine hK _ _ ?_
                              clear hK K
                              refine wpAny_ready (rs := [12, 13]) (by kernel_rfl) (by simp) ?_
                              refine AllReady.cons rfl (fun K hK => ?_) ?_
                              · go_simp
                                refine hK _ _ ?_
                                clear hK K
                                refine wpAny_ready (rs := [13]) (by kernel_rfl) (by simp) ?_
                                refine AllReady.cons rfl (fun K hK => ?_) ?_
                                · go_simp
                                  refine hK _ _ ?_
                                  clear hK K
                                  refine wpAny_ready (rs := [14]) (by kernel_rfl) (by simp) ?_
                                  refine AllReady.cons rfl (fun K hK => ?_) ?_
                                  · go_simp
                                    refine hK _ _ ?_
                                    clear hK K
                                    refine wpAny_ready (rs := [15]) (by kernel_rfl) (by simp) ?_
                                    refine AllReady.cons rfl (fun K hK => ?_) ?_
                                    · go_simp
                                      refine hK _ _ ?_
                                      clear hK K
                                      refine wpAny_ready (rs := [16]) (by kernel_rfl) (by simp) ?_
                                      refine AllReady.cons rfl (fun K hK => ?_) ?_
                                      · go_simp
                                        refine hK _ _ ?_
                                        clear hK K
                                        refine wpAny_ready (rs := [17]) (by kernel_rfl) (by simp) ?_
                                        refine AllReady.cons rfl (fun K hK => ?_) ?_
                                        · go_simp
                                          refine hK _ _ ?_
                                          clear hK K
                                          refine wpAny_done (by kernel_rfl) ?_ _
                                          have HBW := vl (HBB.out _ hba)
                                          clear HZ HTK HPF HPH HBB
                                          go_wp2
                                          go_ret2
                                          exact ⟨_, by rw [HX.out]; rfl, Or.inl ⟨rfl, HN.out⟩, HBW.out⟩
                                        exact AllReady.nil
                                      exact AllReady.nil
                                    exact AllReady.nil
                                  exact AllReady.nil
                                exact AllReady.nil
                              refine AllReady.cons rfl (fun K hK => ?_) ?_
                              · go_simp
                                refine hK _ _ ?_
                                clear hK K
                                refine wpAny_ready (rs := [12, 14]) (by kernel_rfl) (by simp) ?_
                                refine AllReady.cons rfl (fun K hK => ?_) ?_
                                · go_simp
                                  refine hK _ _ ?_
                                  clear hK K
                                  refine wpAny_ready (rs := [14]) (by kernel_rfl) (by simp) ?_
                                  refine AllReady.cons rfl (fun K hK => ?_) ?_
                                  · go_simp
                                    refine hK _ _ ?_
                                    clear hK K
                                    refine wpAny_ready (rs := [15]) (by kernel_rfl) (by simp) ?_
                                    refine AllReady.cons rfl (fun K hK => ?_) ?_
                                    · go_simp
                                      refine hK _ _ ?_
                                      clear hK K
                                      refine wpAny_ready (rs := [16]) (by kernel_rfl) (by simp) ?_
                                      refine AllReady.cons rfl (fun K hK => ?_) ?_
                                      · go_simp
                                        refine hK _ _ ?_
                                        clear hK K
                                        refine wpAny_ready (rs := [17]) (by kernel_rfl) (by simp) ?_
                                        refine AllReady.cons rfl (fun K hK => ?_) ?_
                                        · go_simp
                                          refine hK _ _ ?_
                                          clear hK K
                                          refine wpAny_done (by kernel_rfl) ?_ _
                                          have HBW := vl (HBB.out _ hba)
                                          clear HZ HTK HPF HPH HBB
                                          go_wp2
                                          go_ret2
                                          exact ⟨_, by rw [HX.out]; rfl, Or.inl ⟨rfl, HN.out⟩, HBW.out⟩
                                        exact AllReady.nil
                                      exact AllReady.nil
                                    exact AllReady.nil
                                  exact AllReady.nil
                                refine AllReady.cons rfl (fun K hK => ?_) ?_
                                · go_simp
                                  refine hK _ _ ?_
                                  clear hK K
                                  refine wpAny_ready (rs := [12]) (by kernel_rfl) (by simp) ?_
                                  refine AllReady.cons rfl (fun K hK => ?_) ?_
                                  · go_simp
                                    refine hK _ _ ?_
                                    clear hK K
                                    refine wpAny_ready (rs := [15]) (by kernel_rfl) (by simp) ?_
                                    refine AllReady.cons rfl (fun K hK => ?_) ?_
                                    · go_simp
                                      refine hK _ _ ?_
                                      clear hK K
                                      refine wpAny_ready (rs := [16]) (by kernel_rfl) (by simp) ?_
                                      refine AllReady.cons rfl (fun K hK => ?_) ?_
                                      · go_simp
                                        refine hK _ _ ?_
                                        clear hK K
                                        refine wpAny_ready (rs := [17]) (by kernel_rfl) (by simp) ?_
                                        refine AllReady.cons rfl (fun K hK => ?_) ?_
                                        · go_simp
                                          refine hK _ _ ?_
                                          clear hK K
                                          refine wpAny_done (by kernel_rfl) ?_ _
                                          have HBW := vl (HBB.out _ hba)
                                          clear HZ HTK HPF HPH HBB
                                          go_wp2
                                          go_ret2
                                          exact ⟨_, by rw [HX.out]; rfl, Or.inl ⟨rfl, HN.out⟩, HBW.out⟩
                                        exact AllReady.nil
                                      exact AllReady.nil
                                    exact AllReady.nil
                                  exact AllReady.nil
                                exact AllReady.nil
                              exact AllReady.nil
                            exact AllReady.nil
                          exact AllReady.nil
                        exact AllReady.nil
                      exact AllReady.nil
                    exact AllReady.nil
                  exact AllReady.nil
                refine AllReady.cons rfl (fun K hK => ?_) ?_
                · go_simp
                  refine hK _ _ ?_
                  clear hK K
                  refine wpAny_ready (rs := [5, 7]) (by kernel_rfl) (by simp) ?_
                  refine AllReady.cons rfl (fun K hK => ?_) ?_
                  · go_simp
                    refine hK _ _ ?_
                    clear hK K
                    refine wpAny_ready (rs := [7]) (by kernel_rfl) (by simp) ?_
                    refine AllReady.cons rfl (fun K hK => ?_) ?_
                    · go_simp
                      refine hK _ _ ?_
                      clear hK K
                      refine wpAny_ready (rs := [8]) (by kernel_rfl) (by simp) ?_
                      refine AllReady.cons rfl (fun K hK => ?_) ?_
                      · go_simp
                        refine hK _ _ ?_
                        clear hK K
                        refine wpAny_ready (rs := [9]) (by kernel_rfl) (by simp) ?_
                        refine AllReady.cons rfl (fun K hK => ?_) ?_
                        · go_simp
                          refine hK _ _ ?_
                          clear hK K
                          refine wpAny_ready (rs := [10]) (by kernel_rfl) (by simp) ?_
                          refine AllReady.cons rfl (fun K hK => ?_) ?_
                          · go_simp
                            refine hK _ _ ?_
                            clear hK K
                            refine wpAny_ready (rs := [11]) (by kernel_rfl) (by simp) ?_
                            refine AllReady.cons rfl (fun K hK => ?_) ?_
                            · go_simp
                              refine hK _ _ ?_
                              clear hK K
                              refine wpAny_ready (rs := [12, 13]) (by kernel_rfl) (by simp) ?_
                              refine AllReady.cons rfl (fun K hK => ?_) ?_
                              · go_simp
                                refine hK _ _ ?_
                                clear hK K
                                refine wpAny_ready (rs := [13]) (by kernel_rfl) (by simp) ?_
                                refine AllReady.cons rfl (fun K hK => ?_) ?_
                                · go_simp
                                  refine hK _ _ ?_
                                  clear hK K
                                  refine wpAny_ready (rs := [14]) (by kernel_rfl) (by simp) ?_
                                  refine AllReady.cons rfl (fun K hK => ?_) ?_
                                  · go_simp
                                    refine hK _ _ ?_
                                    clear hK K
                                    refine wpAny_ready (rs := [15]) (by kernel_rfl) (by simp) ?_
                                    refine AllReady.cons rfl (fun K hK => ?_) ?_
                                    · go_simp
                                      refine hK _ _ ?_
                                      clear hK K
                                      refine wpAny_ready (rs := [16]) (by kernel_rfl) (by simp) ?_
                                      refine AllReady.cons rfl (fun K hK => ?_) ?_
                                      · go_simp
                                        refine hK _ _ ?_
                                        clear hK K
                                        refine wpAny_ready (rs := [17]) (by kernel_rfl) (by simp) ?_
                                        refine AllReady.cons rfl (fun K hK => ?_) ?_
                                        · go_simp
                                          refine hK _ _ ?_
                                          clear hK K
                                          refine wpAny_done (by kernel_rfl) ?_ _
                                          have HBW := vl (HBB.out _ hba)
                                          clear HZ HTK HPF HPH HBB
                                          go_wp2
                                          go_ret2
                                          exact ⟨_, by rw [HX.out]; rfl, Or.inl ⟨rfl, HN.out⟩, HBW.out⟩
                                        exact AllReady.nil
                                      exact AllReady.nil
                                    exact AllReady.nil
                                  exact AllReady.nil
                                exact AllReady.nil
                              refine AllReady.cons rfl (fun K hK => ?_) ?_
                              · go_simp
                                refine hK _ _ ?_
                                clear hK K
                                refine wpAny_ready (rs := [12, 14]) (by kernel_rfl) (by simp) ?_
                                refine AllReady.cons rfl (fun K hK => ?_) ?_
                                · go_simp
                                  refine hK _ _ ?_
                                  clear hK K
                                  refine wpAny_ready (rs := [14]) (by kernel_rfl) (by simp) ?_
                                  refine AllReady.cons rfl (fun K hK => ?_) ?_
                                  · go_simp
                                    refine hK _ _ ?_
                                    clear hK K
                                    refine wpAny_ready (rs := [15]) (by kernel_rfl) (by simp) ?_
                                    refine AllReady.cons rfl (fun K hK => ?_) ?_
                                    · go_simp
                                      refine hK _ _ ?_
                                      clear hK K
                                      refine wpAny_ready (rs := [16]) (by kernel_rfl) (by simp) ?_
                                      refine AllReady.cons rfl (fun K hK => ?_) ?_
                                      · go_simp
                                        refine hK _ _ ?_
                                        clear hK K
                                        refine wpAny_ready (rs := [17]) (by kernel_rfl) (by simp) ?_
                                        refine AllReady.cons rfl (fun K hK => ?_) ?_
                                        · go_simp
                                          refine hK _ _ ?_
                                          clear hK K
                                          refine wpAny_done (by kernel_rfl) ?_ _
                                          have HBW := vl (HBB.out _ hba)
                                          clear HZ HTK HPF HPH HBB
                                          go_wp2
                                          go_ret2
                                          exact ⟨_, by rw [HX.out]; rfl, Or.inl ⟨rfl, HN.out⟩, HBW.out⟩
                                        exact AllReady.nil
                                      exact AllReady.nil
                                    exact AllReady.nil
                                  exact AllReady.nil
                                refine AllReady.cons rfl (fun K hK => ?_) ?_
                                · go_simp
                                  refine hK _ _ ?_
                                  clear hK K
                                  refine wpAny_ready (rs := [12]) (by kernel_rfl) (by simp) ?_
                                  refine AllReady.cons rfl (fun K hK => ?_) ?_
                                  · go_simp
                                    refine hK _ _ ?_
                                    clear hK K
                                    refine wpAny_ready (rs := [15]) (by kernel_rfl) (by simp) ?_
                                    refine AllReady.cons rfl (fun K hK => ?_) ?_
                                    · go_simp
                                      refine hK _ _ ?_
                                      clear hK K
                                      refine wpAny_ready (rs := [16]) (by kernel_rfl) (by simp) ?_
                                      refine AllReady.cons rfl (fun K hK => ?_) ?_
                                      · go_simp
                                        refine hK _ _ ?_
                                        clear hK K
                                        refine wpAny_ready (rs := [17]) (by kernel_rfl) (by simp) ?_
                                        refine AllReady.cons rfl (fun K hK => ?_) ?_
                                        · go_simp
                                          refine hK _ _ ?_
                                          clear hK K
                                          refine wpAny_done (by kernel_rfl) ?_ _
                                          have HBW := vl (HBB.out _ hba)
                                          clear HZ HTK HPF HPH HBB
                                          go_wp2
                                          go_ret2
                                          exact ⟨_, by rw [HX.out]; rfl, Or.inl ⟨rfl, HN.out⟩, HBW.out⟩
                                        exact AllReady.nil
                                      exact AllReady.nil
                                    exact AllReady.nil
                                  exact AllReady.nil
                                exact AllReady.nil
                              exact AllReady.nil
                            exact AllReady.nil
                          exact AllReady.nil
                        exact AllReady.nil
                      exact AllReady.nil
                    exact AllReady.nil
                  refine AllReady.cons rfl (fun K hK => ?_) ?_
                  · go_simp
                    refine hK _ _ ?_
                    clear hK K
                    refine wpAny_ready (rs := [5]) (by kernel_rfl) (by simp) ?_
                    refine AllReady.cons rfl (fun K hK => ?_) ?_
                    · go_simp
                      refine hK _ _ ?_
                      clear hK K
                      refine wpAny_ready (rs := [8]) (by kernel_rfl) (by simp) ?_
                      refine AllReady.cons rfl (fun K hK => ?_) ?_
                      · go_simp
                        refine hK _ _ ?_
                        clear hK K
                        refine wpAny_ready (rs := [9]) (by kernel_rfl) (by simp) ?_
                        refine AllReady.cons rfl (fun K hK => ?_) ?_
                        · go_simp
                          refine hK _ _ ?_
                          clear hK K
                          refine wpAny_ready (rs := [10]) (by kernel_rfl) (by simp) ?_
                          refine AllReady.cons rfl (fun K hK => ?_) ?_
                          · go_simp
                            refine hK _ _ ?_
                            clear hK K
                            refine wpAny_ready (rs := [11]) (by kernel_rfl) (by simp) ?_
                            refine AllReady.cons rfl (fun K hK => ?_) ?_
                            · go_simp
                              refine hK _ _ ?_
                              clear hK K
                              refine wpAny_ready (rs := [12, 13]) (by kernel_rfl) (by simp) ?_
                              refine AllReady.cons rfl (fun K hK => ?_) ?_
                              · go_simp
                                refine hK _ _ ?_
                                clear hK K
                                refine wpAny_ready (rs := [13]) (by kernel_rfl) (by simp) ?_
                                refine AllReady.cons rfl (fun K hK => ?_) ?_
                                · go_simp
                                  refine hK _ _ ?_
                                  clear hK K
                                  refine wpAny_ready (rs := [14]) (by kernel_rfl) (by simp) ?_
                                  refine AllReady.cons rfl (fun K hK => ?_) ?_
                                  · go_simp
                                    refine hK _ _ ?_
                                    clear hK K
                                    refine wpAny_ready (rs := [15]) (by kernel_rfl) (by simp) ?_
                                    refine AllReady.cons rfl (fun K hK => ?_) ?_
                                    · go_simp
                                      refine hK _ _ ?_
                                      clear hK K
                                      refine wpAny_ready (rs := [16]) (by kernel_rfl) (by simp) ?_
                                      refine AllReady.cons rfl (fun K hK => ?_) ?_
                                      · go_simp
                                        refine hK _ _ ?_
                                        clear hK K
                                        refine wpAny_ready (rs := [17]) (by kernel_rfl) (by simp) ?_
                                        refine AllReady.cons rfl (fun K hK => ?_) ?_
                                        · go_simp
                                          refine hK _ _ ?_
                                          clear hK K
                                          refine wpAny_done (by kernel_rfl) ?_ _
                                          have HBW := vl (HBB.out _ hba)
                                          clear HZ HTK HPF HPH HBB
                                          go_wp2
                                          go_ret2
                                          exact ⟨_, by rw [HX.out]; rfl, Or.inl ⟨rfl, HN.out⟩, HBW.out⟩
                                        exact AllReady.nil
                                      exact AllReady.nil
                                    exact AllReady.nil
                                  exact AllReady.nil
                                exact AllReady.nil
                              refine AllReady.cons rfl (fun K hK => ?_) ?_
                              · go_simp
                                refine hK _ _ ?_
                                clear hK K
                                refine wpAny_ready (rs := [12, 14]) (by kernel_rfl) (by simp) ?_
                                refine AllReady.cons rfl (fun K hK => ?_) ?_
                                · go_simp
                                  refine hK _ _ ?_
                                  clear hK K
                                  refine wpAny_ready (rs := [14]) (by kernel_rfl) (by simp) ?_
                                  refine AllReady.cons rfl (fun K hK => ?_) ?_
                                  · go_simp
                                    refine hK _ _ ?_
                                    clear hK K
                                    refine wpAny_ready (rs := [15]) (by kernel_rfl) (by simp) ?_
                                    refine AllReady.cons rfl (fun K hK => ?_) ?_
                                    · go_simp
                                      refine hK _ _ ?_
                                      clear hK K
                                      refine wpAny_ready (rs := [16]) (by kernel_rfl) (by simp) ?_
                                      refine AllReady.cons rfl (fun K hK => ?_) ?_
                                      · go_simp
                                        refine hK _ _ ?_
                                        clear hK K
                                        refine wpAny_ready (rs := [17]) (by kernel_rfl) (by simp) ?_
                                        refine AllReady.cons rfl (fun K hK => ?_) ?_
                                        · go_simp
                                          refine hK _ _ ?_
                                          clear hK K
                                          refine wpAny_done (by kernel_rfl) ?_ _
                                          have HBW := vl (HBB.out _ hba)
                                          clear HZ HTK HPF HPH HBB
                                          go_wp2
                                          go_ret2
                                          exact ⟨_, by rw [HX.out]; rfl, Or.inl ⟨rfl, HN.out⟩, HBW.out⟩
                                        exact AllReady.nil
                                      exact AllReady.nil
                                    exact AllReady.nil
                                  exact AllReady.nil
                                refine AllReady.cons rfl (fun K hK => ?_) ?_
                                · go_simp
                                  refine hK _ _ ?_
                                  clear hK K
                                  refine wpAny_ready (rs := [12]) (by kernel_rfl) (by simp) ?_
                                  refine AllReady.cons rfl (fun K hK => ?_) ?_
                                  · go_simp
                                    refine hK _ _ ?_
                                    clear hK K
                                    refine wpAny_ready (rs := [15]) (by kernel_rfl) (by simp) ?_
                                    refine AllReady.cons rfl (fun K hK => ?_) ?_
                                    · go_simp
                                      refine hK _ _ ?_
                                      clear hK K
                                      refine wpAny_ready (rs := [16]) (by kernel_rfl) (by simp) ?_
                                      refine AllReady.cons rfl (fun K hK => ?_) ?_
                                      · go_simp
                                        refine hK _ _ ?_
                                        clear hK K
                                        refine wpAny_ready (rs := [17]) (by kernel_rfl) (by simp) ?_
                                        refine AllReady.cons rfl (fun K hK => ?_) ?_
                                        · go_simp
                                          refine hK _ _ ?_
                                          clear hK K
                                          refine wpAny_done (by kernel_rfl) ?_ _
                                          have HBW := vl (HBB.out _ hba)
                                          clear HZ HTK HPF HPH HBB
                                          go_wp2
                                          go_ret2
                                          exact ⟨_, by rw [HX.out]; rfl, Or.inl ⟨rfl, HN.out⟩, HBW.out⟩
                                        exact AllReady.nil
                                      exact AllReady.nil
                                    exact AllReady.nil
                                  exact AllReady.nil
                                exact AllReady.nil
                              exact AllReady.nil
                            exact AllReady.nil
                          exact AllReady.nil
                        exact AllReady.nil
                      exact AllReady.nil
                    exact AllReady.nil
                  exact AllReady.nil
                exact AllReady.nil
              exact AllReady.nil
            exact AllReady.nil
          exact AllReady.nil
        exact AllReady.nil
      exact AllReady.nil
end Go.Proofs.YtkaihfminlincafGreatDoor
/-
  MESSAGES AS LINES: the developers' writer: Ask, where what stands ahead is right. No claim by itself.
-/
namespace Go.Proofs.YtkaihfminlincafGreatDoor
open Go Go.RowKit Go.Shelf
set_option maxRecDepth 100000
/-- The first line of a request. -/
theorem ask_first (m p : ByteArray) : unums (m ++ ⟨#[32]⟩ ++ p ++ ⟨#[32]⟩ ++ ⟨#[69, 68, 71, 69, 47, 49]⟩ ++ ⟨#[13, 10]⟩) = unums m ++ ([32] ++ (unums p ++ [32, 69, 68, 71, 69, 47, 49, 13, 10])) := by
  simp only [unums_app]
  rw [show unums ⟨#[32]⟩ = [32] from rfl, show unums ⟨#[69, 68, 71, 69, 47, 49]⟩ = [69, 68, 71, 69, 47, 49] from rfl, show unums ⟨#[13, 10]⟩ = [13, 10] from rfl]
  simp
set_option maxHeartbeats 4000000 in
theorem nask_good (q : RqM) (w : World) (h : RqIn w q) (hT : NLaid w) (hm : muchB q.fn q.bn = false) (ht : tokL (unums q.m) = true) (hp : wordL (unums q.p) = true) :
    Calls Tryz.prog 5 #[q.val] w fun e w' => ∃ v, e = .returned (.tuple #[v, errW (askE q.rq)]) ∧ UOwn w' w.heap.size v (askOut q.rq) ∧ Below w.heap.size w w' := by
  have hparts := ask_parts h
  rw [hm, if_neg (by simp), ht, hp] at hparts
  simp only [true_and] at hparts
  have HQ := vl h
  have HALL : Vl (askE q.rq = 0 → askL q.rq = unums q.m ++ ([32] ++ (unums q.p ++ [32, 69, 68, 71, 69, 47, 49, 13, 10])) ++ lineOf (hostN, unums q.h) ++ linesL (fdsOf q.FL) ++ tailL q.B) := fun _ => by
    unfold askL RqM.rq edgeHost lineOf hostN
    simp
  obtain ⟨m, p, ho, fa, fn, fc, ba, bn, bc, FL, B⟩ := q
  obtain ⟨h1, h2, h3, ⟨h4, h5⟩, ⟨h6, h7, h8⟩, h9⟩ := h
  simp only at h1 h2 h3 h4 h5 h6 h7 h8 h9 hparts hm ht hp HALL
  have hmm := of_decide_eq_false hm
  have hfl := h1.len
  have hbl := h2.len
  have sm : m.size ≤ 400 := by have := (tok_ok ht).2.1; rwa [unums_len] at this
  have sp : p.size ≤ 400 := by have := (word_ok hp).2.1; rwa [unums_len] at this
  obtain ⟨W1, hW1⟩ : ∃ W1, w.alloc (.cells #[.string m, .string p, .string ho, .slice fa fn fc, .slice ba bn bc] 25) = W1 := ⟨_, rfl⟩
  have HW : Vl (Below w.heap.size w W1) := by rw [← hW1]; exact (Below.refl _ _).alloc (Nat.le_refl _) _
  have hx : W1.heap[w.heap.size]? = some (.cells #[.string m, .string p, .string ho, .slice fa fn fc, .slice ba bn bc] 25 (0, 0)) := by rw [← hW1]; exact heap_alloc_new w _
  obtain ⟨c0, c1, c2, c3, c4⟩ := q5_cell hx
  have hlt : w.heap.size < W1.heap.size := (Array.getElem?_eq_some_iff.1 hx).1
  have HM := vl (ntoo_any fa ba fn fc bn bc W1)
  rw [hm] at HM
  obtain ⟨EA, hEA⟩ : ∃ EA, askE (RqM.rq ⟨m, p, ho, fa, fn, fc, ba, bn, bc, FL, B⟩) = EA := ⟨_, rfl⟩
  rw [hEA] at hparts HALL
  have HEA := vl hEA
  obtain ⟨AO, hAO⟩ : ∃ AO, askOut (RqM.rq ⟨m, p, ho, fa, fn, fc, ba, bn, bc, FL, B⟩) = AO := ⟨_, rfl⟩
  have HAO : Vl (EA ≠ 0 → AO = []) := fun he => by
    rw [← hAO]
    unfold askOut
    rw [if_neg (by rw [HEA.out]; exact he)]
  have HAO0 : Vl (EA = 0 → AO = unums m ++ ([32] ++ (unums p ++ [32, 69, 68, 71, 69, 47, 49, 13, 10])) ++ lineOf (hostN, unums ho) ++ linesL (fdsOf FL) ++ tailL B) := fun he => by
    rw [← hAO]
    unfold askOut
    rw [if_pos (by rw [HEA.out]; exact he)]
    exact HALL.out he
  rw [hEA, hAO]
  unfold RqM.val
  simp only
  have HW1 := vl hW1
  have HT := vl hT
  have HZ : Vl (∀ w1, Below W1.heap.size W1 w1 → w1.cell? ⟨w.heap.size, 0, none⟩ = some (.string m) ∧ w1.cell? ⟨w.heap.size, 1, none⟩ = some (.string p) ∧ w1.cell? ⟨w.heap.size, 2, none⟩ = some (.string ho) ∧ w1.cell? ⟨w.heap.size, 3, none⟩ = some (.slice fa fn fc) ∧ w1.cell? ⟨w.heap.size, 4, none⟩ = some (.slice ba bn bc)) := fun w1 hb => ⟨(hb.cell (p := ⟨w.heap.size, 0, none⟩) hlt).trans c0, (hb.cell (p := ⟨w.heap.size, 1, none⟩) hlt).trans c1, (hb.cell (p := ⟨w.heap.size, 2, none⟩) hlt).trans c2, (hb.cell (p := ⟨w.heap.size, 3, none⟩) hlt).trans c3, (hb.cell (p := ⟨w.heap.size, 4, none⟩) hlt).trans c4⟩
  have HBB : Vl (∀ w1, Below W1.heap.size W1 w1 → Below w.heap.size w w1) := fun w1 hb => HW.out.trans (hb.mono HW.out.size)
  have HTK := vl (ntoken_any m W1.drew h6)
  rw [ht] at HTK
  have HPF := vl (fun W => npathf_any W)
  have HPH : Vl (∀ (G : Value) (B : Nat) (W : World), MayF W B G ok2 → Calls Tryz.prog 23 #[formV 1 G, .string p] W fun e w' => e = .returned (.bool true) ∧ Below W.heap.size W w') := fun G B W hG => by
    have := nholds_any 1 G ok2 B p W hG h7
    rw [form_word, hp] at this
    exact this
  have HQF := vl (fun W => nplainf_any 1 W)
  have HQH : Vl (∀ W, Calls Tryz.prog 23 #[formV 1 (.func (.func 59) #[] #[]), .string ho] W fun e w' => e = .returned (.bool (formL ok3 1 (unums ho))) ∧ Below W.heap.size W w') := fun W => nholds_any 1 _ ok3 0 ho W (mayf_plain W 0) h8
  have HCF : Vl (∀ W, Below w.heap.size w W → Calls Tryz.prog 25 #[.slice fa fn fc] W fun e w' => e = .returned (errW (fldsE (fdsOf FL))) ∧ Below W.heap.size W w') := fun W hb => ncheckf_any fa fn fc FL W (h1.below hb) h4 h9
  obtain ⟨b3, hb3⟩ : ∃ b3, formL ok3 1 (unums ho) = b3 := ⟨_, rfl⟩
  rw [hb3] at HQH hparts
  have HB3 := vl hb3
  have HF1 := vl h1
  have HBo := vl h2
  have HNI := vl h3
  unfold formV at HPF HPH HQF HQH
  clear hW1 hx hEA hAO hb3 h1 h2 h3 h6 h7 h8 h9 hT HALL hm ht hp
  go_enter Tryz.func5, Tryz.ntmps5
  go_wp2_with fail
  try rw [HW1.out]
  clear HW1
  refine HM.out.mono ?_
  rintro e w' ⟨rfl, rfl⟩
  go_wp2_with fail
  go_region_held3 (fun w1 => w1.cell? ⟨w.heap.size, 0, none⟩ = some (.string m) ∧ w1.cell? ⟨w.heap.size, 1, none⟩ = some (.string p) ∧ w1.cell? ⟨w.heap.size, 2, none⟩ = some (.string ho))
    (first
      | go_keep
      | (have hz := HZ.out _ hbg; with_reducible exact ⟨hz.1, hz.2.1, hz.2.2.1⟩)
      | (have hz := HZ.out _ hbf; with_reducible exact ⟨hz.1, hz.2.1, hz.2.2.1⟩)
      | (have hz := HZ.out _ hbd; with_reducible exact ⟨hz.1, hz.2.1, hz.2.2.1⟩)
      | (have hz := HZ.out _ hbb; with_reducible exact ⟨hz.1, hz.2.1, hz.2.2.1⟩)
      | (have hz := HZ.out _ hba; with_reducible exact ⟨hz.1, hz.2.1, hz.2.2.1⟩))
    (first
      | (go_at_call 22; refine HTK.out.mono ?_; rintro e wa ⟨rfl, ha0⟩; have hba := (Below.refl _ W1).drew.trans ha0)
      | (go_at_call 13; refine (HPF.out _).mono ?_; rintro e wb ⟨G, rfl, hG, hb0⟩; have hbb := hba.trans (hb0.mono hba.size))
      | (go_at_call 24; refine (HQF.out _).mono ?_; rintro e wf ⟨rfl, hf0⟩; have hbf := hbd.trans (hf0.mono hbd.size))
      | (go_at_call 23; have hbg0 := hbf.size; refine (HQH.out _).mono ?_; rintro e wg ⟨rfl, hg0⟩; have hbg := hbf.trans (hg0.mono hbg0))
      | (go_at_call 23; refine (HPH.out G _ _ hG).mono ?_; rintro e wd ⟨rfl, hd0⟩; have hbd := hbb.trans (hd0.mono hbb.size)))
  have hbw := HBB.out _ hbg
  obtain ⟨g0, g1, g2, g3, g4⟩ := HZ.out _ hbg
  have HBG := vl hbg
  have HBW := vl hbw
  clear HTK HPF HPH HQF HQH hba hbb hbd hbf hbg hG ha0 hb0 hd0 hf0 hg0 hbg0 hbw c0 c1 c2 c3 c4 hlt HM
  cases b3 with
  | false =>
    simp only [Bool.false_eq_true, if_false] at hparts
    have HX := vl hparts
    have HN := vl (HAO.out (by omega))
    clear hparts HAO HAO0 HZ HBB HCF
    go_wp2
    go_ret2
    exact ⟨_, by rw [HX.out]; rfl, Or.inl ⟨rfl, HN.out⟩, HBW.out⟩
  | true =>
    simp only [if_true] at hparts
    have HC := vl (HCF.out wg HBW.out)
    rw [← hparts] at HC
    have HPT := vl hparts
    clear hparts HCF
    by_cases hE : EA = 0
    · subst hE
      rw [errW_0] at HC
      have HN := vl (HAO0.out rfl)
      have sh : ho.size ≤ 400 := by
        have h5 := HB3.out
        rw [form_plain, Bool.and_eq_true] at h5
        have := (plain_ok h5.1).1
        rwa [unums_len] at this
      clear HAO HAO0
      go_wp2_with fail
      refine HC.out.mono ?_
      rintro e w2 ⟨rfl, hb2⟩
      have hbW2 := HBG.out.trans (hb2.mono HBG.out.size)
      obtain ⟨k0, k1, k2, k3, k4⟩ := HZ.out _ hbW2
      have HB2 := vl (HBB.out _ hbW2)
      have HF := vl (ask_first m p)
      have hsz : (m ++ ⟨#[32]⟩ ++ p ++ ⟨#[32]⟩ ++ ⟨#[69, 68, 71, 69, 47, 49]⟩ ++ ⟨#[13, 10]⟩ : ByteArray).size ≤ 1000 := by
        rw [← unums_len, HF.out]
        simp [unums_len]
        omega
      obtain ⟨v3, w3, hcv, ho3, hb3⟩ := conv_val (m ++ ⟨#[32]⟩ ++ p ++ ⟨#[32]⟩ ++ ⟨#[69, 68, 71, 69, 47, 49]⟩ ++ ⟨#[13, 10]⟩) w2 (by omega)
      rw [HF.out] at ho3
      have hbase : w.heap.size ≤ w2.heap.size := HB2.out.size
      have hltw : w.heap.size < w2.heap.size := blk_of k0
      have j2 : w3.cell? ⟨w.heap.size, 2, none⟩ = some (.string ho) := (hb3.cell (p := ⟨w.heap.size, 2, none⟩) hltw).trans k2
      have hL3 : (unums m ++ ([32] ++ (unums p ++ [32, 69, 68, 71, 69, 47, 49, 13, 10]))).length ≤ 1000 := by rw [← HF.out, unums_len]; exact hsz
      have HAP := vl (napf_any w2.heap.size v3 _ ⟨#[104, 111, 115, 116]⟩ ho w3 ho3 (by omega) (by decide) (by omega) hb3.size)
      have HB3' : Vl (Below w.heap.size w w3) := HB2.out.trans (hb3.mono hbase)
      have HK3 : Vl (∀ W, Below w2.heap.size w3 W → W.cell? ⟨w.heap.size, 3, none⟩ = some (.slice fa fn fc) ∧ W.cell? ⟨w.heap.size, 4, none⟩ = some (.slice ba bn bc) ∧ Below w.heap.size w W ∧ w2.heap.size ≤ W.heap.size ∧ NLaid W) := fun W hb => by
        have hw : Below w.heap.size w W := HB3'.out.trans (hb.mono hbase)
        have e3 := (hb.cell (p := ⟨w.heap.size, 3, none⟩) hltw).trans ((hb3.cell (p := ⟨w.heap.size, 3, none⟩) hltw).trans k3)
        have e4 := (hb.cell (p := ⟨w.heap.size, 4, none⟩) hltw).trans ((hb3.cell (p := ⟨w.heap.size, 4, none⟩) hltw).trans k4)
        exact ⟨e3, e4, hw, Nat.le_trans hb3.size hb.size, HT.out.below hw⟩
      have HSZ := vl hb3.size
      clear ho3 hb3 hb2 hbW2 g0 g1 g2 g3 g4 HZ HBB HC
      go_wp2_with fail
      refine HAP.out.mono ?_
      rintro e w4 ⟨v4, rfl, ho4, hb4⟩
      obtain ⟨l3, l4, hw4, hs4, hT4⟩ := HK3.out w4 hb4
      have hll := lines_le (l := fdsOf FL) HPT.out.symm
      rw [fds_len] at hll
      have hL4 : (unums m ++ ([32] ++ (unums p ++ [32, 69, 68, 71, 69, 47, 49, 13, 10])) ++ lineOf (unums ⟨#[104, 111, 115, 116]⟩, unums ho)).length ≤ 2000 := by
        rw [List.length_append]
        have : (lineOf (unums ⟨#[104, 111, 115, 116]⟩, unums ho)).length ≤ 408 := by
          unfold lineOf
          simp [unums_len]
          have : (⟨#[104, 111, 115, 116]⟩ : ByteArray).size = 4 := rfl
          omega
        omega
      have HFS := vl (napfs_any w w2.heap.size v4 _ fa fn fc FL w4 HF1.out hbase hw4 ho4 (by omega) (by omega) HPT.out.symm hs4)
      have HB4 := vl hb4
      clear ho4 hb4 hw4 hs4 hT4 HAP k0 k1 k2 k3 k4 j2
      go_wp2_with fail
      refine HFS.out.mono ?_
      rintro e w5 ⟨v5, rfl, ho5, hb5⟩
      have hb35 := HB4.out.trans hb5
      obtain ⟨l3', l4', hw5, hs5, hT5⟩ := HK3.out w5 hb35
      have hll5 : (unums m ++ ([32] ++ (unums p ++ [32, 69, 68, 71, 69, 47, 49, 13, 10])) ++ lineOf (unums ⟨#[104, 111, 115, 116]⟩, unums ho) ++ linesL (fdsOf FL)).length ≤ 100000 := by
        rw [List.length_append]
        omega
      obtain ⟨L5, hL5⟩ : ∃ L5, unums m ++ ([32] ++ (unums p ++ [32, 69, 68, 71, 69, 47, 49, 13, 10])) ++ lineOf (unums ⟨#[104, 111, 115, 116]⟩, unums ho) ++ linesL (fdsOf FL) = L5 := ⟨_, rfl⟩
      rw [hL5] at ho5 hll5
      have HN5 : Vl (AO = L5 ++ tailL B) := by
        show AO = _
        rw [HN.out, ← hL5]
        rfl
      have HO5 := vl ho5
      have HB5 := vl hb35
      clear HFS HN hL5 ho5 hb5 hb35 HB4 hll hL4 hL3 hsz HF
      by_cases hb0 : bn = 0
      · have hB : B = [] := List.eq_nil_of_length_eq_zero (by omega)
        subst hB
        subst hb0
        have HA5 := vl (HBo.out.below hw5)
        clear hw5
        go_wp2_with (at_builtin; refine wpList_uapps _ rfl _ _ rfl w2.heap.size _ _ rfl HO5.out _ rfl [13, 10] rfl (by simp; omega) hs5 ?_)
        intro v6 w6 ho6 hg6
        have HO6 := vl ho6
        have HB6 := vl (u_below_grown HB5.out hg6 hs5 (fun k hk => (HO5.out.base k hk).1))
        obtain ⟨_, l4'', hw6, hs6, _⟩ := HK3.out w6 HB6.out
        have HA6 := vl (HBo.out.below hw6)
        clear ho6 hg6 hw6
        go_wp2_with (at_builtin; refine wpList_uapp _ rfl _ _ rfl w2.heap.size _ _ rfl HO6.out ba 0 bc [] rfl HA6.out (fun h => (HNI.out h).2) (by simp; omega) hs6 ?_)
        intro v7 w7 ho7 hg7
        have HO7 := vl ho7
        have HB7 := vl (u_below_grown HB6.out hg7 hs6 (fun k hk => (HO6.out.base k hk).1))
        clear ho7 hg7
        go_wp2
        go_ret2
        refine ⟨_, rfl, ?_, HB3'.out.trans (HB7.out.mono hbase)⟩
        rw [HN5.out]
        have := HO7.out.mono hbase
        simpa [tailL] using this
      · have hb0' : (0 : Int) < (bn : Int) := by omega
        have hBne : B ≠ [] := fun e => by rw [e] at hbl; simp at hbl; omega
        have HAL := vl (napl_any w2.heap.size v5 L5 ba bn bc w5 HO5.out (by omega) (by omega) hs5 hT5)
        clear hw5
        go_wp2_with fail
        refine HAL.out.mono ?_
        rintro e wl ⟨vl5, rfl, hol, hbl5⟩
        have HOL := vl hol
        have HBL : Vl (Below w2.heap.size w3 wl) := HB5.out.trans hbl5
        obtain ⟨_, l4l, hwl, hsl, _⟩ := HK3.out wl HBL.out
        have hdl := decL_le bn
        have hlll : (L5 ++ lineOf (lengthN, decL bn)).length ≤ 200000 := by
          rw [List.length_append]
          unfold lineOf lengthN
          simp
          omega
        clear hol hbl5 HAL hwl
        go_wp2_with (at_builtin; refine wpList_uapps _ rfl _ _ rfl w2.heap.size _ _ rfl HOL.out _ rfl [13, 10] rfl (by simp at hlll ⊢; omega) hsl ?_)
        intro v6 w6 ho6 hg6
        have HO6 := vl ho6
        have HB6 := vl (u_below_grown HBL.out hg6 hsl (fun k hk => (HOL.out.base k hk).1))
        obtain ⟨_, l4'', hw6, hs6, _⟩ := HK3.out w6 HB6.out
        have HA6 := vl (HBo.out.below hw6)
        clear ho6 hg6 hw6
        go_wp2_with (at_builtin; refine wpList_uapp _ rfl _ _ rfl w2.heap.size _ _ rfl HO6.out ba bn bc B rfl HA6.out (fun h => (HNI.out h).2) (by simp at hlll ⊢; omega) hs6 ?_)
        intro v7 w7 ho7 hg7
        have HO7 := vl ho7
        have HB7 := vl (u_below_grown HB6.out hg7 hs6 (fun k hk => (HO6.out.base k hk).1))
        clear ho7 hg7
        go_wp2
        go_ret2
        refine ⟨_, rfl, ?_, HB3'.out.trans (HB7.out.mono hbase)⟩
        rw [HN5.out]
        have := HO7.out.mono hbase
        simpa [tailL, hBne, lenLine, lineOf, hbl] using this
    · rw [errW_ne hE] at HC
      have HX := vl hE
      have HN := vl (HAO.out hE)
      clear hE HAO HAO0
      go_wp2_with fail
      refine HC.out.mono ?_
      rintro e w2 ⟨rfl, hb2⟩
      have HB2 := vl (HBW.out.trans (hb2.mono HBW.out.size))
      clear hb2 HC
      go_wp2
      go_ret2
      exact ⟨_, by rw [errW_ne HX.out]; rfl, Or.inl ⟨rfl, HN.out⟩, HB2.out⟩
theorem nask_any : NAskSaid nld := by
  intro q w hd h
  by_cases hbad : muchB q.fn q.bn = true ∨ tokL (unums q.m) = false ∨ wordL (unums q.p) = false
  · exact nask_bad q w h hbad
  · have h1 : muchB q.fn q.bn = false := by cases hx : muchB q.fn q.bn; rfl; exact absurd (Or.inl hx) hbad
    have h2 : tokL (unums q.m) = true := by cases hx : tokL (unums q.m); exact absurd (Or.inr (Or.inl hx)) hbad; rfl
    have h3 : wordL (unums q.p) = true := by cases hx : wordL (unums q.p); exact absurd (Or.inr (Or.inr hx)) hbad; rfl
    exact nask_good q w h hd h1 h2 h3
end Go.Proofs.YtkaihfminlincafGreatDoor
/-
  MESSAGES AS LINES: the developers' writer: Tell. No claim by itself.
-/
namespace Go.Proofs.YtkaihfminlincafGreatDoor
open Go Go.RowKit Go.Shelf
set_option maxRecDepth 100000
theorem q3_cell {w : World} {B : Nat} {a b c : Value} {T : TypeId} (h : w.heap[B]? = some (.cells #[a, b, c] T (0, 0))) : w.cell? ⟨B, 0, none⟩ = some a ∧ w.cell? ⟨B, 1, none⟩ = some b ∧ w.cell? ⟨B, 2, none⟩ = some c := by simp [World.cell?, h]
theorem tell_parts {q : RpM} {w : World} (h : RpIn w q) (size : Int) : tellE q.rp size = if muchB q.fn q.bn = true then 4 else if q.code < 100 ∨ 599 < q.code ∨ size < 0 then 1 else fldsE (fdsOf q.FL) := by
  unfold tellE RpM.rp muchB
  simp only
  rw [fds_len, h.fields.len, h.body.len]
  by_cases hm : 40 < q.fn ∨ 8000 < q.bn
  · rw [if_pos hm, decide_eq_true hm, if_pos rfl]
  · rw [if_neg hm, decide_eq_false hm]
    simp only [Bool.false_eq_true, if_false]
/-- Rows that begin otherwise are two. -/
theorem own_ne {w : World} {b b' : Nat} {v v' : Value} {L L' : List Int} (h : UOwn w b v L) (h' : UOwn w b' v' L') (hl : 1 ≤ L.length) (hl' : 1 ≤ L'.length) (hne : L.getD 0 0 ≠ L'.getD 0 0) : ∀ k, v'.ownBlock = some k → v.ownBlock ≠ some k := by
  intro k hk e
  rcases h with ⟨rfl, _⟩ | ⟨g, cap, rfl, _, _, _, _, h5, _⟩
  · cases e
  · rcases h' with ⟨rfl, _⟩ | ⟨g', cap', rfl, _, _, _, _, h5', _⟩
    · cases hk
    · cases e
      cases hk
      have e1 := h5 0 (by omega)
      have e2 := h5' 0 (by omega)
      rw [e1] at e2
      simp only [Option.some.injEq, Value.int.injEq, true_and] at e2
      exact hne e2
theorem hex_head : ∀ n : Nat, (hexL n).getD 0 0 ≠ 69 := by
  intro n
  induction n using Nat.strongRecOn with
  | _ n ih =>
    by_cases h : n < 16
    · rw [hexL_one h]
      simp [hx]
      split <;> omega
    · rw [hexL_more h]
      have := ih (n / 16) (by omega)
      have hp := hexL_pos (n / 16)
      rw [List.getD, List.getElem?_append_left (by omega)]
      exact this
theorem chunk_head {s : Nat} (hs : 1 ≤ s) (B : List Int) : 1 ≤ (chunkL s B).length ∧ (chunkL s B).getD 0 0 ≠ 69 := by
  by_cases hB : B = []
  · subst hB
    show 1 ≤ endL.length ∧ endL.getD 0 0 ≠ 69
    exact ⟨by decide, by decide⟩
  · rw [chunk_more hs hB]
    unfold piece
    have hp := hexL_pos (B.take s).length
    refine ⟨by simp; omega, ?_⟩
    rw [List.append_assoc, List.getD, List.getElem?_append_left (by omega)]
    exact hex_head _
theorem tell_first (s : ByteArray) : unums (⟨#[69, 68, 71, 69, 47, 49, 32]⟩ ++ s ++ ⟨#[13, 10]⟩) = edgeSp ++ (unums s ++ [13, 10]) := by
  simp only [unums_app]
  rw [show unums ⟨#[69, 68, 71, 69, 47, 49, 32]⟩ = edgeSp from rfl, show unums ⟨#[13, 10]⟩ = [13, 10] from rfl]
  simp
set_option maxHeartbeats 8000000 in
theorem ntell_any : NTellSaid nld := by
  intro q size w hT h hi
  have hparts := tell_parts h size
  have HALL : Vl (∀ cd : Nat, q.code = cd → tellL q.rp size = edgeSp ++ (decL cd ++ [13, 10]) ++ linesL (fdsOf q.FL) ++ tellTail q.B size) := fun cd hc => by
    unfold tellL RpM.rp
    simp [hc]
  obtain ⟨code, fa, fn, fc, ba, bn, bc, FL, B⟩ := q
  obtain ⟨h0, h1, h2, h3, ⟨h4, h5⟩, h9⟩ := h
  simp only at h0 h1 h2 h3 h4 h5 h9 hparts HALL
  obtain ⟨i1, i2⟩ := hi
  obtain ⟨j1, j2⟩ := h0
  have hfl := h1.len
  have hbl := h2.len
  obtain ⟨W1, hW1⟩ : ∃ W1, w.alloc (.cells #[.int .i64 code, .slice fa fn fc, .slice ba bn bc] 27) = W1 := ⟨_, rfl⟩
  have HW : Vl (Below w.heap.size w W1) := by rw [← hW1]; exact (Below.refl _ _).alloc (Nat.le_refl _) _
  have hx : W1.heap[w.heap.size]? = some (.cells #[.int .i64 code, .slice fa fn fc, .slice ba bn bc] 27 (0, 0)) := by rw [← hW1]; exact heap_alloc_new w _
  obtain ⟨c0, c1, c2⟩ := q3_cell hx
  have hlt : w.heap.size < W1.heap.size := (Array.getElem?_eq_some_iff.1 hx).1
  have HM := vl (ntoo_any fa ba fn fc bn bc W1)
  obtain ⟨EA, hEA⟩ : ∃ EA, tellE (RpM.rp ⟨code, fa, fn, fc, ba, bn, bc, FL, B⟩) size = EA := ⟨_, rfl⟩
  rw [hEA] at hparts
  have HEA := vl hEA
  obtain ⟨AO, hAO⟩ : ∃ AO, tellOut (RpM.rp ⟨code, fa, fn, fc, ba, bn, bc, FL, B⟩) size = AO := ⟨_, rfl⟩
  have HAO : Vl (EA ≠ 0 → AO = []) := fun he => by
    rw [← hAO]
    unfold tellOut
    rw [if_neg (by rw [HEA.out]; exact he)]
  have HAO0 : Vl (EA = 0 → ∀ cd : Nat, code = cd → AO = edgeSp ++ (decL cd ++ [13, 10]) ++ linesL (fdsOf FL) ++ tellTail B size) := fun he cd hc => by
    rw [← hAO]
    unfold tellOut
    rw [if_pos (by rw [HEA.out]; exact he)]
    exact HALL.out cd hc
  rw [hEA, hAO]
  unfold RpM.val
  simp only
  have HW1 := vl hW1
  have HT := vl (show NLaid w from hT)
  have HZ : Vl (∀ w1, Below W1.heap.size W1 w1 → w1.cell? ⟨w.heap.size, 0, none⟩ = some (.int .i64 code) ∧ w1.cell? ⟨w.heap.size, 1, none⟩ = some (.slice fa fn fc) ∧ w1.cell? ⟨w.heap.size, 2, none⟩ = some (.slice ba bn bc)) := fun w1 hb => ⟨(hb.cell (p := ⟨w.heap.size, 0, none⟩) hlt).trans c0, (hb.cell (p := ⟨w.heap.size, 1, none⟩) hlt).trans c1, (hb.cell (p := ⟨w.heap.size, 2, none⟩) hlt).trans c2⟩
  have HBB : Vl (∀ w1, Below W1.heap.size W1 w1 → Below w.heap.size w w1) := fun w1 hb => HW.out.trans (hb.mono HW.out.size)
  have HCF := vl (ncheckf_any fa fn fc FL W1 (h1.below HW.out) h4 h9)
  have HF1 := vl h1
  have HBo := vl h2
  have HNI := vl h3
  clear hW1 hx hEA hAO h1 h2 h3 h9 hT HALL
  by_cases hm : muchB fn bn = true
  · rw [if_pos hm] at hparts
    rw [hm] at HM
    have HX := vl hparts
    have HN := vl (HAO.out (by omega))
    clear hparts HAO HAO0
    go_enter Tryz.func8, Tryz.ntmps8
    go_wp2_with fail
    try rw [HW1.out]
    refine HM.out.mono ?_
    rintro e w' ⟨rfl, rfl⟩
    go_wp2
    go_ret2
    exact ⟨_, by rw [HX.out]; rfl, Or.inl ⟨rfl, HN.out⟩, HW.out⟩
  have hm' : muchB fn bn = false := by simpa using hm
  have hmm := of_decide_eq_false hm'
  rw [hm'] at HM hparts
  simp only [Bool.false_eq_true, if_false] at hparts
  by_cases hr : code < 100 ∨ 599 < code ∨ size < 0
  · rw [if_pos hr] at hparts
    have HX := vl hparts
    have HN := vl (HAO.out (by omega))
    clear hparts HAO HAO0
    by_cases r1 : code < 100
    · go_enter Tryz.func8, Tryz.ntmps8
      go_wp2_with fail
      try rw [HW1.out]
      refine HM.out.mono ?_
      rintro e w' ⟨rfl, rfl⟩
      go_wp2
      go_ret2
      exact ⟨_, by rw [HX.out]; rfl, Or.inl ⟨rfl, HN.out⟩, HW.out⟩
    · by_cases r2 : 599 < code
      · go_enter Tryz.func8, Tryz.ntmps8
        go_wp2_with fail
        try rw [HW1.out]
        refine HM.out.mono ?_
        rintro e w' ⟨rfl, rfl⟩
        go_wp2
        go_ret2
        exact ⟨_, by rw [HX.out]; rfl, Or.inl ⟨rfl, HN.out⟩, HW.out⟩
      · have r3 : size < 0 := by omega
        clear hr
        go_enter Tryz.func8, Tryz.ntmps8
        go_wp2_with fail
        try rw [HW1.out]
        refine HM.out.mono ?_
        rintro e w' ⟨rfl, rfl⟩
        go_wp2
        go_ret2
        exact ⟨_, by rw [HX.out]; rfl, Or.inl ⟨rfl, HN.out⟩, HW.out⟩
  rw [if_neg hr] at hparts
  have r1 : ¬ code < 100 := by omega
  have r2 : ¬ 599 < code := by omega
  have r3 : ¬ size < 0 := by omega
  have r0 : 0 ≤ size := by omega
  rw [← hparts] at HCF
  have HPT := vl hparts
  obtain ⟨cd, rfl⟩ : ∃ cd : Nat, code = cd := ⟨code.toNat, by omega⟩
  clear hr hparts hm hm'
  by_cases hE : EA = 0
  case neg =>
    rw [errW_ne hE] at HCF
    have HX := vl hE
    have HN := vl (HAO.out hE)
    clear hE HAO HAO0
    go_enter Tryz.func8, Tryz.ntmps8
    go_wp2_with fail
    try rw [HW1.out]
    refine HM.out.mono ?_
    rintro e w' ⟨rfl, rfl⟩
    go_wp2_with fail
    refine HCF.out.mono ?_
    rintro e w2 ⟨rfl, hb2⟩
    have HB2 := vl (HBB.out _ hb2)
    clear hb2 HCF
    go_wp2
    go_ret2
    exact ⟨_, by rw [errW_ne HX.out]; rfl, Or.inl ⟨rfl, HN.out⟩, HB2.out⟩
  subst hE
  rw [errW_0] at HCF
  have HN := vl (HAO0.out rfl cd rfl)
  clear HAO HAO0
  go_enter Tryz.func8, Tryz.ntmps8
  go_wp2_with fail
  try rw [HW1.out]
  refine HM.out.mono ?_
  rintro e w' ⟨rfl, rfl⟩
  go_wp2_with fail
  refine HCF.out.mono ?_
  rintro e w2 ⟨rfl, hb2⟩
  obtain ⟨k0, k1, k2⟩ := HZ.out _ hb2
  have HB2 := vl (HBB.out _ hb2)
  have HI := vl (nitoa_any cd (by omega) w2 (HT.out.below HB2.out))
  have HB2W := vl hb2
  clear c0 c1 c2 hb2 HCF HM HW1
  go_wp2_with fail
  refine HI.out.mono ?_
  rintro e w2' ⟨s, rfl, hs, hb2'⟩
  have hB2' : Below W1.heap.size W1 w2' := HB2W.out.trans (hb2'.mono HB2W.out.size)
  have HB2a := vl (HBB.out _ hB2')
  obtain ⟨k0', k1', k2'⟩ := HZ.out _ hB2'
  have HF := vl (tell_first s)
  have hdl := decL_le cd
  have hss : s.size ≤ 1000 := by rw [← unums_len, hs]; omega
  have hsz : (⟨#[69, 68, 71, 69, 47, 49, 32]⟩ ++ s ++ ⟨#[13, 10]⟩ : ByteArray).size ≤ 2000 := by
    rw [← unums_len, HF.out]
    simp [unums_len, edgeSp]
    omega
  obtain ⟨v3, w3, hcv, ho3, hb3⟩ := conv_val (⟨#[69, 68, 71, 69, 47, 49, 32]⟩ ++ s ++ ⟨#[13, 10]⟩) w2' (by omega)
  rw [HF.out, hs] at ho3
  have hbase : w.heap.size ≤ w2'.heap.size := HB2a.out.size
  have hltw : w.heap.size < w2'.heap.size := blk_of k0'
  have HB3' : Vl (Below w.heap.size w w3) := HB2a.out.trans (hb3.mono hbase)
  have HK3 : Vl (∀ W, Below w2'.heap.size w3 W → W.cell? ⟨w.heap.size, 1, none⟩ = some (.slice fa fn fc) ∧ W.cell? ⟨w.heap.size, 2, none⟩ = some (.slice ba bn bc) ∧ Below w.heap.size w W ∧ w2'.heap.size ≤ W.heap.size ∧ NLaid W) := fun W hb => by
    have hw : Below w.heap.size w W := HB3'.out.trans (hb.mono hbase)
    have e3 := (hb.cell (p := ⟨w.heap.size, 1, none⟩) hltw).trans ((hb3.cell (p := ⟨w.heap.size, 1, none⟩) hltw).trans k1')
    have e4 := (hb.cell (p := ⟨w.heap.size, 2, none⟩) hltw).trans ((hb3.cell (p := ⟨w.heap.size, 2, none⟩) hltw).trans k2')
    exact ⟨e3, e4, hw, Nat.le_trans hb3.size hb.size, HT.out.below hw⟩
  obtain ⟨l1, l2, hw3, hs3, hT3⟩ := HK3.out w3 (Below.refl _ _)
  have hL3 : (edgeSp ++ (decL cd ++ [13, 10])).length ≤ 2000 := by rw [← hs, ← HF.out, unums_len]; exact hsz
  have HFS := vl (napfs_any w w2'.heap.size v3 _ fa fn fc FL w3 HF1.out hbase hw3 ho3 (by omega) (by omega) HPT.out.symm hs3)
  have hll := lines_le (l := fdsOf FL) HPT.out.symm
  rw [fds_len] at hll
  clear ho3 hb3 hb2' k0 k1 k2 k0' k1' k2' HI HZ HBB hw3
  go_wp2_with fail
  refine HFS.out.mono ?_
  rintro e w5 ⟨v5, rfl, ho5, hb5⟩
  obtain ⟨l1', l2', hw5, hs5, hT5⟩ := HK3.out w5 hb5
  have hll5 : (edgeSp ++ (decL cd ++ [13, 10]) ++ linesL (fdsOf FL)).length ≤ 100000 := by
    rw [List.length_append]
    omega
  obtain ⟨L5, hL5⟩ : ∃ L5, edgeSp ++ (decL cd ++ [13, 10]) ++ linesL (fdsOf FL) = L5 := ⟨_, rfl⟩
  rw [hL5] at ho5 hll5
  have HN5 : Vl (AO = L5 ++ tellTail B size) := by
    show AO = _
    rw [HN.out, ← hL5]
  have HL5 : Vl (edgeSp ++ (decL cd ++ [13, 10]) ++ linesL (fdsOf FL) = L5) := hL5
  have HO5 := vl ho5
  have HB5 := vl hb5
  clear HFS HN hL5 ho5 hb5 hll hL3 hsz HF hs hss l1 l2
  by_cases hz : size = 0
  · subst hz
    have HAL := vl (napl_any w2'.heap.size v5 L5 ba bn bc w5 HO5.out (by omega) (by omega) hs5 hT5)
    clear hw5
    go_wp2_with fail
    refine HAL.out.mono ?_
    rintro e wl ⟨vl5, rfl, hol, hbl5⟩
    have HOL := vl hol
    have HBL : Vl (Below w2'.heap.size w3 wl) := HB5.out.trans hbl5
    obtain ⟨_, l4l, hwl, hsl, _⟩ := HK3.out wl HBL.out
    have hdl2 := decL_le bn
    have hlll : (L5 ++ lineOf (lengthN, decL bn)).length ≤ 200000 := by
      rw [List.length_append]
      unfold lineOf lengthN
      simp
      omega
    clear hol hbl5 HAL hwl
    go_wp2_with (at_builtin; refine wpList_uapps _ rfl _ _ rfl w2'.heap.size _ _ rfl HOL.out _ rfl [13, 10] rfl (by simp at hlll ⊢; omega) hsl ?_)
    intro v6 w6 ho6 hg6
    have HO6 := vl ho6
    have HB6 := vl (u_below_grown HBL.out hg6 hsl (fun k hk => (HOL.out.base k hk).1))
    obtain ⟨_, l4'', hw6, hs6, _⟩ := HK3.out w6 HB6.out
    have HA6 := vl (HBo.out.below hw6)
    clear ho6 hg6 hw6
    go_wp2_with (at_builtin; refine wpList_uapp _ rfl _ _ rfl w2'.heap.size _ _ rfl HO6.out ba bn bc B rfl HA6.out (fun h => (HNI.out h).2) (by simp at hlll ⊢; omega) hs6 ?_)
    intro v7 w7 ho7 hg7
    have HO7 := vl ho7
    have HB7 := vl (u_below_grown HB6.out hg7 hs6 (fun k hk => (HO6.out.base k hk).1))
    clear ho7 hg7
    go_wp2
    go_ret2
    refine ⟨_, rfl, ?_, HB3'.out.trans (HB7.out.mono hbase)⟩
    rw [HN5.out]
    have := HO7.out.mono hbase
    simpa [tellTail, lenLine, lineOf, hbl] using this
  · have hzb : (size == 0) = false := by simpa using hz
    obtain ⟨n, hn⟩ : ∃ n : Nat, (if 8000 < size then 8000 else size.toNat) = n := ⟨_, rfl⟩
    have hn1 : 1 ≤ n ∧ n ≤ 8000 := by
      rw [← hn]
      split <;> omega
    have HCH : Vl (chunksF B (n : Int) = (0, chunkL n B)) := by
      show chunksF B (n : Int) = _
      unfold chunksF
      rw [if_neg (by omega), if_neg (by omega)]
      simp
    have HEN := vl (uenc_any ba bn bc B (n : Int) w5 (HBo.out.below hw5) ⟨by omega, by omega⟩ hT5.1)
    simp only [HCH.out, errW_0] at HEN
    have HTT : Vl (tellTail B size = codingN ++ (chunkedS ++ chunkL n B)) := by
      show tellTail B size = _
      unfold tellTail
      rw [if_neg hz, hn]
    have hmin : ∀ W, (Builtin.min_ #[3, 3] 3 #[.int .i64 size, .int .i64 8000]).run Tryz.prog W = .ok (.int .i64 (n : Int)) W := fun W => by
      rw [Lib.run_min_ints]
      congr 2
      rw [← hn]
      split <;> omega
    have HCB := vl (bytes_chunk hn1.1 B.length B (Nat.le_refl _) HBo.out.bytes)
    clear hw5 hz hn
    go_wp2_with fail
    refine HEN.out.mono ?_
    rintro e w6 ⟨vp, rfl, hop, hb6⟩
    have HOP := vl hop
    have HB6 : Vl (Below w2'.heap.size w3 w6) := HB5.out.trans (hb6.mono hs5)
    obtain ⟨_, _, hw6, hs6, _⟩ := HK3.out w6 HB6.out
    have HO6 := vl (HO5.out.below hb6)
    have HAF := vl (napf_grown w2'.heap.size v5 L5 ⟨#[99, 111, 100, 105, 110, 103]⟩ ⟨#[99, 104, 117, 110, 107, 101, 100]⟩ w6 HO6.out (by omega) (by decide) (by decide) hs6)
    have HS56 : Vl (w5.heap.size ≤ w6.heap.size) := hb6.size
    have hch := chunk_len_le hn1.1 B.length B (Nat.le_refl _)
    clear hop hb6 HEN hw6
    go_wp2_with fail
    refine HAF.out.mono ?_
    rintro e w7 ⟨v7, rfl, ho7, hb7, hg7⟩
    have HP7 := vl (HOP.out.grown hg7 (fun k hk e => by
      have h1 := (HOP.out.base k hk).1
      have h2 := (HO5.out.base k e).2
      omega))
    have HO7 := vl ho7
    have HB7 : Vl (Below w2'.heap.size w3 w7) := HB6.out.trans hb7
    obtain ⟨_, _, hw7, hs7, _⟩ := HK3.out w7 HB7.out
    have HHD : Vl (1 ≤ (L5 ++ lineOf (unums ⟨#[99, 111, 100, 105, 110, 103]⟩, unums ⟨#[99, 104, 117, 110, 107, 101, 100]⟩)).length ∧ (L5 ++ lineOf (unums ⟨#[99, 111, 100, 105, 110, 103]⟩, unums ⟨#[99, 104, 117, 110, 107, 101, 100]⟩)).getD 0 0 = 69) := by
      have h5 : ∃ r, L5 = 69 :: r := ⟨_, HL5.out.symm⟩
      obtain ⟨r, rfl⟩ := h5
      exact ⟨by simp, rfl⟩
    have HHC := vl (chunk_head hn1.1 B)
    have hl7 : (L5 ++ lineOf (unums ⟨#[99, 111, 100, 105, 110, 103]⟩, unums ⟨#[99, 104, 117, 110, 107, 101, 100]⟩)).length ≤ 200000 := by
      rw [List.length_append]
      have : (lineOf (unums ⟨#[99, 111, 100, 105, 110, 103]⟩, unums ⟨#[99, 104, 117, 110, 107, 101, 100]⟩)).length = 17 := by decide
      omega
    clear ho7 hb7 hg7 HAF HOP HO6 hw7
    go_wp2_with (at_builtin; refine wpList_uapps _ rfl _ _ rfl w2'.heap.size _ _ rfl HO7.out _ rfl [13, 10] rfl (by simp at hl7 ⊢; omega) hs7 ?_)
    intro v8 w8 ho8 hg8
    have HP8 := vl (HP7.out.grown hg8 (own_ne HO7.out HP7.out HHD.out.1 HHC.out.1 (by rw [HHD.out.2]; exact fun e => HHC.out.2 e.symm)))
    have HO8 := vl ho8
    have HB8 := vl (u_below_grown HB7.out hg8 hs7 (fun k hk => (HO7.out.base k hk).1))
    obtain ⟨_, _, hw8, hs8, _⟩ := HK3.out w8 HB8.out
    clear ho8 hg8 hw8
    obtain ⟨pa, pc, hvp, hpl, hpm⟩ := HP8.out.slice
    subst hvp
    have HPA := vl (HP8.out.arg HCB.out)
    have HPN : Vl (pa = none → pc = 0) := fun e => by
      rcases HP8.out with ⟨h1, h2⟩ | ⟨g, cap, h1, _⟩
      · simp only [Value.slice.injEq] at h1; exact h1.2.2
      · simp only [Value.slice.injEq] at h1; rw [e] at h1; cases h1.1
    obtain ⟨CL, hCL⟩ : ∃ CL, chunkL n B = CL := ⟨_, rfl⟩
    rw [hCL] at HPA hch HTT
    simp only [hCL]
    go_wp2_with (at_builtin; refine wpList_uapp _ rfl _ _ rfl w2'.heap.size _ _ rfl HO8.out pa CL.length pc CL rfl HPA.out HPN.out (by simp at hl7 ⊢; omega) hs8 ?_)
    intro v9 w9 ho9 hg9
    have HO9 := vl ho9
    have HB9 := vl (u_below_grown HB8.out hg9 hs8 (fun k hk => (HO8.out.base k hk).1))
    clear ho9 hg9
    go_wp2
    go_ret2
    refine ⟨_, rfl, ?_, HB3'.out.trans (HB9.out.mono hbase)⟩
    rw [HN5.out, HTT.out]
    have := HO9.out.mono hbase
    have e1 : L5 ++ (lineOf (unums ⟨#[99, 111, 100, 105, 110, 103]⟩, unums ⟨#[99, 104, 117, 110, 107, 101, 100]⟩) ++ 13 :: 10 :: CL) = L5 ++ (codingN ++ (chunkedS ++ CL)) := rfl
    rw [← e1]
    exact this
end Go.Proofs.YtkaihfminlincafGreatDoor
/-
  MESSAGES AS LINES: the developers' Token and Plain, as they are asked. No claim by itself.
-/
namespace Go.Proofs.YtkaihfminlincafGreatDoor
open Go Go.RowKit Go.Shelf
theorem ntok_any : NTokSaid nld := fun s w _ hs => ntoken_any s w hs
theorem nplain_any : NPlainSaid nld := fun s w _ hs => nplain_any0 s w hs
end Go.Proofs.YtkaihfminlincafGreatDoor
