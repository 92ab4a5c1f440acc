/-
  STREAMS THAT WERE SEEN: the Go functions Open and Put of package stream. No claim by itself.
-/
import Derived.Test.YthphblmoeomeoadSdev
namespace Go.Proofs.Ythphblmoeomeoad
open Go.RowKit Go.Maps
set_option maxRecDepth 100000
theorem StP.set {w : World} {sb mb n : Nat} {D : Dat} {last : Int} (h : StP w sb mb n D last) (id : Int) : StP (w.setCell ⟨sb, 1, none⟩ (.int .i64 id)) sb mb n D id := by
  refine ⟨?_, ?_, ?_, h.ne, h.own.setCell (by simpa using h.ne) _⟩
  · rw [World.cell?_setCell_other _ _ _ _ (by simp)]; exact h.c0
  · exact World.cell?_setCell_same _ _ _ h.c1
  · rw [World.frozen?_setCell]; exact h.f1
set_option maxHeartbeats 1000000 in
theorem sopen_no {w : World} {sb mb n : Nat} {D : Dat} {last : Int} (h : StP w sb mb n D last) (id : Int) (hc : id.tmod 2 = 0 ∨ id ≤ last) :
    Calls Try.prog 11 #[sptr sb, .int .i64 id] w fun e w' => e = .returned (.tuple #[.int .i64 1, .bool true]) ∧ w = w' := by
  have c1 := h.c1
  clear h
  unfold sptr
  have HO := vl (odd_any id w)
  by_cases h3 : id.tmod 2 = 0
  · rw [show (id.tmod 2 != 0) = false by simp [h3]] at HO
    clear h3 hc
    go_enter Try.func11, Try.ntmps11
    go_wp2_with fail
    refine HO.out.mono ?_
    rintro r w' ⟨rfl, rfl⟩
    go_wp2
    go_ret2
    exact ⟨rfl, rfl⟩
  · have hl : id ≤ last := hc.resolve_left h3
    rw [show (id.tmod 2 != 0) = true by simp [h3]] at HO
    clear h3 hc
    go_enter Try.func11, Try.ntmps11
    go_wp2_with fail
    refine HO.out.mono ?_
    rintro r w' ⟨rfl, rfl⟩
    go_wp2
    go_ret2
    exact ⟨rfl, rfl⟩
set_option maxHeartbeats 1000000 in
theorem sopen_full {w : World} {sb mb n : Nat} {D : Dat} {last : Int} (h : StP w sb mb n D last) (id : Int) (hodd : id.tmod 2 ≠ 0) (hl : last < id) (hs : 16 ≤ Maps.size D) :
    Calls Try.prog 11 #[sptr sb, .int .i64 id] w fun e w' => e = .returned (.tuple #[.int .i64 7, .bool false]) ∧ StP w' sb mb n D id ∧ Tn (Mine sb mb) w w' := by
  have c1 := h.c1
  have f1 := h.f1
  have HO := vl (odd_any id w)
  rw [show (id.tmod 2 != 0) = true by simp [hodd]] at HO
  obtain ⟨W1, hW1⟩ : ∃ W1, W1 = w.setCell ⟨sb, 1, none⟩ (.int .i64 id) := ⟨_, rfl⟩
  have hS1 : StP W1 sb mb n D id := by rw [hW1]; exact h.set id
  have HT : Vl (Tn (Mine sb mb) w W1) := by rw [hW1]; exact tn_set (Or.inl rfl)
  have HM := vl (smany_any hS1)
  have HS1 := vl hS1
  have HW1 := vl hW1
  have hz : (16 : Int) ≤ (Maps.size D : Int) := by omega
  have hl' : ¬ (id ≤ last) := by omega
  unfold sptr at HM
  clear h hS1 hW1 hodd hs hl
  generalize Maps.size D = z at *
  unfold sptr
  go_enter Try.func11, Try.ntmps11
  go_wp2_with fail
  refine HO.out.mono ?_
  rintro r w' ⟨rfl, rfl⟩
  go_wp2_with fail
  rw [← HW1.out]
  refine HM.out.mono ?_
  rintro r w' ⟨rfl, rfl⟩
  go_wp2
  go_ret2
  exact ⟨rfl, HS1.out, HT.out⟩
set_option maxHeartbeats 1000000 in
theorem sopen_ok {w : World} {sb mb n : Nat} {D : Dat} {last : Int} (h : StP w sb mb n D last) (id : Int) (hw : WfI id) (hn : n < maxLen) (hodd : id.tmod 2 ≠ 0) (hl : last < id) (hs : Maps.size D < 16) :
    Calls Try.prog 11 #[sptr sb, .int .i64 id] w fun e w' => e = .returned (.tuple #[.int .i64 0, .bool false]) ∧ StP w' sb mb (n + 1) (putI D id 1) id ∧ Tn (Mine sb mb) w w' := by
  have c1 := h.c1
  have f1 := h.f1
  have HO := vl (odd_any id w)
  rw [show (id.tmod 2 != 0) = true by simp [hodd]] at HO
  have hkey := vl (keyOf_int_mk Try.underlying3 (show (Lit.int .i64 id).wf = true from hw))
  obtain ⟨W1, hW1⟩ : ∃ W1, W1 = w.setCell ⟨sb, 1, none⟩ (.int .i64 id) := ⟨_, rfl⟩
  have hS1 : StP W1 sb mb n D id := by rw [hW1]; exact h.set id
  have HT : Vl (Tn (Mine sb mb) w W1) := by rw [hW1]; exact tn_set (Or.inl rfl)
  have HM := vl (smany_any hS1)
  have HS1 := vl hS1
  have HW1 := vl hW1
  have d0 := hS1.c0
  have hz : (Maps.size D : Int) < 16 := by omega
  have hl' : ¬ (id ≤ last) := by omega
  have HN := vl hn
  unfold sptr at HM
  clear h hS1 hW1 hodd hs hl hn hw
  unfold sptr
  go_enter Try.func11, Try.ntmps11
  go_wp2_with fail
  refine HO.out.mono ?_
  rintro r w' ⟨rfl, rfl⟩
  go_wp2_with fail
  rw [← HW1.out]
  refine HM.out.mono ?_
  rintro r w' ⟨rfl, rfl⟩
  clear c1 f1
  go_wp2_with (first | (at_mapUpdate; refine wpList_mapUpdate_in _ rfl _ _ _ 63 rfl 3 3 klaw Try.underlying63 _ mb n D rfl HS1.out.own HN.out _ _ _ rfl rfl hkey.out _ [] (plainElem_int Try.underlying3 (by decide)) ?_; intro w2 hown2 hturn2; have HO2 := vl hown2; have HT2 := vl hturn2; clear hown2 hturn2 d0) | go_in)
  go_ret2
  exact ⟨rfl, HS1.out.turn HO2.out HT2.out.grown, HT.out.trans (Tn.of_grown HT2.out.grown (fun k e => Or.inr (Option.some.inj e).symm))⟩
/-- What Put does. -/
def putD (D : Dat) (last id s : Int) : Dat := if begunF s = false ∨ stF D last id = 0 then D else if s = 4 then delI D id else putI D id s
set_option maxHeartbeats 1000000 in
theorem sput_any {w : World} {sb mb n : Nat} {D : Dat} {last : Int} (h : StP w sb mb n D last) (id s : Int) (hw : WfI id) (hn : n < maxLen) :
    Calls Try.prog 13 #[sptr sb, .int .i64 id, .int .i64 s] w fun e w' => (∃ v, e = .returned v) ∧ StP w' sb mb (n + 1) (putD D last id s) last ∧ Tn (Mine sb mb) w w' := by
  have c0 := h.c0
  have HB := vl (begun_any s w)
  have HS := vl (sstate_any h id hw)
  have HP := vl h
  have HN := vl hn
  have hkey := vl (keyOf_int_mk Try.underlying3 (show (Lit.int .i64 id).wf = true from hw))
  have HP1 : Vl (StP w sb mb (n + 1) D last) := ⟨h.c0, h.c1, h.f1, h.ne, h.own.mono (by omega)⟩
  unfold putD
  unfold sptr at HS
  clear h hw hn
  obtain ⟨z, hz⟩ : ∃ z, stF D last id = z := ⟨_, rfl⟩
  rw [hz] at HS ⊢
  clear hz
  unfold sptr
  cases hb : begunF s
  · rw [if_pos (Or.inl rfl)]
    rw [hb] at HB
    clear hb
    go_enter Try.func13, Try.ntmps13
    go_wp2_with fail
    refine HB.out.mono ?_
    rintro r w' ⟨rfl, rfl⟩
    go_wp2
    refine bodyPost_ret (results_none rfl _ _ _) rfl ?_
    exact ⟨⟨_, rfl⟩, HP1.out, Tn.refl _ _⟩
  rw [hb] at HB
  have hs4 : 1 ≤ s ∧ s ≤ 4 := by simpa [begunF] using hb
  clear hb
  by_cases z0 : z = 0
  · subst z0
    rw [if_pos (Or.inr rfl)]
    clear hs4
    go_enter Try.func13, Try.ntmps13
    go_wp2_with fail
    refine HB.out.mono ?_
    rintro r w' ⟨rfl, rfl⟩
    go_wp2_with fail
    refine HS.out.mono ?_
    rintro r w' ⟨rfl, rfl⟩
    go_wp2
    refine bodyPost_ret (results_none rfl _ _ _) rfl ?_
    exact ⟨⟨_, rfl⟩, HP1.out, Tn.refl _ _⟩
  rw [if_neg (by simp [z0])]
  by_cases h4 : s = 4
  · subst h4
    rw [if_pos rfl]
    clear hs4
    go_enter Try.func13, Try.ntmps13
    go_wp2_with fail
    refine HB.out.mono ?_
    rintro r w' ⟨rfl, rfl⟩
    go_wp2_with fail
    refine HS.out.mono ?_
    rintro r w' ⟨rfl, rfl⟩
    go_wp2_with (first | (at_delete; refine wpList_delete_own _ rfl _ _ 63 3 rfl 3 klaw Try.underlying63 _ mb n D rfl HP.out.own _ _ rfl hkey.out ?_; intro w2 hown2 hturn2; have HO2 := vl hown2; have HT2 := vl hturn2; clear hown2 hturn2 c0) | go_in)
    refine bodyPost_ret (results_none rfl _ _ _) rfl ?_
    exact ⟨⟨_, rfl⟩, HP.out.turn (HO2.out.mono (by omega)) HT2.out.grown, Tn.of_grown HT2.out.grown (fun k e => Or.inr (Option.some.inj e).symm)⟩
  · rw [if_neg h4]
    have hwf : Vl ((Lit.int .i64 s).wf = true) := by
      show (Lit.int .i64 s).wf = true
      simp [Lit.wf, IntKind.min, IntKind.max, IntKind.bits, IntKind.signed]
      omega
    clear hs4
    go_enter Try.func13, Try.ntmps13
    go_wp2_with fail
    refine HB.out.mono ?_
    rintro r w' ⟨rfl, rfl⟩
    go_wp2_with fail
    refine HS.out.mono ?_
    rintro r w' ⟨rfl, rfl⟩
    go_wp2_with (first | (at_mapUpdate; refine wpList_mapUpdate_in _ rfl _ _ _ 63 rfl 3 3 klaw Try.underlying63 _ mb n D rfl HP.out.own HN.out _ _ _ rfl rfl hkey.out _ [] (plainElem_int Try.underlying3 hwf.out) ?_; intro w2 hown2 hturn2; have HO2 := vl hown2; have HT2 := vl hturn2; clear hown2 hturn2 c0) | go_in)
    go_end0
    exact ⟨⟨_, rfl⟩, HP.out.turn HO2.out HT2.out.grown, Tn.of_grown HT2.out.grown (fun k e => Or.inr (Option.some.inj e).symm)⟩
end Go.Proofs.Ythphblmoeomeoad
