/-
  STREAMS THAT WERE SEEN: the document's Open; what both sides keep, side by side. No claim by itself.
-/
import Derived.Test.YthphblmoeomeoadSref2
import Derived.Test.YthphblmoeomeoadSmapi
namespace Go.Proofs.Ythphblmoeomeoad
open Go.RowKit Go.Maps
set_option maxRecDepth 100000
set_option maxHeartbeats 1000000 in
theorem rsopen_no {w : World} {rb : Nat} {vI vS : Value} {L : SL} {last : Int} (h : RsP w rb vI vS L last) (id : Int) (hc : id.tmod 2 ≠ 1 ∨ id ≤ last) :
    Calls Try.prog 12 #[sptr rb, .int .i64 id] w fun e w' => e = .returned (.tuple #[.int .i64 1, .bool true]) ∧ w = w' := by
  have c2 := h.c2
  clear h
  unfold sptr
  obtain ⟨o, ho⟩ : ∃ o, (id.tmod 2 != 1) = o := ⟨_, rfl⟩
  cases o with
  | true =>
    clear hc
    go_enter Try.func12, Try.ntmps12
    go_wp2
    go_ret2
    exact ⟨rfl, rfl⟩
  | false =>
    have hl : id ≤ last := hc.resolve_left (by simpa using ho)
    clear hc
    go_enter Try.func12, Try.ntmps12
    go_wp2
    go_ret2
    exact ⟨rfl, rfl⟩
set_option maxHeartbeats 1000000 in
theorem rsopen_full {w : World} {rb : Nat} {vI vS : Value} {L : SL} {last : Int} (h : RsP w rb vI vS L last) (hL : L.length ≤ 1000) (id : Int) (h1 : 1 ≤ id) (h2 : id % 2 = 1) (hl : last < id) (hs : 16 ≤ cntL L) :
    Calls Try.prog 12 #[sptr rb, .int .i64 id] w fun e w' => e = .returned (.tuple #[.int .i64 7, .bool false]) ∧ RsP w' rb vI vS L id ∧ Tn (Hers rb vI vS) w w' := by
  have c2 := h.c2
  have f2 := h.f2
  obtain ⟨W1, hW1⟩ : ∃ W1, W1 = w.setCell ⟨rb, 2, none⟩ (.int .i64 id) := ⟨_, rfl⟩
  have hS1 : RsP W1 rb vI vS L id := by rw [hW1]; exact h.setLast id
  have HT : Vl (Tn (Hers rb vI vS) w W1) := by rw [hW1]; exact tn_set (Or.inl rfl)
  have HM := vl (rsmany_any hS1 hL)
  have HS1 := vl hS1
  have HW1 := vl hW1
  have ho : (id % 2 != 1) = false := by simp [h2]
  have hz : (16 : Int) ≤ (cntL L : Int) := by omega
  have hl' : ¬ (id ≤ last) := by omega
  unfold sptr at HM
  clear h hS1 hW1 hs hl h2
  generalize cntL L = z at *
  unfold sptr
  go_enter Try.func12, Try.ntmps12
  go_wp2_with fail
  rw [← HW1.out]
  refine HM.out.mono ?_
  rintro r w' ⟨rfl, rfl⟩
  go_wp2
  go_ret2
  exact ⟨rfl, HS1.out, HT.out⟩
set_option maxHeartbeats 1000000 in
theorem rsopen_ok {w : World} {rb : Nat} {vI vS : Value} {L : SL} {last : Int} (h : RsP w rb vI vS L last) (hL : L.length ≤ 1000) (id : Int) (h1 : 1 ≤ id) (h2 : id % 2 = 1) (hl : last < id) (hs : cntL L < 16) :
    Calls Try.prog 12 #[sptr rb, .int .i64 id] w fun e w' => e = .returned (.tuple #[.int .i64 0, .bool false]) ∧ (∃ vI' vS', RsP w' rb vI' vS' (putL L id 1) id) ∧ Tn (Hers rb vI vS) w w' := by
  have c2 := h.c2
  have f2 := h.f2
  obtain ⟨W1, hW1⟩ : ∃ W1, W1 = w.setCell ⟨rb, 2, none⟩ (.int .i64 id) := ⟨_, rfl⟩
  have hS1 : RsP W1 rb vI vS L id := by rw [hW1]; exact h.setLast id
  have HT : Vl (Tn (Hers rb vI vS) w W1) := by rw [hW1]; exact tn_set (Or.inl rfl)
  have HM := vl (rsmany_any hS1 hL)
  have HPU := vl (rsput_yes hS1 hL id 1 h1 h2 (Int.le_refl _) (by omega) (by omega))
  have HW1 := vl hW1
  have ho : (id % 2 != 1) = false := by simp [h2]
  have hz : (cntL L : Int) < 16 := by omega
  have hl' : ¬ (id ≤ last) := by omega
  unfold sptr at HM HPU
  clear h hS1 hW1 hs hl h2
  generalize cntL L = z at *
  unfold sptr
  go_enter Try.func12, Try.ntmps12
  go_wp2_with fail
  rw [← HW1.out]
  refine HM.out.mono ?_
  rintro r w' ⟨rfl, rfl⟩
  go_wp2_with fail
  refine HPU.out.mono ?_
  rintro r w' ⟨⟨v, rfl⟩, hP, hT⟩
  have HP2 := vl hP
  have HT2 := vl hT
  clear hP hT HPU
  go_wp2
  go_ret2
  exact ⟨rfl, HP2.out, HT.out.trans HT2.out⟩
def live (x : Int) : Nat := if 1 ≤ x ∧ x ≤ 3 then 1 else 0
theorem cntL_cons' (p : Int × Int) (r : SL) : cntL (p :: r) = live p.2 + cntL r := rfl
theorem stL_put : ∀ (L : SL) (id s id' : Int), stL (putL L id s) id' = if id' = id then s else stL L id'
  | [], id, s, id' => by
    simp only [putL, stL]
    by_cases h : id = id'
    · rw [if_pos h, if_pos h.symm]
    · rw [if_neg h, if_neg (fun e => h e.symm)]
  | p :: r, id, s, id' => by
    rw [putL_cons, stL_cons]
    by_cases h : p.1 = id
    · rw [if_pos h, stL_cons]
      simp only
      by_cases h' : id = id'
      · rw [if_pos h', if_pos h'.symm]
      · rw [if_neg h', if_neg (fun e => h' e.symm), if_neg (by omega)]
    · rw [if_neg h, stL_cons, stL_put r id s id']
      by_cases h' : p.1 = id'
      · rw [if_pos h', if_pos h', if_neg (by omega)]
      · rw [if_neg h', if_neg h']
theorem cntL_put : ∀ (L : SL) (id s : Int), cntL (putL L id s) + live (stL L id) = cntL L + live s
  | [], id, s => by simp [putL, stL, cntL, live]
  | p :: r, id, s => by
    rw [putL_cons, stL_cons]
    by_cases h : p.1 = id
    · rw [if_pos h, if_pos h, cntL_cons', cntL_cons']; simp only; omega
    · have := cntL_put r id s
      rw [if_neg h, if_neg h, cntL_cons', cntL_cons']; omega
def AllSt (L : SL) : Prop := ∀ p ∈ L, 1 ≤ p.2 ∧ p.2 ≤ 4
theorem stL_range : ∀ (L : SL), AllSt L → ∀ id, 1 ≤ stL L id ∧ stL L id ≤ 4
  | [], _, _ => by simp [stL]
  | p :: r, h, id => by
    rw [stL_cons]
    split
    · exact h p (by simp)
    · exact stL_range r (fun q hq => h q (by simp [hq])) id
theorem putL_st : ∀ (L : SL), AllSt L → ∀ id s, 1 ≤ s → s ≤ 4 → AllSt (putL L id s)
  | [], _, id, s, h1, h2 => by intro p hp; simp [putL] at hp; subst hp; exact ⟨h1, h2⟩
  | q :: r, h, id, s, h1, h2 => by
    rw [putL_cons]
    split
    · intro p hp
      rcases List.mem_cons.1 hp with e | e
      · subst e; exact ⟨h1, h2⟩
      · exact h p (by simp [e])
    · intro p hp
      rcases List.mem_cons.1 hp with e | e
      · subst e; exact h _ (by simp)
      · exact putL_st r (fun x hx => h x (by simp [hx])) id s h1 h2 p e
/-- The map has those of the list that are not closed. -/
structure Rel (D : Dat) (L : SL) : Prop where
  st : AllSt L
  has : ∀ id, hasI D id = true ↔ stL L id ≠ 4
  at' : ∀ id, hasI D id = true → atI D id = stL L id
  sz : Maps.size D = cntL L
theorem rel_nil : Rel (.map []) [] := ⟨(fun p hp => by cases hp), (fun id => by simp [hasI, Maps.has, stL]), (fun id h => by simp [hasI, Maps.has] at h), rfl⟩
theorem Rel.put {D : Dat} {L : SL} (h : Rel D L) (hD : Tidy D) (id s : Int) (h1 : 1 ≤ s) (h2 : s ≤ 4) : Rel (if s = 4 then delI D id else putI D id s) (putL L id s) := by
  have hc := cntL_put L id s
  have hr := stL_range L h.st id
  have hh := h.has id
  split
  · rename_i e
    subst e
    refine ⟨putL_st L h.st id 4 h1 h2, fun id' => ?_, fun id' => ?_, ?_⟩
    · rw [hasI_del, stL_put]
      by_cases e : id' = id
      · rw [if_pos e, if_pos e]; simp
      · rw [if_neg e, if_neg e]; exact h.has id'
    · rw [hasI_del, stL_put]
      by_cases e : id' = id
      · rw [if_pos e]; simp
      · rw [if_neg e, if_neg e, atI_del D id id' e]; exact h.at' id'
    · have hs := sizeI_del D hD id
      rw [h.sz] at hs
      have l4 : live 4 = 0 := rfl
      by_cases e : stL L id = 4
      · rw [e, l4] at hc
        rw [if_neg (fun x => (hh.1 x) e)] at hs
        omega
      · have l1 : live (stL L id) = 1 := by unfold live; rw [if_pos (by omega)]
        rw [l1, l4] at hc
        rw [if_pos (hh.2 e)] at hs
        omega
  · rename_i e
    have ls : live s = 1 := by unfold live; rw [if_pos (by omega)]
    refine ⟨putL_st L h.st id s h1 h2, fun id' => ?_, fun id' => ?_, ?_⟩
    · rw [hasI_put D hD.isMap, stL_put]
      by_cases e' : id' = id
      · rw [if_pos e', if_pos e']; simp [e]
      · rw [if_neg e', if_neg e']; exact h.has id'
    · rw [hasI_put D hD.isMap, stL_put, atI_put D hD.isMap]
      by_cases e' : id' = id
      · rw [if_pos e', if_pos e', if_pos e']; intro _; rfl
      · rw [if_neg e', if_neg e', if_neg e']; exact h.at' id'
    · rw [sizeI_put D hD, h.sz]
      by_cases e' : stL L id = 4
      · rw [e', show live 4 = 0 from rfl] at hc
        rw [if_neg (fun x => (hh.1 x) e')]
        omega
      · have l1 : live (stL L id) = 1 := by unfold live; rw [if_pos (by omega)]
        rw [l1] at hc
        rw [if_pos (hh.2 e')]
        omega
theorem Rel.state {D : Dat} {L : SL} (h : Rel D L) (last id : Int) : stF D last id = stR L last id := by
  unfold stF stR
  by_cases h1 : id < 1
  · rw [if_pos h1, if_pos h1]
  rw [if_neg h1, if_neg h1, tmodp (by omega)]
  by_cases h2 : last < id
  · rw [if_pos h2]
    split
    · rfl
    · rfl
  rw [if_neg h2]
  by_cases h3 : id % 2 = 0
  · rw [if_pos h3, if_pos (by omega)]
  have e2 : (if id % 2 ≠ 1 then (0 : Int) else if last < id then 0 else stL L id) = stL L id := by rw [if_neg (by omega), if_neg h2]
  rw [if_neg h3, e2]
  have hh := h.has id
  by_cases e : stL L id = 4
  · rw [if_neg (fun x => (hh.1 x) e), e]
  · rw [if_pos (hh.2 e), h.at' id (hh.2 e)]
theorem Rel.putD {D : Dat} {L : SL} (h : Rel D L) (hD : Tidy D) (last id s : Int) : Rel (putD D last id s) (putR L last id s) := by
  have hs := h.state last id
  have hr := stL_range L h.st id
  unfold Proofs.Ythphblmoeomeoad.putD putR
  by_cases hb : begunF s = false
  · rw [if_pos (Or.inl hb), if_pos (by simp [begunF] at hb; omega)]
    exact h
  have hb' : 1 ≤ s ∧ s ≤ 4 := by simpa [begunF] using hb
  by_cases h1 : id < 1
  · rw [if_pos (Or.inr (by unfold stF; rw [if_pos h1])), if_pos (Or.inl h1)]; exact h
  by_cases h2 : last < id
  · rw [if_pos (Or.inr (by unfold stF; rw [if_neg h1, if_pos h2])), if_pos (by omega)]; exact h
  by_cases h3 : id % 2 = 0
  · rw [if_pos (Or.inr (by unfold stF; rw [if_neg h1, if_neg h2, tmodp (by omega), if_pos h3])), if_pos (by rw [tmodp (by omega)]; omega)]; exact h
  have e1 : stR L last id = stL L id := by
    unfold stR
    rw [if_neg h1, tmodp (by omega), if_neg (by omega), if_neg h2]
  have e3 : (if id < 1 ∨ id.tmod 2 ≠ 1 ∨ last < id ∨ s < 1 ∨ 4 < s then L else putL L id s) = putL L id s := if_neg (by rw [tmodp (by omega)]; omega)
  rw [if_neg (by rw [hs, e1]; simp [hb]; omega), e3]
  exact h.put hD id s hb'.1 hb'.2
end Go.Proofs.Ythphblmoeomeoad
