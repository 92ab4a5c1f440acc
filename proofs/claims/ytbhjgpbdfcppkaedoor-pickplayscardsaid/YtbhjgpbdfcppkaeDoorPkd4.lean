/-
  WHOSE TURN IT IS: the Go functions Add and Drop of package pick. No claim by itself.
-/
import Derived.Test.YtbhjgpbdfcppkaeDoorPkd3
import Derived.Deep.RegionHeld3
namespace Go.Proofs.YtbhjgpbdfcppkaeDoor
open Go.RowKit Go.Maps
set_option maxRecDepth 100000
theorem PkM.store {w : World} {pb mb : Nat} {D : Dat} {L : PL} (h : PkM w pb mb D L) (hI : PkI L) {id : Int} (hi : I64 id) (wt sc : Int) (wn : Bool) :
    ∃ w', (Instr.mapUpdate 46 (.map (some mb)) (.int .i64 id) (.agg #[.int .i64 wt, .int .i64 sc, .bool wn])).run Tryd.prog w = .ok () w' ∧ w'.ownsMap Tryd.prog 3 oneElem mb (L.length + 1) (D.put (pkK id) (oneD wt sc wn)) ∧ w.grownBy w' (some mb) ∧ w'.cell? ⟨pb, 0, none⟩ = some (.map (some mb)) := by
  have hl := hI.len
  obtain ⟨w', h1, h2, h3⟩ := h.own.update klaw Tryd.underlying46 (by unfold maxLen; omega) (key_i64 hi) (oneElem_mk wt sc wn)
  refine ⟨w', h1, h2, h3, ?_⟩
  exact (World.cell?_of_block (a := ⟨pb, 0, none⟩) (h3.block pb h.lt.1 (fun e => h.ne (Option.some.inj e).symm))).trans h.c0
theorem pkP_same {w w' : World} {pb mb : Nat} {D : Dat} {L : PL} (h : PkM w pb mb D L) (hb : Below w.heap.size w w') : ∃ S', PkP w' pb L S' ∧ Tn (Two2 pb mb) w w' ∧ ∀ k, S' k → Two2 pb mb k ∨ w.heap.size ≤ k :=
  ⟨Two2 pb mb, ⟨mb, D, h.below (Nat.le_refl _) hb, rfl⟩, Tn.of_below hb, fun _ hk => Or.inl hk⟩
theorem pkP_put {w w1 w' : World} {pb mb n' : Nat} {D D' : Dat} {L L' : PL} (h : PkM w pb mb D L) (hb : Below w.heap.size w w1) (ho : w'.ownsMap Tryd.prog 3 oneElem mb n' D') (hg : w1.grownBy w' (some mb)) (hr : PkR D' L') : ∃ S', PkP w' pb L' S' ∧ Tn (Two2 pb mb) w w' ∧ ∀ k, S' k → Two2 pb mb k ∨ w.heap.size ≤ k :=
  ⟨Two2 pb mb, ⟨mb, D', (h.below (Nat.le_refl _) hb).turn ho hr hg, rfl⟩, tn_then hb (tn_grown hg (fun _ hk => Or.inr (Option.some.inj hk).symm)), fun _ hk => Or.inl hk⟩
def PkSaid (pb mb : Nat) (w : World) (ec : Int) (L' : PL) (e : Ending) (w' : World) : Prop := ∃ S', e = .returned (errW ec) ∧ PkP w' pb L' S' ∧ Tn (Two2 pb mb) w w' ∧ ∀ k, S' k → Two2 pb mb k ∨ w.heap.size ≤ k
theorem said_same {w w' : World} {pb mb : Nat} {D : Dat} {L : PL} (h : PkM w pb mb D L) (hb : Below w.heap.size w w') {ec : Int} {v : Value} (hv : v = errW ec) : PkSaid pb mb w ec L (.returned v) w' := by
  obtain ⟨S', a, b, c⟩ := pkP_same h hb
  exact ⟨S', by rw [hv], a, b, c⟩
theorem said_put {w w1 w' : World} {pb mb n' : Nat} {D D' : Dat} {L L' : PL} (h : PkM w pb mb D L) (hb : Below w.heap.size w w1) (ho : w'.ownsMap Tryd.prog 3 oneElem mb n' D') (hg : w1.grownBy w' (some mb)) (hr : PkR D' L') : PkSaid pb mb w 0 L' (.returned .nilIface) w' := by
  obtain ⟨S', a, b, c⟩ := pkP_put h hb ho hg hr
  exact ⟨S', rfl, a, b, c⟩
set_option maxHeartbeats 1000000 in
theorem padd_range {w : World} {pb mb : Nat} {D : Dat} {L : PL} (h : PkM w pb mb D L) (id wt : Int) (hc : id < 1 ∨ 2147483647 < id ∨ wt < 1 ∨ 256 < wt) :
    Calls Tryd.prog 6 #[kptr pb, .int .i64 id, .int .i64 wt] w (PkSaid pb mb w 1 L) := by
  have HM := vl h
  clear h
  unfold kptr
  have HF : Vl (PkSaid pb mb w 1 L (.returned (.iface 49 (.int .i64 1))) w) := said_same HM.out (Below.refl _ _) rfl
  by_cases h1 : id < 1
  · go_enter Tryd.func6, Tryd.ntmps6
    go_wp2
    go_ret
    exact HF.out
  have h1' : 1 ≤ id := by omega
  by_cases h2 : 2147483647 < id
  · go_enter Tryd.func6, Tryd.ntmps6
    go_wp2
    go_ret
    exact HF.out
  have h2' : id ≤ 2147483647 := by omega
  by_cases h3 : wt < 1
  · go_enter Tryd.func6, Tryd.ntmps6
    go_wp2
    go_ret
    exact HF.out
  have h3' : 1 ≤ wt := by omega
  have h4 : 256 < wt := by omega
  clear hc
  go_enter Tryd.func6, Tryd.ntmps6
  go_wp2
  go_ret
  exact HF.out
set_option maxHeartbeats 1000000 in
theorem padd_rest {w : World} {pb mb : Nat} {D : Dat} {L : PL} (h : PkM w pb mb D L) (hI : PkI L) (id wt : Int) (h1 : 1 ≤ id) (h2 : id ≤ 2147483647) (h3 : 1 ≤ wt) (h4 : wt ≤ 256) :
    Calls Tryd.prog 6 #[kptr pb, .int .i64 id, .int .i64 wt] w (PkSaid pb mb w (addF L id wt).1 (addF L id wt).2) := by
  have HM := vl h
  have HI := vl hI
  have hi : I64 id := by unfold I64; omega
  have c0 := h.c0
  unfold addF
  rw [if_neg (by omega)]
  unfold kptr
  cases hf : pkFind L id with
  | some o =>
    rw [if_pos (by simp)]
    have lk := h.lookk hi hf
    have HF : Vl (PkSaid pb mb w 7 L (.returned (.iface 49 (.int .i64 7))) (w.alloc (.cells #[.int .i64 o.wt, .int .i64 o.sc, .bool o.wants] 52))) := said_same HM.out ((Below.refl _ _).alloc (Nat.le_refl _) _) rfl
    clear h hI hi hf HM HI
    go_enter Tryd.func6, Tryd.ntmps6
    go_wp2
    go_ret
    exact HF.out
  | none =>
    rw [if_neg (by simp)]
    have lk := h.lookk0 hi hf
    have HBA : Vl (Below w.heap.size w (w.alloc (.cells #[.int .i64 0, .int .i64 0, .bool false] 52))) := (Below.refl _ _).alloc (Nat.le_refl _) _
    have HMA := vl (HM.out.below (Nat.le_refl _) HBA.out)
    have cA := HMA.out.c0
    have hsz := h.rel.size
    by_cases hz : 100 ≤ L.length
    · rw [if_pos hz]
      have HF : Vl (PkSaid pb mb w 4 L (.returned (.iface 49 (.int .i64 4))) _) := said_same HM.out HBA.out rfl
      have hz' : (100 : Int) ≤ (Maps.size D : Int) := by omega
      clear h hI hi hf hz hsz HM HI HBA
      go_enter Tryd.func6, Tryd.ntmps6
      go_wp2_with (first | (at_len; refine wpList_len_own _ rfl _ 46 rfl 3 52 Tryd.underlying46 _ mb L.length D rfl HMA.out.own ?_) | go_in)
      go_ret
      exact HF.out
    · rw [if_neg hz]
      have hz' : (Maps.size D : Int) < 100 := by omega
      have HT : Vl (Tidy D) := h.own.tidy klaw
      have HFI := vl hf
      have HII := vl hi
      clear h hI hi hf hz hsz
      go_enter Tryd.func6, Tryd.ntmps6
      go_wp2_with (first | (at_len; refine wpList_len_own _ rfl _ 46 rfl 3 52 Tryd.underlying46 _ mb L.length D rfl HMA.out.own ?_) | go_in)
      obtain ⟨WA, hWA⟩ : ∃ WA, WA = w.alloc (.cells #[.int .i64 0, .int .i64 0, .bool false] 52) := ⟨_, rfl⟩
      rw [← hWA] at HBA HMA cA ⊢
      clear hWA lk c0 hz'
      have HL := vl (pleast_any HMA.out.drew HI.out)
      have HBD : Vl (Below w.heap.size w WA.drew) := HBA.out.drew
      have cD : WA.drew.cell? ⟨pb, 0, none⟩ = some (.map (some mb)) := cA
      unfold kptr at HL
      generalize leastSc L = ls at *
      clear HBA HMA
      go_region_held3 (fun wx => wx.cell? ⟨pb, 0, none⟩ = some (.map (some mb)))
        (with_reducible assumption)
        ((go_at_call 17; refine HL.out.mono ?_; rintro e w2 ⟨rfl, hb2⟩; have HB2 := vl (HBD.out.trans (hb2.mono HBD.out.size)); obtain ⟨w3, hst, ho3, hg3, c3⟩ := (HM.out.below (Nat.le_refl _) HB2.out).store HI.out HII.out wt ls false; have c2 := (HM.out.below (Nat.le_refl _) HB2.out).c0; have HO3 := vl ho3; have HG3 := vl hg3; clear ho3 hg3 hb2))
      go_wp2
      go_ret
      exact said_put HM.out HB2.out HO3.out HG3.out (HM.out.rel.add HT.out HFI.out)
theorem said_open {w : World} {pb mb : Nat} {ec : Int} {L' : PL} {e : Ending} {w' : World} (h : PkSaid pb mb w ec L' e w') : ∃ S', e = .returned (errW ec) ∧ PkP w' pb L' S' ∧ Tn (Two2 pb mb) w w' ∧ ∀ k, S' k → Two2 pb mb k ∨ w.heap.size ≤ k := h
theorem padd_any : PAddSaid PkP := by
  rintro pb L S id wt w ⟨mb, D, h, rfl⟩ hI _ _
  by_cases hc : id < 1 ∨ 2147483647 < id ∨ wt < 1 ∨ 256 < wt
  · have e : addF L id wt = (1, L) := by unfold addF; rw [if_pos hc]
    rw [e]
    exact padd_range h id wt hc
  · exact padd_rest h hI id wt (by omega) (by omega) (by omega) (by omega)
set_option maxHeartbeats 1000000 in
theorem pdrop_any : PDropSaid PkP := by
  rintro pb L S id w ⟨mb, D, h, rfl⟩ hI hi
  show Calls Tryd.prog 8 #[kptr pb, .int .i64 id] w (PkSaid pb mb w (dropF L id).1 (dropF L id).2)
  have HM := vl h
  have HI := vl hI
  have c0 := h.c0
  have hkey := vl (key_i64 hi)
  unfold dropF kptr
  cases hf : pkFind L id with
  | none =>
    rw [if_neg (by simp)]
    have lk := h.lookk0 hi hf
    have HF : Vl (PkSaid pb mb w 5 L (.returned (.iface 49 (.int .i64 5))) (w.alloc (.cells #[.int .i64 0, .int .i64 0, .bool false] 52))) := said_same HM.out ((Below.refl _ _).alloc (Nat.le_refl _) _) rfl
    clear h hI hi hf HM HI
    go_enter Tryd.func8, Tryd.ntmps8
    go_wp2
    go_ret
    exact HF.out
  | some o =>
    rw [if_pos (by simp)]
    have lk := h.lookk hi hf
    have HT : Vl (Tidy D) := h.own.tidy klaw
    have HFI := vl hf
    have HBA : Vl (Below w.heap.size w (w.alloc (.cells #[.int .i64 o.wt, .int .i64 o.sc, .bool o.wants] 52))) := (Below.refl _ _).alloc (Nat.le_refl _) _
    have HMA := vl (HM.out.below (Nat.le_refl _) HBA.out)
    have cA := HMA.out.c0
    clear h hI hi hf
    go_enter Tryd.func8, Tryd.ntmps8
    go_wp2_with (first | (at_delete; refine wpList_delete_own _ rfl _ _ 46 3 rfl 52 klaw Tryd.underlying46 _ mb L.length D rfl HMA.out.own _ _ rfl hkey.out ?_; intro w2 hown2 hturn2; have HO2 := vl hown2; have HT2 := vl hturn2; clear hown2 hturn2 c0 cA lk) | go_in)
    go_ret
    exact said_put HM.out HBA.out HO2.out HT2.out.grown (HM.out.rel.drop HT.out HI.out.nodup HFI.out)
end Go.Proofs.YtbhjgpbdfcppkaeDoor
