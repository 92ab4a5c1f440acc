/-
  WHO IS TAKEN IS TAKEN BY ONE ALONE: a pool and a row of those that are away, from call to call. No claim by itself.
-/
import Derived.Test.YtibjbdcmhjbndaaDoorLo15
import Derived.ArgAppend
namespace Go.Proofs.YtibjbdcmhjbndaaDoor
open Go Go.RowKit Go.Maps
set_option maxRecDepth 100000
/-- A row of numbers that begins anywhere in a block of the call's own. -/
def BR (n0 : Nat) (F : Nat → Prop) (w : World) (v : Value) (R : List Int) : Prop :=
  (v = .slice none 0 0 ∧ R = []) ∨ ∃ g off cap, v = .slice (some ⟨g, off, none⟩) R.length cap ∧ n0 ≤ g ∧ ¬ F g ∧ g < w.heap.size ∧ R.length ≤ cap ∧ cap ≤ maxLen ∧
    (∀ i, i < R.length → w.cell? ⟨g, off + i, none⟩ = some (.int .i64 (R.getD i 0))) ∧ ∀ i, i < cap → (w.cell? ⟨g, off + i, none⟩).isSome = true ∧ w.frozen? ⟨g, off + i, none⟩ = false
theorem BR.kept {n0 : Nat} {F : Nat → Prop} {w w' : World} {v : Value} {R : List Int} (h : BR n0 F w v R) (hsz : w.heap.size ≤ w'.heap.size) (hk : ∀ k, k < w.heap.size → n0 ≤ k → ¬ F k → w'.heap[k]? = w.heap[k]?) : BR n0 F w' v R := by
  rcases h with h | ⟨g, off, cap, hv, h0, h1, h2, h3, h4, h5, h6⟩
  · exact Or.inl h
  · have e := hk g h2 h0 h1
    have ec : ∀ j, w'.cell? ⟨g, j, none⟩ = w.cell? ⟨g, j, none⟩ := fun j => World.cell?_of_block (a := ⟨g, j, none⟩) e
    have ef : ∀ j, w'.frozen? ⟨g, j, none⟩ = w.frozen? ⟨g, j, none⟩ := fun j => World.frozen?_of_block (a := ⟨g, j, none⟩) e
    exact Or.inr ⟨g, off, cap, hv, h0, h1, by omega, h3, h4, fun i hi => (ec _).trans (h5 i hi), fun i hi => by rw [ec, ef]; exact h6 i hi⟩
theorem BR.below {n0 : Nat} {F : Nat → Prop} {w w' : World} {v : Value} {R : List Int} (h : BR n0 F w v R) (hb : Below w.heap.size w w') : BR n0 F w' v R := h.kept hb.size (fun k hk _ _ => hb.block k hk)
theorem BR.tn {n0 : Nat} {F : Nat → Prop} {w w' : World} {v : Value} {R : List Int} (h : BR n0 F w v R) (hb : Tn F w w') : BR n0 F w' v R := h.kept hb.size (fun k hk _ hn => hb.block k hk hn)
theorem BR.form {n0 : Nat} {F : Nat → Prop} {w : World} {v : Value} {R : List Int} (h : BR n0 F w v R) : ∃ a c, v = .slice a R.length c := by
  rcases h with ⟨rfl, rfl⟩ | ⟨g, off, cap, rfl, _⟩
  · exact ⟨none, 0, rfl⟩
  · exact ⟨_, _, rfl⟩
theorem BR.reads {n0 : Nat} {F : Nat → Prop} {w : World} {a : Option Addr} {c : Nat} {R : List Int} (h : BR n0 F w (.slice a R.length c) R) : ∀ j, j < R.length → ∃ g' o', a = some ⟨g', o', none⟩ ∧ w.cell? ⟨g', o' + j, none⟩ = some (.int .i64 (R.getD j 0)) ∧ R.length ≤ c ∧ c ≤ maxLen ∧ g' < w.heap.size := by
  intro j hj
  rcases h with ⟨_, rfl⟩ | ⟨g, off, cap, hv, h0, h1, h2, h3, h4, h5, h6⟩
  · cases hj
  · simp only [Value.slice.injEq] at hv
    obtain ⟨ha, _, hc⟩ := hv
    exact ⟨g, off, ha, h5 j hj, by omega, by omega, h2⟩
/-- Its first is left out. -/
theorem BR.rest {n0 : Nat} {F : Nat → Prop} {w : World} {v : Value} {x : Int} {R : List Int} (h : BR n0 F w v (x :: R)) :
    ∃ g off cap, v = .slice (some ⟨g, off, none⟩) (R.length + 1) cap ∧ R.length + 1 ≤ cap ∧ cap ≤ maxLen ∧ g < w.heap.size ∧ ¬ F g ∧ w.cell? ⟨g, off, none⟩ = some (.int .i64 x) ∧ BR n0 F w (.slice (some ⟨g, off + 1, none⟩) R.length (cap - 1)) R := by
  rcases h with ⟨_, h⟩ | ⟨g, off, cap, hv, h0, h1, h2, h3, h4, h5, h6⟩
  · cases h
  · rw [List.length_cons] at hv h3
    refine ⟨g, off, cap, hv, h3, h4, h2, h1, ?_, Or.inr ⟨g, off + 1, cap - 1, rfl, h0, h1, h2, by omega, by omega, fun i hi => ?_, fun i hi => ?_⟩⟩
    · have := h5 0 (by simp)
      simpa using this
    · have := h5 (i + 1) (by rw [List.length_cons]; omega)
      rw [show off + (i + 1) = off + 1 + i by omega] at this
      simpa using this
    · have := h6 (i + 1) (by omega)
      rwa [show off + (i + 1) = off + 1 + i by omega] at this
theorem BR.cut {n0 : Nat} {F : Nat → Prop} {w : World} {g o c : Nat} {x : Int} {R : List Int} (h : BR n0 F w (.slice (some ⟨g, o, none⟩) (R.length + 1) c) (x :: R)) :
    BR n0 F w (.slice (some ⟨g, o + 1, none⟩) R.length (c - 1)) R ∧ (c - 1 = 0 → BR n0 F w (.slice (some ⟨g, o, none⟩) R.length 0) R) := by
  have h' := h
  obtain ⟨g2, o2, c2, hv, _, _, _, _, _, hr⟩ := h'.rest
  simp only [Value.slice.injEq, Option.some.injEq, Addr.mk.injEq] at hv
  obtain ⟨⟨rfl, rfl, _⟩, _, rfl⟩ := hv
  refine ⟨hr, fun hc => ?_⟩
  rcases h with ⟨_, e⟩ | ⟨g3, o3, c3, hv3, k0, k1, k2, k3, k4, _, _⟩
  · cases e
  · simp only [Value.slice.injEq, Option.some.injEq, Addr.mk.injEq] at hv3
    obtain ⟨⟨rfl, rfl, _⟩, e1, rfl⟩ := hv3
    rw [List.length_cons] at k3
    have hR : R.length = 0 := by omega
    exact Or.inr ⟨g, o, 0, rfl, k0, k1, k2, by omega, Nat.zero_le _, fun i hi => by omega, fun i hi => by omega⟩
theorem brow_of_owns {n0 b : Nat} {F : Nat → Prop} {w : World} {v : Value} {R : List Int} {n : Nat} (hn : n = R.length) (hpos : 0 < R.length) (h : w.ownsRow b 3 1 v n (R.map (Value.int .i64))) (h0 : n0 ≤ b) (hF : ∀ k, F k → k < b) : BR n0 F w v R := by
  rcases h.2 with ⟨_, e⟩ | ⟨g, cap, cur, hv, hb, hg, hnc, hcm, hcs, ht⟩
  · omega
  · subst hn
    have hlt : g < w.heap.size := by
      rcases Nat.lt_or_ge g w.heap.size with h1 | h1
      · exact h1
      · rw [Array.getElem?_eq_none h1] at hg; cases hg
    refine Or.inr ⟨g, 0, cap, hv, by omega, fun hf => by have := hF g hf; omega, hlt, hnc, hcm, fun i hi => ?_, fun i hi => ⟨?_, frozen_of_row w g _ _ _ hg⟩⟩
    · rw [cell_of_row w g _ _ _ _ hg, Nat.zero_add]
      have e := congrArg (fun l => l[i]?) ht
      simp only [Nat.mul_one] at e
      rw [List.getElem?_take_of_lt hi, List.getElem?_map, List.getElem?_eq_getElem hi] at e
      rw [← Array.getElem?_toList, e, List.getD, List.getElem?_eq_getElem hi]
      rfl
    · rw [cell_of_row w g _ _ _ _ hg, Nat.zero_add, Array.getElem?_eq_getElem (by omega)]
      rfl
theorem brow_in {w : World} {R : List Int} {g off : Nat} (h : ∀ i, i < R.length → w.cell? ⟨g, off + i, none⟩ = some (.int .i64 (R.getD i 0))) : ∀ j u, (R.map (Value.int .i64))[j]? = some u → w.cell? ⟨g, off + j, none⟩ = some u := by
  intro j u hu
  rw [List.getElem?_map] at hu
  rcases Nat.lt_or_ge j R.length with hj | hj
  · rw [List.getElem?_eq_getElem hj] at hu
    have := h j hj
    rw [List.getD, List.getElem?_eq_getElem hj] at this
    simp only [Option.map_some, Option.some.injEq] at hu
    rw [this, ← hu]
    rfl
  · rw [List.getElem?_eq_none hj] at hu
    cases hu
/-- One more. -/
theorem wpList_brow (w : World) {ops : Array Oper} {rest : List Oper} {o : Oper} {a : Act} {Q : Exit → Act → World → Prop} (hgd : o.guard = none) (s x : Operand)
    (ho : o.op = .call { callee := .builtin .append, args := #[s, x], argTypes := #[35, 35] }) {n0 : Nat} {F : Nat → Prop} {v : Value} {R : List Int} (hs : a.eval s = v) (hr : BR n0 F w v R) (nb : Nat) (id : Int)
    (hx : a.eval x = .slice (some ⟨nb, 0, none⟩) 1 1) (hc : w.cell? ⟨nb, 0, none⟩ = some (.int .i64 id)) (hl : R.length ≤ 1000) (hn0 : n0 ≤ w.heap.size) (hF : ∀ k, F k → k < w.heap.size)
    (h : ∀ v' w', BR n0 F w' v' (R ++ [id]) → Tn (fun k => n0 ≤ k ∧ ¬ F k) w w' → wpList Tryd.prog ops Q rest (a.put o.dst v') w') : wpList Tryd.prog ops Q (o :: rest) a w := by
  obtain ⟨i0, hi, hz0, hz1, hz2⟩ := info_parts i_info3
  have hnews : ∀ j u, [Value.int .i64 id][j]? = some u → w.cell? ((⟨nb, 0, none⟩ : Addr).add j) = some u := by
    intro j u hu
    match j with
    | 0 =>
      simp only [List.getElem?_cons_zero, Option.some.injEq] at hu
      rw [← hu, Addr.add_lit]
      exact hc
    | j + 1 => simp at hu
  have h1 : ∀ u ∈ [Value.int .i64 id], u.oneCell' = true := by intro u hu; simp at hu; subst hu; rfl
  have tn0 : ∀ {w'}, w.grownBy w' none → Tn (fun k => n0 ≤ k ∧ ¬ F k) w w' := fun g => ⟨g.os, g.tape, g.output, g.size, fun k hk _ => g.block k hk (by simp)⟩
  rcases hr with ⟨rfl, rfl⟩ | ⟨g, off, cap, rfl, k0, k1, k2, k3, k4, k5, k6⟩
  · refine wpList_append_grows w hgd s x 35 ho 3 i0 (.int .i64 0) 1 8 Tryd.underlying35 hi hz0 hz1 hz2 rfl (by decide) none 0 0 [] hs (fun _ => ⟨rfl, rfl⟩) rfl (fun b e => by cases e) ⟨nb, 0, none⟩ 1 1 [.int .i64 id] hx rfl hnews h1 (by decide) (by decide) (by decide) fun v' w' r1 r2 => h v' w' ?_ (tn0 r2)
    exact brow_of_owns (R := [id]) (b := w.heap.size) (n := 0 + 1) rfl (by simp) r1 hn0 hF
  · have hm : R.length + 1 ≤ maxLen := by unfold maxLen; omega
    refine wpList_append_arg w hgd s x 35 ho 3 i0 (.int .i64 0) 1 8 Tryd.underlying35 hi hz0 hz1 hz2 rfl (by decide) g off R.length cap (R.map (Value.int .i64)) hs (by simp) (brow_in k5) ⟨nb, 0, none⟩ 1 1 [.int .i64 id] hx rfl hnews h1
      (fun hroom j hj => by
        simp only [List.length_cons, List.length_nil] at hj
        obtain rfl : j = 0 := by omega
        have := k6 R.length (by omega)
        simpa using this) hm (by omega) (fun hroom => ?_) (fun hfull v' w' r1 r2 => h v' w' ?_ (tn0 r2))
    · have hgr := setCells_grown w g (off + R.length * 1) [.int .i64 id]
      refine h _ _ (Or.inr ⟨g, off, cap, by rw [List.length_append]; rfl, k0, k1, Nat.lt_of_lt_of_le k2 hgr.size, by rw [List.length_append]; exact hroom, k4, fun i hi' => ?_, fun i hi' => ?_⟩) ⟨hgr.os, hgr.tape, hgr.output, hgr.size, fun k hk hn => hgr.block k hk (fun e => by cases e; exact hn ⟨k0, k1⟩)⟩
      · rw [List.length_append, List.length_singleton] at hi'
        by_cases hlt : i < R.length
        · rw [World.cell?_setCells_out g _ _ _ _ (fun _ _ => Or.inl (by show off + i < off + R.length * 1; omega)), k5 i hlt]
          simp [List.getD, List.getElem?_append_left hlt]
        · obtain rfl : i = R.length := by omega
          have := World.cell?_setCells_in g [Value.int .i64 id] (off + R.length * 1) w (fun j hj => by
            simp only [List.length_cons, List.length_nil] at hj
            obtain rfl : j = 0 := by omega
            have := (k6 R.length (by omega)).1
            simpa using this) 0 (by simp)
          rw [Nat.add_zero, Nat.mul_one] at this
          rw [Nat.mul_one, this]
          simp [List.getD]
      · rw [World.frozen?_setCells]
        refine ⟨?_, (k6 i hi').2⟩
        by_cases he : i = R.length
        · subst he
          have := World.cell?_setCells_in g [Value.int .i64 id] (off + R.length * 1) w (fun j hj => by
            simp only [List.length_cons, List.length_nil] at hj
            obtain rfl : j = 0 := by omega
            have := (k6 R.length (by omega)).1
            simpa using this) 0 (by simp)
          rw [Nat.add_zero, Nat.mul_one] at this
          rw [Nat.mul_one, this]
          rfl
        · rw [World.cell?_setCells_out g _ _ _ _ (fun _ _ => by
            simp only [List.length_cons, List.length_nil]
            omega)]
          exact (k6 i hi').1
    · exact brow_of_owns (R := R ++ [id]) (b := w.heap.size) (n := R.length + 1) (by simp) (by simp) (by rw [List.map_append]; exact r1) hn0 hF
/-- A pool, and a row of those that are away. -/
structure OA (w0 W : World) (pb bb ib : Nat) (S : Po) (v : Value) (R B : List Int) (k : Nat) : Prop where
  ob : OB w0 W pb bb ib S
  row : BR w0.heap.size (Po3 pb bb ib) W v R
  away : Away S B
  turn : S.turn ≤ k
  last : S.last ≤ k
theorem tokA : tokL (unums ⟨#[97]⟩) = true := by decide +kernel
theorem tokB : tokL (unums ⟨#[98]⟩) = true := by decide +kernel
section
variable {w0 W w' : World} {pb bb ib : Nat} {S : Po} {v : Value} {R B : List Int} {k : Nat} (h : OA w0 W pb bb ib S v R B k)
include h
theorem OA.below (hb : Below W.heap.size W w') : OA w0 w' pb bb ib S v R B k := ⟨ob_below h.ob hb, h.row.below hb, h.away, h.turn, h.last⟩
theorem OA.few : B.length ≤ 8 := by
  have h1 := nB_nI S.L
  have h2 := h.ob.inv.len
  have h3 := h.away.len
  have h4 := h.ob.inv.many
  omega
theorem OA.old : Below w0.heap.size w0 W := h.ob.old
theorem OA.app {v' : Value} {R' : List Int} (hr : BR w0.heap.size (Po3 pb bb ib) w' v' R') (ht : Tn (fun k => w0.heap.size ≤ k ∧ ¬ Po3 pb bb ib k) W w') : OA w0 w' pb bb ib S v' R' B k := by
  obtain ⟨DB, DI, hM⟩ := h.ob.pool
  have hl := hM.lt
  refine ⟨⟨Tn.below h.ob.old ht h.ob.old.size (fun i hi => hi.1), ⟨DB, DI, hM.kept (ht.block _ hl.1 (fun e => e.2 (Or.inl rfl))) (ht.block _ hl.2.1 (fun e => e.2 (Or.inr (Or.inl rfl)))) (ht.block _ hl.2.2 (fun e => e.2 (Or.inr (Or.inr rfl))))⟩, h.ob.hS, h.ob.inv⟩, hr, h.away, h.turn, h.last⟩
theorem OA.lt : ∀ i, Po3 pb bb ib i → i < W.heap.size := by
  obtain ⟨DB, DI, hM⟩ := h.ob.pool
  have hl := hM.lt
  rintro i (rfl | rfl | rfl)
  · exact hl.1
  · exact hl.2.1
  · exact hl.2.2
theorem OA.take (to : ByteArray) (ht : tokL (unums to) = true) (hto : to.size ≤ 140737488351232) (hk : k ≤ 1000) :
    Calls Tryd.prog 8 #[.pointer (some ⟨pb, 0, none⟩), .string to] W fun e w' =>
      ((B.length : Int) = S.many ∧ e = .returned (.tuple #[.int .i64 0, .bool false, .iface 53 (.int .i64 4)]) ∧ OA w0 w' pb bb ib S v R B k) ∨
      ∃ id fresh S', e = .returned (.tuple #[.int .i64 id, .bool fresh, .nilIface]) ∧ TookS S B S.many S.last id fresh S' ∧ OA w0 w' pb bb ib S' v R (B ++ [id]) (k + 1) := by
  obtain ⟨DB, DI, hM⟩ := h.ob.pool
  have htn := h.turn
  have hla := h.last
  refine (otake_any hM h.ob.inv to hto (by omega) (by omega)).mono ?_
  rintro e w' ⟨he, hk'⟩
  have hob := ob_step h.ob hk' (poI_takeT h.ob.inv to)
  have hro := h.row.tn hk'.2
  rcases take_away h.away h.ob.inv ht with ⟨h1, h2⟩ | ⟨id, fresh, S', h1, h2⟩
  · rw [h2] at he hob
    exact Or.inl ⟨h1, he, hob, hro, h.away, h.turn, h.last⟩
  · rw [h1] at he hob
    refine Or.inr ⟨id, fresh, S', he, h2, hob, hro, h2.away, by rw [h2.turn]; omega, ?_⟩
    cases hf : fresh with
    | true => have := (h2.yes hf).2; omega
    | false => have := (h2.no hf).2; omega
theorem OA.busy : Calls Tryd.prog 14 #[.pointer (some ⟨pb, 0, none⟩)] W fun e w' => e = .returned (.int .i64 (B.length : Nat)) ∧ W = w' := by
  obtain ⟨DB, DI, hM⟩ := h.ob.pool
  rw [h.away.len]
  exact obusy_any hM
theorem OA.idle (to : ByteArray) : Calls Tryd.prog 15 #[.pointer (some ⟨pb, 0, none⟩), .string to] W fun e w' => e = .returned (.int .i64 (idleTo S.L to : Nat)) ∧ Below W.heap.size W w' := by
  obtain ⟨DB, DI, hM⟩ := h.ob.pool
  exact oidle_any hM h.ob.inv to
end
section
variable {w0 W : World} {pb bb ib : Nat} {S : Po} {v : Value} {R B : List Int} {k : Nat} {id : Int}
theorem OA.id64 (h : OA w0 W pb bb ib S v R (id :: B) k) (hk : k ≤ 1000 := by omega) : Ix64 id := by
  have hla := h.last
  obtain ⟨o, ho, hob, hid⟩ := h.away.mem.1 (List.mem_cons_self ..)
  have hr := h.ob.inv.each o ho
  unfold Ix64
  omega
theorem OA.back (h : OA w0 W pb bb ib S v R (id :: B) k) (good : Bool) (hk : k ≤ 1000) :
    Calls Tryd.prog 9 #[.pointer (some ⟨pb, 0, none⟩), .int .i64 id, .bool good] W fun e w' => ∃ S', e = .returned .nilIface ∧ S'.many = S.many ∧ S'.last = S.last ∧ backF S' id true = (5, S') ∧ Tn (Po3 pb bb ib) W w' ∧ OA w0 w' pb bb ib S' v R B (k + 1) := by
  obtain ⟨DB, DI, hM⟩ := h.ob.pool
  have htn := h.turn
  have hla := h.last
  obtain ⟨o, ho, hob, hid⟩ := h.away.mem.1 (List.mem_cons_self ..)
  have hr := h.ob.inv.each o ho
  refine (oback_any hM h.ob.inv id good (by unfold Ix64; omega) (by omega)).mono ?_
  rintro e w' ⟨he, hk'⟩
  obtain ⟨S', h1, h2, h3, h4, h5, h6⟩ := back_away h.away h.ob.inv good
  have hob' := ob_step h.ob hk' (poI_back h.ob.inv id good)
  rw [h1] at he hob'
  exact ⟨S', he, h4, h5, h3, hk'.2, hob', h.row.tn hk'.2, h2, by omega, by omega⟩
theorem OA.back_no (h : OA w0 W pb bb ib S v R B k) (hi : Ix64 id) (hb : backF S id true = (5, S)) (hk : k ≤ 1000) :
    Calls Tryd.prog 9 #[.pointer (some ⟨pb, 0, none⟩), .int .i64 id, .bool true] W fun e w' => e = .returned (.iface 53 (.int .i64 5)) ∧ OA w0 w' pb bb ib S v R B k := by
  obtain ⟨DB, DI, hM⟩ := h.ob.pool
  have htn := h.turn
  refine (oback_any hM h.ob.inv id true hi (by omega)).mono ?_
  rintro e w' ⟨he, hk'⟩
  have hob' := ob_step h.ob hk' (poI_back h.ob.inv id true)
  rw [hb] at he hob'
  exact ⟨he, hob', h.row.tn hk'.2, h.away, h.turn, h.last⟩
end
end Go.Proofs.YtibjbdcmhjbndaaDoor
