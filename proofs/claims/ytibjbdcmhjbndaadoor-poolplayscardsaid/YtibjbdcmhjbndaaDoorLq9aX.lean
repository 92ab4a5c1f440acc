/-
  CONNECTIONS TO PLACES: the developers' pool and the document's, side by side. No claim by itself.
-/
import Derived.Test.YtibjbdcmhjbndaaDoorLq8X
import Derived.Test.YtibjbdcmhjbndaaDoorLo12X
import Derived.Test.YtibjbdcmhjbndaaDoorLo2b
import Derived.Test.YtibjbdcmhjbndaaDoorTold
namespace Go.Proofs.YtibjbdcmhjbndaaDoor
open Go Go.RowKit Go.Maps
set_option maxRecDepth 100000
structure OP2 (w0 W X : World) (F : Nat → Prop) (pb bb ib rb : Nat) (rv : Value) (S M : Po) : Prop where
  ob : OB w0 W pb bb ib S
  om : OmP W rb rv M
  iM : PoI M
  hR : ∀ i, HersO rb rv i → w0.heap.size ≤ i
  ap : ∀ i, Po3 pb bb ib i → ¬ HersO rb rv i
  fp : ∀ i, F i → ¬ Po3 pb bb ib i
  fr : ∀ i, F i → ¬ HersO rb rv i
  fl : ∀ i, F i → i < W.heap.size
  fx : ∀ i, F i → W.heap[i]? = X.heap[i]?
section
variable {w0 W w' X X' : World} {F F' : Nat → Prop} {pb bb ib rb : Nat} {rv : Value} {S S' M M' : Po} (h : OP2 w0 W X F pb bb ib rb rv S M)
include h
theorem OP2.plt : ∀ i, Po3 pb bb ib i → i < W.heap.size := by
  obtain ⟨DB, DI, hM⟩ := h.ob.pool
  have hl := hM.lt
  rintro i (rfl | rfl | rfl)
  · exact hl.1
  · exact hl.2.1
  · exact hl.2.2
theorem OP2.old : Below w0.heap.size w0 W := h.ob.old
theorem OP2.cell {i j : Nat} {x : Value} (hf : F i) (hx : X.cell? ⟨i, j, none⟩ = some x) : W.cell? ⟨i, j, none⟩ = some x := (World.cell?_of_block (a := ⟨i, j, none⟩) (h.fx i hf)).trans hx
theorem OP2.wider (hb : Below W.heap.size W w') (hF : ∀ i, F' i → F i ∨ (W.heap.size ≤ i ∧ i < w'.heap.size)) (hX : ∀ i, F' i → w'.heap[i]? = X'.heap[i]?) : OP2 w0 w' X' F' pb bb ib rb rv S M :=
  ⟨ob_below h.ob hb, h.om.below hb, h.iM, h.hR, h.ap, fun i hi e => (hF i hi).elim (fun k => h.fp i k e) (fun k => by have := h.plt i e; omega),
    fun i hi e => (hF i hi).elim (fun k => h.fr i k e) (fun k => by have := (h.om.lt i e).2; omega), fun i hi => (hF i hi).elim (fun k => Nat.lt_of_lt_of_le (h.fl i k) hb.size) (fun k => k.2), hX⟩
theorem OP2.below (hb : Below W.heap.size W w') : OP2 w0 w' X F pb bb ib rb rv S M := h.wider hb (fun _ hi => Or.inl hi) (fun i hi => (hb.block i (h.fl i hi)).trans (h.fx i hi))
theorem OP2.dev (hp : PoK W pb bb ib S' w') (hI : PoI S') : OP2 w0 w' X F pb bb ib rb rv S' M :=
  ⟨ob_step h.ob hp hI, h.om.kept (fun k hk => hp.2.block k (h.om.lt k hk).2 (fun e => h.ap k e hk)), h.iM, h.hR, h.ap, h.fp, h.fr, fun i hi => Nat.lt_of_lt_of_le (h.fl i hi) hp.2.size, fun i hi => (hp.2.block i (h.fl i hi) (h.fp i hi)).trans (h.fx i hi)⟩
theorem OP2.doc (ho : OmOut rb rv W w' M') (hI : PoI M') : ∃ rv', OP2 w0 w' X F pb bb ib rb rv' S M' ∧ Tn (HersO rb rv) W w' := by
  obtain ⟨v', h1, h2, h3⟩ := ho
  obtain ⟨DB, DI, hM⟩ := h.ob.pool
  have hl := hM.lt
  refine ⟨v', ⟨⟨Tn.below h.ob.old h2 h.ob.old.size h.hR, ⟨DB, DI, hM.kept (h2.block _ hl.1 (h.ap _ (Or.inl rfl))) (h2.block _ hl.2.1 (h.ap _ (Or.inr (Or.inl rfl)))) (h2.block _ hl.2.2 (h.ap _ (Or.inr (Or.inr rfl))))⟩, h.ob.hS, h.ob.inv⟩, h1, hI, ?_, ?_, h.fp, ?_, ?_, fun i hi => (h2.block i (h.fl i hi) (h.fr i hi)).trans (h.fx i hi)⟩, h2⟩
  · intro i hi
    rcases h3 i hi with e | e
    · exact h.hR i e
    · exact Nat.le_trans h.ob.old.size e
  · intro i hp hi
    rcases h3 i hi with e | e
    · exact h.ap i hp e
    · have := h.plt i hp; omega
  · intro i hf hi
    rcases h3 i hi with e | e
    · exact h.fr i hf e
    · have := h.fl i hf; omega
  · intro i hf
    exact Nat.lt_of_lt_of_le (h.fl i hf) h2.size
theorem OP2.mtake (tt : ByteArray) (hto : tt.size ≤ 140737488351232) (hl1 : M.last ≤ 1000000000000) :
    Calls Tryd.prog 7 #[.pointer (some ⟨rb, 0, none⟩), .string tt] W fun e w' => e = .returned (.tuple #[.int .i64 (takeT M tt).1, .bool (takeT M tt).2.1, .int .i64 (takeT M tt).2.2.1]) ∧ ∃ rv', OP2 w0 w' X F pb bb ib rb rv' S (takeT M tt).2.2.2 ∧ Tn (HersO rb rv) W w' := by
  refine (rotake_any h.om h.iM tt hto hl1).mono ?_
  rintro e w' ⟨he, ho⟩
  exact ⟨he, h.doc ho (poI_takeT h.iM tt)⟩
theorem OP2.dtake (tt : ByteArray) (hto : tt.size ≤ 140737488351232) (ht1 : S.turn ≤ 1000000000000) (hl1 : S.last ≤ 1000000000000) :
    Calls Tryd.prog 8 #[.pointer (some ⟨pb, 0, none⟩), .string tt] W fun e w' => e = .returned (.tuple #[.int .i64 (takeT S tt).1, .bool (takeT S tt).2.1, errW (takeT S tt).2.2.1]) ∧ OP2 w0 w' X F pb bb ib rb rv (takeT S tt).2.2.2 M := by
  obtain ⟨DB, DI, hM⟩ := h.ob.pool
  refine (otake_any hM h.ob.inv tt hto ht1 hl1).mono ?_
  rintro e w' ⟨he, hk⟩
  exact ⟨he, h.dev hk (poI_takeT h.ob.inv tt)⟩
theorem OP2.dback (id : Int) (good : Bool) (hi : Ix64 id) (ht1 : S.turn ≤ 1000000000000) :
    Calls Tryd.prog 9 #[.pointer (some ⟨pb, 0, none⟩), .int .i64 id, .bool good] W fun e w' => e = .returned (errW (backF S id good).1) ∧ OP2 w0 w' X F pb bb ib rb rv (backF S id good).2 M ∧ Tn (Po3 pb bb ib) W w' := by
  obtain ⟨DB, DI, hM⟩ := h.ob.pool
  refine (oback_any hM h.ob.inv id good hi ht1).mono ?_
  rintro e w' ⟨he, hk⟩
  exact ⟨he, h.dev hk (poI_back h.ob.inv id good), hk.2⟩
theorem OP2.mback (id : Int) (good : Bool) (ht1 : M.turn ≤ 1000000000000) :
    Calls Tryd.prog 10 #[.pointer (some ⟨rb, 0, none⟩), .int .i64 id, .bool good] W fun e w' => e = .returned (.int .i64 (backF M id good).1) ∧ ∃ rv', OP2 w0 w' X F pb bb ib rb rv' S (backF M id good).2 ∧ Tn (HersO rb rv) W w' := by
  refine (roback_any h.om h.iM id good ht1).mono ?_
  rintro e w' ⟨he, ho⟩
  exact ⟨he, h.doc ho (poI_back h.iM id good)⟩
theorem OP2.mtick_no (now old : Int) (he : tickE M now old ≠ 0) : Calls Tryd.prog 11 #[.pointer (some ⟨rb, 0, none⟩), .int .i64 now, .int .i64 old] W fun e w' => e = .returned (.tuple #[.slice none 0 0, .int .i64 (tickE M now old)]) ∧ W = w' := by
  refine (rotick_any h.om h.iM now old).mono ?_
  rintro e w' (⟨_, h1, h2⟩ | ⟨h1, _⟩)
  · exact ⟨h1, h2⟩
  · exact absurd h1 he
theorem OP2.mtick (now old : Int) (he : tickE M now old = 0) : Calls Tryd.prog 11 #[.pointer (some ⟨rb, 0, none⟩), .int .i64 now, .int .i64 old] W fun e w' => ∃ v8 ids, e = .returned (.tuple #[v8, .int .i64 0]) ∧ TickIds M now old ids ∧ IRo W.heap.size w' v8 ids ∧ ∃ rv', OP2 w0 w' X F pb bb ib rb rv' S (tickS M now old) ∧ Tn (HersO rb rv) W w' := by
  refine (rotick_any h.om h.iM now old).mono ?_
  rintro e w' (⟨h1, _⟩ | ⟨_, v8, ids, h2, h3, h4, h5⟩)
  · exact absurd he h1
  · exact ⟨v8, ids, h2, h3, h4, h.doc h5 (poI_tick h.iM he)⟩
theorem OP2.dtick_no (now old : Int) (he : tickE S now old ≠ 0) : Calls Tryd.prog 12 #[.pointer (some ⟨pb, 0, none⟩), .int .i64 now, .int .i64 old] W fun e w' => e = .returned (.tuple #[.slice none 0 0, .iface 53 (.int .i64 (tickE S now old))]) ∧ W = w' := h.ob.tick_no now old he
theorem OP2.dtick (now old : Int) (he : tickE S now old = 0) : Calls Tryd.prog 12 #[.pointer (some ⟨pb, 0, none⟩), .int .i64 now, .int .i64 old] W fun e w' => ∃ v ids, e = .returned (.tuple #[v, .nilIface]) ∧ TickIds S now old ids ∧ IRo W.heap.size w' v ids ∧ OP2 w0 w' X F pb bb ib rb rv (tickS S now old) M ∧ Tn (Po3 pb bb ib) W w' := by
  obtain ⟨DB, DI, hM⟩ := h.ob.pool
  refine (otick_yes hM h.ob.inv now old he).mono ?_
  rintro e w' (⟨h1, _⟩ | ⟨_, v, ids, h2, h3, h4, h5⟩)
  · exact absurd he h1
  · refine ⟨v, ids, h2, h4, ?_, h.dev h5 (poI_tick h.ob.inv he), h5.2⟩
    rcases h3 with ⟨rfl, rfl⟩ | ⟨g, c, rfl, k1, k2, k3, k4, k5⟩
    · exact iro_nil _ _
    · exact ⟨_, c, rfl, k3, k4, fun j hj => ⟨g, rfl, k2, k1, k5 j hj⟩⟩
theorem OP2.busy : Calls Tryd.prog 14 #[.pointer (some ⟨pb, 0, none⟩)] W fun e w' => e = .returned (.int .i64 (nB S.L : Nat)) ∧ W = w' := by
  obtain ⟨DB, DI, hM⟩ := h.ob.pool
  exact obusy_any hM
theorem OP2.idle (tt : ByteArray) : Calls Tryd.prog 15 #[.pointer (some ⟨pb, 0, none⟩), .string tt] W fun e w' => e = .returned (.int .i64 (idleTo S.L tt : Nat)) ∧ Below W.heap.size W w' := by
  obtain ⟨DB, DI, hM⟩ := h.ob.pool
  exact oidle_any hM h.ob.inv tt
end
theorem perr_ok (w : World) (k : Int) (hg : Laid w) : Calls Tryd.prog 6 #[errW k, .int .i64 k] w fun e w' => e = .returned (.bool true) ∧ Below w.heap.size w w' := by
  unfold errW
  by_cases h : k = 0
  · rw [if_pos h]
    subst h
    refine (error_nil 0 w).mono ?_
    rintro e w' ⟨rfl, rfl⟩
    exact ⟨rfl, Below.refl _ _⟩
  · rw [if_neg h]
    refine (error_hit k k w hg).mono ?_
    rintro e w' ⟨rfl, hb⟩
    exact ⟨by simp, hb⟩
theorem OP2.err {w0 W X : World} {F : Nat → Prop} {pb bb ib rb : Nat} {rv : Value} {S M : Po} (h : OP2 w0 W X F pb bb ib rb rv S M) (hg : Laid W) (k : Int) : Calls Tryd.prog 6 #[errW k, .int .i64 k] W fun e w' => e = .returned (.bool true) ∧ OP2 w0 w' X F pb bb ib rb rv S M := by
  refine (perr_ok W k hg).mono ?_
  rintro e w' ⟨he, hb⟩
  exact ⟨he, h.below hb⟩
/-- How far its numbers have gone. -/
def PoBd (S : Po) (k : Nat) : Prop := S.turn ≤ k ∧ S.last ≤ k
theorem poBd_take {S : Po} {k : Nat} (h : PoBd S k) (tt : ByteArray) : PoBd (takeT S tt).2.2.2 (k + 1) := by
  obtain ⟨h1, h2⟩ := h
  unfold takeT takeF PoBd
  repeat' split
  all_goals first | (constructor <;> (simp only []; omega)) | (constructor <;> omega)
theorem poBd_back {S : Po} {k : Nat} (h : PoBd S k) (id : Int) (good : Bool) : PoBd (backF S id good).2 (k + 1) := by
  obtain ⟨h1, h2⟩ := h
  unfold backF PoBd
  repeat' split
  all_goals first | (constructor <;> (simp only []; omega)) | (constructor <;> omega)
theorem poBd_tick {S : Po} {k : Nat} (h : PoBd S k) (now old : Int) : PoBd (tickS S now old) (k + 1) := by
  obtain ⟨h1, h2⟩ := h
  unfold tickS PoBd
  constructor <;> (simp only []; omega)
theorem poBd_same {S : Po} {k : Nat} (h : PoBd S k) : PoBd S (k + 1) := by
  obtain ⟨h1, h2⟩ := h
  constructor <;> omega
theorem nB_take {L : LL} {i : Nat} (hi : i < L.length) : nB (L.take (i + 1)) = nB (L.take i) + (if (lnth L i).busy = true then 1 else 0) := by
  rw [ltake_nth L i hi]
  unfold nB busyL
  rw [List.filter_append, List.length_append]
  cases hb : (lnth L i).busy <;> simp [hb]
theorem idle_take {L : LL} {i : Nat} (hi : i < L.length) (tt : ByteArray) : idleTo (L.take (i + 1)) tt = idleTo (L.take i) tt + (if isTo tt (lnth L i) = true then 1 else 0) := by
  rw [ltake_nth L i hi]
  unfold idleTo
  rw [List.filter_append, List.length_append]
  cases hb : isTo tt (lnth L i) <;> simp [hb]
theorem tick_few {S : Po} (hI : PoI S) {now old : Int} {ids : List Int} (h : TickIds S now old ids) : ids.length ≤ 1000 := by
  have h1 := h.1.length_eq
  unfold goneL at h1
  rw [List.length_map] at h1
  have h2 : (S.L.filter (goesB now old)).length ≤ S.L.length := List.length_filter_le _ _
  have h3 := hI.len
  have h4 := hI.many
  omega
/-- The law's five names. -/
def onm (t : Nat) : ByteArray := match t with | 0 => ⟨#[97]⟩ | 1 => ⟨#[98]⟩ | 2 => ⟨#[99]⟩ | 3 => ⟨#[]⟩ | _ => ⟨#[65, 45, 49]⟩
theorem onm_small (t : Nat) : (onm t).size ≤ 140737488351232 := by
  unfold onm
  split <;> decide
theorem oidx (y : Int) : ∃ (r : Int) (t : Nat), y.tmod 5 = r ∧ -4 ≤ r ∧ r ≤ 4 ∧ (r + 5).tmod 5 = (t : Int) ∧ t < 5 := by
  have h1 := Int.tmod_lt_of_pos y (show (0 : Int) < 5 by decide)
  have h2 : -5 < y.tmod 5 := by
    have := Int.lt_tmod_of_pos y (show (0 : Int) < 5 by decide)
    exact this
  have h3 := Int.tmod_lt_of_pos (y.tmod 5 + 5) (show (0 : Int) < 5 by decide)
  have h4 : 0 ≤ (y.tmod 5 + 5).tmod 5 := Int.tmod_nonneg _ (by omega)
  exact ⟨y.tmod 5, ((y.tmod 5 + 5).tmod 5).toNat, rfl, by omega, by omega, by omega, by omega⟩
end Go.Proofs.YtibjbdcmhjbndaaDoor
