/-
  TWO PICKERS SIDE BY SIDE: the developers' and the document's. No claim by itself.
-/
import Derived.Test.YtbhjgpbdfcppkaeDoorPref7
import Derived.Test.YtbhjgpbdfcppkaeDoorTold
namespace Go.Proofs.YtbhjgpbdfcppkaeDoor
open Go.RowKit
set_option maxRecDepth 100000
theorem errW_ok (w : World) (k : Int) (hg : Laid w) : Calls Tryd.prog 5 #[errW k, .int .i64 k] w fun e w' => e = .returned (.bool true) ∧ Below w.heap.size w w' := by
  unfold errW
  by_cases h : k = 0
  · rw [if_pos h]
    subst h
    refine (error_nil 0 w).mono ?_
    rintro e w' ⟨rfl, rfl⟩
    exact ⟨rfl, Below.refl _ _⟩
  · rw [if_neg h]
    refine (error_hit k k w hg).mono ?_
    rintro e w' ⟨rfl, hb⟩
    exact ⟨by simp, hb⟩
/-- Blocks that stay. -/
def KX (X : Nat → Prop) (w w' : World) : Prop := ∀ k, X k → w'.heap[k]? = w.heap[k]?
theorem KX.cell {X : Nat → Prop} {w w' : World} (h : KX X w w') {g o : Nat} {v : Value} (hx : X g) (hc : w.cell? ⟨g, o, none⟩ = some v) : w'.cell? ⟨g, o, none⟩ = some v := (World.cell?_of_block (a := ⟨g, o, none⟩) (h g hx)).trans hc
/-- Both pickers, each in blocks of its own, apart from the blocks X and from what was there before. -/
def Pair (D : PkD) (w0 : World) (X : Nat → Prop) (w : World) (pb rb : Nat) (Ld Lr : PL) : Prop :=
  ∃ S v, D w pb Ld S ∧ RpP w rb v Lr ∧ (∀ k, S k → ¬ Hers rb v k) ∧ (∀ k, S k → w0.heap.size ≤ k ∧ ¬ X k) ∧ (∀ k, Hers rb v k → w0.heap.size ≤ k ∧ ¬ X k) ∧ (∀ k, X k → k < w.heap.size) ∧ Below w0.heap.size w0 w
theorem Pair.old {D : PkD} {w0 : World} {X : Nat → Prop} {w : World} {pb rb : Nat} {Ld Lr : PL} (h : Pair D w0 X w pb rb Ld Lr) : Below w0.heap.size w0 w := by
  obtain ⟨S, v, _, _, _, _, _, _, hb⟩ := h
  exact hb
theorem Pair.below {D : PkD} (K : PkKeeps D) {w0 : World} {X : Nat → Prop} {w w' : World} {pb rb : Nat} {Ld Lr : PL} (h : Pair D w0 X w pb rb Ld Lr) (hb : Below w.heap.size w w') : Pair D w0 X w' pb rb Ld Lr ∧ KX X w w' := by
  obtain ⟨S, v, h1, h2, h3, h4, h5, h6, h7⟩ := h
  exact ⟨⟨S, v, K.below h1 hb, h2.below hb, h3, h4, h5, fun k hk => Nat.lt_of_lt_of_le (h6 k hk) hb.size, h7.trans (hb.mono h7.size)⟩, fun k hk => hb.block k (h6 k hk)⟩
theorem Pair.drew {D : PkD} (K : PkKeeps D) {w0 : World} {X : Nat → Prop} {w : World} {pb rb : Nat} {Ld Lr : PL} (h : Pair D w0 X w pb rb Ld Lr) : Pair D w0 X w.drew pb rb Ld Lr := (h.below K (Below.refl _ w).drew).1
/-- A new block is one that stays. -/
theorem Pair.guard {D : PkD} (K : PkKeeps D) {w0 : World} {w w' : World} {pb rb b : Nat} {Ld Lr : PL} (h : Pair D w0 (fun _ => False) w pb rb Ld Lr) (hb : Below w.heap.size w w') (h1 : w.heap.size ≤ b) (h2 : b < w'.heap.size) : Pair D w0 (fun k => k = b) w' pb rb Ld Lr := by
  obtain ⟨S, v, k1, k2, k3, k4, k5, _, k7⟩ := h
  refine ⟨S, v, K.below k1 hb, k2.below hb, k3, fun k hk => ⟨(k4 k hk).1, fun e => ?_⟩, fun k hk => ⟨(k5 k hk).1, fun e => ?_⟩, fun k hk => by rw [hk]; exact h2, k7.trans (hb.mono k7.size)⟩
  · have := K.lt k1 k hk; omega
  · have := (k2.lt k hk).2; omega
theorem Pair.free {D : PkD} {w0 : World} {X : Nat → Prop} {w : World} {pb rb : Nat} {Ld Lr : PL} (h : Pair D w0 X w pb rb Ld Lr) : Pair D w0 (fun _ => False) w pb rb Ld Lr := by
  obtain ⟨S, v, k1, k2, k3, k4, k5, k6, k7⟩ := h
  exact ⟨S, v, k1, k2, k3, fun k hk => ⟨(k4 k hk).1, id⟩, fun k hk => ⟨(k5 k hk).1, id⟩, fun k hk => hk.elim, k7⟩
/-- Behind a call of the developers'. -/
theorem Pair.dev {D : PkD} {w0 : World} {X S S' : Nat → Prop} {v : Value} {w w' : World} {pb rb : Nat} {Ld' Lr : PL} (h2 : RpP w rb v Lr) (h3 : ∀ k, S k → ¬ Hers rb v k) (h4 : ∀ k, S k → w0.heap.size ≤ k ∧ ¬ X k) (h5 : ∀ k, Hers rb v k → w0.heap.size ≤ k ∧ ¬ X k) (h6 : ∀ k, X k → k < w.heap.size) (h7 : Below w0.heap.size w0 w)
    (d : D w' pb Ld' S') (t : Tn S w w') (n : ∀ k, S' k → S k ∨ w.heap.size ≤ k) : Pair D w0 X w' pb rb Ld' Lr ∧ KX X w w' := by
  refine ⟨⟨S', v, d, h2.kept (fun k hk => t.block k (h2.lt k hk).2 (fun e => h3 k e hk)), fun k hk hh => ?_, fun k hk => ?_, h5, fun k hk => Nat.lt_of_lt_of_le (h6 k hk) t.size, t.below h7 h7.size (fun i hi => (h4 i hi).1)⟩, fun k hk => t.block k (h6 k hk) (fun e => (h4 k e).2 hk)⟩
  · rcases n k hk with e | e
    · exact h3 k e hh
    · have := (h2.lt k hh).2; omega
  · rcases n k hk with e | e
    · exact h4 k e
    · exact ⟨Nat.le_trans h7.size e, fun hx => by have := h6 k hx; omega⟩
/-- Behind a call of the document's. -/
theorem Pair.ref {D : PkD} (K : PkKeeps D) {w0 : World} {X S : Nat → Prop} {v : Value} {w w' : World} {pb rb : Nat} {Ld Lr' : PL} (h1 : D w pb Ld S) (h3 : ∀ k, S k → ¬ Hers rb v k) (h4 : ∀ k, S k → w0.heap.size ≤ k ∧ ¬ X k) (h5 : ∀ k, Hers rb v k → w0.heap.size ≤ k ∧ ¬ X k) (h6 : ∀ k, X k → k < w.heap.size) (h7 : Below w0.heap.size w0 w)
    (o : RpOut rb v w w' Lr') : Pair D w0 X w' pb rb Ld Lr' ∧ KX X w w' := by
  obtain ⟨v', r, t, n⟩ := o
  refine ⟨⟨S, v', K.frame h1 (fun k hk => t.block k (K.lt h1 k hk) (h3 k hk)), r, fun k hk hh => ?_, h4, fun k hk => ?_, fun k hk => Nat.lt_of_lt_of_le (h6 k hk) t.size, t.below h7 h7.size (fun i hi => (h5 i hi).1)⟩, fun k hk => t.block k (h6 k hk) (fun e => (h5 k e).2 hk)⟩
  · rcases n k hh with e | e
    · exact h3 k hk e
    · have := K.lt h1 k hk; omega
  · rcases n k hk with e | e
    · exact h5 k e
    · exact ⟨Nat.le_trans h7.size e, fun hx => by have := h6 k hx; omega⟩
section
variable {D : PkD} (K : PkKeeps D) {w0 : World} {X : Nat → Prop} {w : World} {pb rb : Nat} {L Lr : PL} (h : Pair D w0 X w pb rb L Lr)
include h
theorem pair_add (hA : PAddSaid D) (hI : PkI L) (id wt : Int) (i1 : I64 id) (i2 : I64 wt) : Calls Tryd.prog 6 #[kptr pb, .int .i64 id, .int .i64 wt] w fun e w' => e = .returned (errW (addF L id wt).1) ∧ Pair D w0 X w' pb rb (addF L id wt).2 Lr ∧ KX X w w' := by
  obtain ⟨S, v, k1, k2, k3, k4, k5, k6, k7⟩ := h
  refine (hA pb L S id wt w k1 hI i1 i2).mono ?_
  rintro e w' ⟨S', rfl, d, t, n⟩
  exact ⟨rfl, Pair.dev k2 k3 k4 k5 k6 k7 d t n⟩
theorem pair_drop (hA : PDropSaid D) (hI : PkI L) (id : Int) (i1 : I64 id) : Calls Tryd.prog 8 #[kptr pb, .int .i64 id] w fun e w' => e = .returned (errW (dropF L id).1) ∧ Pair D w0 X w' pb rb (dropF L id).2 Lr ∧ KX X w w' := by
  obtain ⟨S, v, k1, k2, k3, k4, k5, k6, k7⟩ := h
  refine (hA pb L S id w k1 hI i1).mono ?_
  rintro e w' ⟨S', rfl, d, t, n⟩
  exact ⟨rfl, Pair.dev k2 k3 k4 k5 k6 k7 d t n⟩
theorem pair_want (hA : PWantSaid D) (hI : PkI L) (id : Int) (yes : Bool) (i1 : I64 id) : Calls Tryd.prog 10 #[kptr pb, .int .i64 id, .bool yes] w fun e w' => e = .returned (errW (wantF L id yes).1) ∧ Pair D w0 X w' pb rb (wantF L id yes).2 Lr ∧ KX X w w' := by
  obtain ⟨S, v, k1, k2, k3, k4, k5, k6, k7⟩ := h
  refine (hA pb L S id yes w k1 hI i1).mono ?_
  rintro e w' ⟨S', rfl, d, t, n⟩
  exact ⟨rfl, Pair.dev k2 k3 k4 k5 k6 k7 d t n⟩
theorem pair_sent (hA : PSentSaid D) (hI : PkI L) (id n : Int) (i1 : I64 id) (i2 : I64 n) : Calls Tryd.prog 12 #[kptr pb, .int .i64 id, .int .i64 n] w fun e w' => e = .returned (errW (sentF L id n).1) ∧ Pair D w0 X w' pb rb (sentF L id n).2 Lr ∧ KX X w w' := by
  obtain ⟨S, v, k1, k2, k3, k4, k5, k6, k7⟩ := h
  refine (hA pb L S id n w k1 hI i1 i2).mono ?_
  rintro e w' ⟨S', rfl, d, t, n⟩
  exact ⟨rfl, Pair.dev k2 k3 k4 k5 k6 k7 d t n⟩
include K
theorem pair_next (hA : PNextSaid D) (hI : PkI L) : Calls Tryd.prog 14 #[kptr pb] w fun e w' => e = .returned (.tuple #[.int .i64 (nextF L).1, .bool (nextF L).2]) ∧ Pair D w0 X w' pb rb L Lr ∧ KX X w w' := by
  have h' := h
  obtain ⟨S, v, k1, k2, k3, k4, k5, k6, k7⟩ := h
  refine (hA pb L S w k1 hI).mono ?_
  rintro e w' ⟨rfl, hb⟩
  exact ⟨rfl, h'.below K hb⟩
theorem pair_radd (hI : PkI Lr) (id wt : Int) : Calls Tryd.prog 7 #[kptr rb, .int .i64 id, .int .i64 wt] w fun e w' => e = .returned (.int .i64 (addF Lr id wt).1) ∧ Pair D w0 X w' pb rb L (addF Lr id wt).2 ∧ KX X w w' := by
  obtain ⟨S, v, k1, k2, k3, k4, k5, k6, k7⟩ := h
  refine (rpadd_any k2 hI id wt).mono ?_
  rintro e w' ⟨rfl, o⟩
  exact ⟨rfl, Pair.ref K k1 k3 k4 k5 k6 k7 o⟩
theorem pair_rdrop (hI : PkI Lr) (id : Int) : Calls Tryd.prog 9 #[kptr rb, .int .i64 id] w fun e w' => e = .returned (.int .i64 (dropF Lr id).1) ∧ Pair D w0 X w' pb rb L (dropF Lr id).2 ∧ KX X w w' := by
  obtain ⟨S, v, k1, k2, k3, k4, k5, k6, k7⟩ := h
  refine (rpdrop_any k2 hI id).mono ?_
  rintro e w' ⟨rfl, o⟩
  exact ⟨rfl, Pair.ref K k1 k3 k4 k5 k6 k7 o⟩
theorem pair_rwant (hI : PkI Lr) (id : Int) (yes : Bool) : Calls Tryd.prog 11 #[kptr rb, .int .i64 id, .bool yes] w fun e w' => e = .returned (.int .i64 (wantF Lr id yes).1) ∧ Pair D w0 X w' pb rb L (wantF Lr id yes).2 ∧ KX X w w' := by
  obtain ⟨S, v, k1, k2, k3, k4, k5, k6, k7⟩ := h
  refine (rpwant_any k2 hI id yes).mono ?_
  rintro e w' ⟨rfl, o⟩
  exact ⟨rfl, Pair.ref K k1 k3 k4 k5 k6 k7 o⟩
theorem pair_rsent (hI : PkI Lr) (id n : Int) : Calls Tryd.prog 13 #[kptr rb, .int .i64 id, .int .i64 n] w fun e w' => e = .returned (.int .i64 (sentF Lr id n).1) ∧ Pair D w0 X w' pb rb L (sentF Lr id n).2 ∧ KX X w w' := by
  obtain ⟨S, v, k1, k2, k3, k4, k5, k6, k7⟩ := h
  refine (rpsent_any k2 hI id n).mono ?_
  rintro e w' ⟨rfl, o⟩
  exact ⟨rfl, Pair.ref K k1 k3 k4 k5 k6 k7 o⟩
theorem pair_least (hI : PkI Lr) : Calls Tryd.prog 15 #[kptr rb] w fun e w' => (∃ i, e = .returned (.int .i64 i) ∧ ((i = -1 ∧ leastF Lr = none) ∨ ∃ j : Nat, i = j ∧ j < Lr.length ∧ leastF Lr = some (pnth Lr j))) ∧ Pair D w0 X w' pb rb L Lr ∧ KX X w w' := by
  have h' := h
  obtain ⟨S, v, k1, k2, k3, k4, k5, k6, k7⟩ := h
  refine (rpleast_any k2 (by have := hI.len; omega)).mono ?_
  rintro e w' ⟨⟨i, rfl, hi⟩, hb⟩
  exact ⟨⟨i, rfl, hi.all⟩, h'.below K hb⟩
theorem pair_err (hg : Laid w0) (k : Int) : Calls Tryd.prog 5 #[errW k, .int .i64 k] w fun e w' => e = .returned (.bool true) ∧ Pair D w0 X w' pb rb L Lr ∧ KX X w w' := by
  refine (errW_ok w k (hg.below h.old)).mono ?_
  rintro e w' ⟨rfl, hb⟩
  exact ⟨rfl, h.below K hb⟩
end
end Go.Proofs.YtbhjgpbdfcppkaeDoor
