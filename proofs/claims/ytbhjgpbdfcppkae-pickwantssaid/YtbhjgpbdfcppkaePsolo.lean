/-
  ONE PICKER, in blocks of its own, apart from some blocks that stay. No claim by itself.
-/
import Derived.Test.YtbhjgpbdfcppkaePspec
import Derived.Test.YtbhjgpbdfcppkaePkw
namespace Go.Proofs.Ytbhjgpbdfcppkae
open Go.RowKit
set_option maxRecDepth 100000
def KX (X : Nat → Prop) (w w' : World) : Prop := ∀ k, X k → w'.heap[k]? = w.heap[k]?
theorem KX.cell {X : Nat → Prop} {w w' : World} (h : KX X w w') {g o : Nat} {v : Value} (hx : X g) (hc : w.cell? ⟨g, o, none⟩ = some v) : w'.cell? ⟨g, o, none⟩ = some v := (World.cell?_of_block (a := ⟨g, o, none⟩) (h g hx)).trans hc
theorem KX.frozen {X : Nat → Prop} {w w' : World} (h : KX X w w') {g o : Nat} {b : Bool} (hx : X g) (hc : w.frozen? ⟨g, o, none⟩ = b) : w'.frozen? ⟨g, o, none⟩ = b := (World.frozen?_of_block (a := ⟨g, o, none⟩) (h g hx)).trans hc
def Solo (D : PkD) (w0 : World) (X : Nat → Prop) (w : World) (pb : Nat) (L : PL) : Prop :=
  ∃ S, D w pb L S ∧ (∀ k, S k → w0.heap.size ≤ k ∧ ¬ X k) ∧ (∀ k, X k → w0.heap.size ≤ k ∧ k < w.heap.size) ∧ Below w0.heap.size w0 w
theorem Solo.old {D : PkD} {w0 : World} {X : Nat → Prop} {w : World} {pb : Nat} {L : PL} (h : Solo D w0 X w pb L) : Below w0.heap.size w0 w := by
  obtain ⟨S, _, _, _, hb⟩ := h
  exact hb
theorem Solo.below {D : PkD} (K : PkKeeps D) {w0 : World} {X : Nat → Prop} {w w' : World} {pb : Nat} {L : PL} (h : Solo D w0 X w pb L) (hb : Below w.heap.size w w') : Solo D w0 X w' pb L ∧ KX X w w' := by
  obtain ⟨S, h1, h2, h3, h4⟩ := h
  exact ⟨⟨S, K.below h1 hb, h2, fun k hk => ⟨(h3 k hk).1, Nat.lt_of_lt_of_le (h3 k hk).2 hb.size⟩, h4.trans (hb.mono h4.size)⟩, fun k hk => hb.block k (h3 k hk).2⟩
/-- A new block is one that stays. -/
theorem Solo.guard {D : PkD} (K : PkKeeps D) {w0 : World} {X : Nat → Prop} {w w' : World} {pb b : Nat} {L : PL} (h : Solo D w0 X w pb L) (hb : Below w.heap.size w w') (h1 : w.heap.size ≤ b) (h2 : b < w'.heap.size) : Solo D w0 (fun k => X k ∨ k = b) w' pb L := by
  obtain ⟨S, k1, k2, k3, k4⟩ := h
  refine ⟨S, K.below k1 hb, fun k hk => ⟨(k2 k hk).1, fun e => ?_⟩, fun k hk => ?_, k4.trans (hb.mono k4.size)⟩
  · have := K.lt k1 k hk
    rcases e with e | e
    · exact (k2 k hk).2 e
    · omega
  · have := k4.size
    have := hb.size
    rcases hk with e | e
    · have := k3 k e; omega
    · omega
theorem Solo.less {D : PkD} {w0 : World} {X Y : Nat → Prop} {w : World} {pb : Nat} {L : PL} (h : Solo D w0 X w pb L) (hy : ∀ k, Y k → X k) : Solo D w0 Y w pb L := by
  obtain ⟨S, k1, k2, k3, k4⟩ := h
  exact ⟨S, k1, fun k hk => ⟨(k2 k hk).1, fun e => (k2 k hk).2 (hy k e)⟩, fun k hk => k3 k (hy k hk), k4⟩
theorem Solo.set {D : PkD} (K : PkKeeps D) {w0 : World} {X : Nat → Prop} {w : World} {pb : Nat} {L : PL} (h : Solo D w0 X w pb L) {a : Addr} (hx : X a.block) (v : Value) : Solo D w0 X (w.setCell a v) pb L := by
  obtain ⟨S, k1, k2, k3, k4⟩ := h
  have t : Tn X w (w.setCell a v) := tn_set hx
  exact ⟨S, K.frame k1 (fun k hk => t.block k (K.lt k1 k hk) (k2 k hk).2), k2, fun k hk => ⟨(k3 k hk).1, Nat.lt_of_lt_of_le (k3 k hk).2 t.size⟩, t.below k4 k4.size (fun i hi => (k3 i hi).1)⟩
theorem Solo.dev {D : PkD} {w0 : World} {X S S' : Nat → Prop} {w w' : World} {pb : Nat} {L' : PL} (h2 : ∀ k, S k → w0.heap.size ≤ k ∧ ¬ X k) (h3 : ∀ k, X k → w0.heap.size ≤ k ∧ k < w.heap.size) (h4 : Below w0.heap.size w0 w)
    (d : D w' pb L' S') (t : Tn S w w') (n : ∀ k, S' k → S k ∨ w.heap.size ≤ k) : Solo D w0 X w' pb L' ∧ KX X w w' := by
  refine ⟨⟨S', d, fun k hk => ?_, fun k hk => ⟨(h3 k hk).1, Nat.lt_of_lt_of_le (h3 k hk).2 t.size⟩, t.below h4 h4.size (fun i hi => (h2 i hi).1)⟩, fun k hk => t.block k (h3 k hk).2 (fun e => (h2 k e).2 hk)⟩
  rcases n k hk with e | e
  · exact h2 k e
  · exact ⟨Nat.le_trans h4.size e, fun hx => by have := (h3 k hx).2; omega⟩
section
variable {D : PkD} (K : PkKeeps D) {w0 : World} {X : Nat → Prop} {w : World} {pb : Nat} {L : PL} (h : Solo D w0 X w pb L)
include h
theorem solo_add (hA : PAddSaid D) (hI : PkI L) (id wt : Int) (i1 : I64 id) (i2 : I64 wt) {ec : Int} {L' : PL} (hF : addF L id wt = (ec, L')) : Calls Try.prog 13 #[kptr pb, .int .i64 id, .int .i64 wt] w fun e w' => e = .returned (errW ec) ∧ Solo D w0 X w' pb L' ∧ KX X w w' := by
  obtain ⟨S, k1, k2, k3, k4⟩ := h
  refine (hA pb L S id wt w k1 hI i1 i2).mono ?_
  rintro e w' ⟨S', rfl, d, t, n⟩
  rw [hF] at d ⊢
  exact ⟨rfl, Solo.dev k2 k3 k4 d t n⟩
theorem solo_want (hA : PWantSaid D) (hI : PkI L) (id : Int) (yes : Bool) (i1 : I64 id) {ec : Int} {L' : PL} (hF : wantF L id yes = (ec, L')) : Calls Try.prog 14 #[kptr pb, .int .i64 id, .bool yes] w fun e w' => e = .returned (errW ec) ∧ Solo D w0 X w' pb L' ∧ KX X w w' := by
  obtain ⟨S, k1, k2, k3, k4⟩ := h
  refine (hA pb L S id yes w k1 hI i1).mono ?_
  rintro e w' ⟨S', rfl, d, t, n⟩
  rw [hF] at d ⊢
  exact ⟨rfl, Solo.dev k2 k3 k4 d t n⟩
theorem solo_sent (hA : PSentSaid D) (hI : PkI L) (id n : Int) (i1 : I64 id) (i2 : I64 n) {ec : Int} {L' : PL} (hF : sentF L id n = (ec, L')) : Calls Try.prog 16 #[kptr pb, .int .i64 id, .int .i64 n] w fun e w' => e = .returned (errW ec) ∧ Solo D w0 X w' pb L' ∧ KX X w w' := by
  obtain ⟨S, k1, k2, k3, k4⟩ := h
  refine (hA pb L S id n w k1 hI i1 i2).mono ?_
  rintro e w' ⟨S', rfl, d, t, n⟩
  rw [hF] at d ⊢
  exact ⟨rfl, Solo.dev k2 k3 k4 d t n⟩
include K
theorem solo_next (hA : PNextSaid D) (hI : PkI L) {id : Int} {ok : Bool} (hF : nextF L = (id, ok)) : Calls Try.prog 15 #[kptr pb] w fun e w' => e = .returned (.tuple #[.int .i64 id, .bool ok]) ∧ Solo D w0 X w' pb L ∧ KX X w w' := by
  have h' := h
  obtain ⟨S, k1, k2, k3, k4⟩ := h
  refine (hA pb L S w k1 hI).mono ?_
  rintro e w' ⟨rfl, hb⟩
  rw [hF]
  exact ⟨rfl, h'.below K hb⟩
end
end Go.Proofs.Ytbhjgpbdfcppkae
