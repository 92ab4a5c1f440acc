/-
  WHOSE TURN IT IS: what is asked of package pick, over whatever a picker's memory looks like. No claim by itself.
-/
import Derived.Test.YtbhjgpbdfcppkaePkm
import Derived.Test.YtbhjgpbdfcppkaeWspec0
namespace Go.Proofs.Ytbhjgpbdfcppkae
open Go.RowKit
set_option maxRecDepth 100000
/-- What a picker is: in a world, at a block, its ids, the blocks that are its own. -/
abbrev PkD := World → Nat → PL → (Nat → Prop) → Prop
def kptr (pb : Nat) : Value := .pointer (some ⟨pb, 0, none⟩)
def I64 (a : Int) : Prop := -9223372036854775808 ≤ a ∧ a ≤ 9223372036854775807
def PNewSaid (D : PkD) : Prop := ∀ (w : World), Calls Try.prog 12 #[] w fun e w' => ∃ pb S, e = .returned (kptr pb) ∧ Below w.heap.size w w' ∧ D w' pb [] S ∧ ∀ k, S k → w.heap.size ≤ k
def PAddSaid (D : PkD) : Prop := ∀ (pb : Nat) (L : PL) (S : Nat → Prop) (id wt : Int) (w : World), D w pb L S → PkI L → I64 id → I64 wt → Calls Try.prog 13 #[kptr pb, .int .i64 id, .int .i64 wt] w fun e w' => ∃ S', e = .returned (errW (addF L id wt).1) ∧ D w' pb (addF L id wt).2 S' ∧ Tn S w w' ∧ ∀ k, S' k → S k ∨ w.heap.size ≤ k
def PWantSaid (D : PkD) : Prop := ∀ (pb : Nat) (L : PL) (S : Nat → Prop) (id : Int) (yes : Bool) (w : World), D w pb L S → PkI L → I64 id → Calls Try.prog 14 #[kptr pb, .int .i64 id, .bool yes] w fun e w' => ∃ S', e = .returned (errW (wantF L id yes).1) ∧ D w' pb (wantF L id yes).2 S' ∧ Tn S w w' ∧ ∀ k, S' k → S k ∨ w.heap.size ≤ k
def PSentSaid (D : PkD) : Prop := ∀ (pb : Nat) (L : PL) (S : Nat → Prop) (id n : Int) (w : World), D w pb L S → PkI L → I64 id → I64 n → Calls Try.prog 16 #[kptr pb, .int .i64 id, .int .i64 n] w fun e w' => ∃ S', e = .returned (errW (sentF L id n).1) ∧ D w' pb (sentF L id n).2 S' ∧ Tn S w w' ∧ ∀ k, S' k → S k ∨ w.heap.size ≤ k
def PNextSaid (D : PkD) : Prop := ∀ (pb : Nat) (L : PL) (S : Nat → Prop) (w : World), D w pb L S → PkI L → Calls Try.prog 15 #[kptr pb] w fun e w' => e = .returned (.tuple #[.int .i64 (nextF L).1, .bool (nextF L).2]) ∧ Below w.heap.size w w'
structure PkKeeps (D : PkD) : Prop where
  lt : ∀ {w pb L S}, D w pb L S → ∀ k, S k → k < w.heap.size
  frame : ∀ {w w' pb L S}, D w pb L S → (∀ k, S k → w'.heap[k]? = w.heap[k]?) → D w' pb L S
theorem PkKeeps.below {D : PkD} (K : PkKeeps D) {w w' : World} {pb : Nat} {L : PL} {S : Nat → Prop} (h : D w pb L S) (hb : Below w.heap.size w w') : D w' pb L S := K.frame h (fun k hk => hb.block k (K.lt h k hk))
end Go.Proofs.Ytbhjgpbdfcppkae
