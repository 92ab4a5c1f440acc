/-
  WHAT IS ASKED of package table: contracts over whatever a table's memory looks like. No claim by itself.
-/
import Derived.Test.YtkjfhgoddhigmacDoorM01
namespace Go.Proofs.YtkjfhgoddhigmacDoor
open Go.RowKit
/-- Behind a call that turns the blocks of S alone: all other old blocks are as they were. -/
structure Off (S : Nat → Prop) (w w' : World) : Prop where
  os : w'.os = w.os
  tape : w'.tape = w.tape
  output : w'.output = w.output
  size : w.heap.size ≤ w'.heap.size
  block : ∀ k, k < w.heap.size → ¬ S k → w'.heap[k]? = w.heap[k]?
theorem Off.of_below {S : Nat → Prop} {w w' : World} (h : Below w.heap.size w w') : Off S w w' := ⟨h.os, h.tape, h.output, h.size, fun k hk _ => h.block k hk⟩
theorem Below.off {S : Nat → Prop} {B : Nat} {a w w' : World} (h : Below B a w) (k : Off S w w') (hB : B ≤ w.heap.size) (hS : ∀ i, S i → B ≤ i) : Below B a w' :=
  ⟨k.os.trans h.os, k.tape.trans h.tape, k.output.trans h.output, Nat.le_trans h.size k.size, fun i hi => (k.block i (by omega) (fun hs => by have := hS i hs; omega)).trans (h.block i hi)⟩
/-- What a table is: in a world, at a block, its greatest size, what was added, the blocks that are its own. -/
abbrev TabD := World → Nat → Int → List (ByteArray × ByteArray) → (Nat → Prop) → Prop
def tval (tb : Nat) : Value := .pointer (some ⟨tb, 0, none⟩)
/-- What the package-level variable table.always holds: the fields that are always there. -/
def Alw (w : World) : Prop := ∀ t, t < 12 → w.cell? ⟨0, t * 2, none⟩ = some (.string (alwaysL.getD t fnone).1) ∧ w.cell? ⟨0, t * 2 + 1, none⟩ = some (.string (alwaysL.getD t fnone).2)
theorem Alw.pos {w : World} (h : Alw w) : 0 < w.heap.size := by
  have h1 := (h 0 (by decide)).1
  rcases Nat.lt_or_ge 0 w.heap.size with h2 | h2
  · exact h2
  · simp [World.cell?, Array.getElem?_eq_none h2] at h1
theorem Alw.kept {w w' : World} (h : Alw w) (e : w'.heap[0]? = w.heap[0]?) : Alw w' := fun t ht =>
  ⟨(World.cell?_of_block (w := w) (a := ⟨0, t * 2, none⟩) e).trans (h t ht).1, (World.cell?_of_block (w := w) (a := ⟨0, t * 2 + 1, none⟩) e).trans (h t ht).2⟩
theorem Alw.below {w w' : World} (h : Alw w) (hb : Below w.heap.size w w') : Alw w' := h.kept (hb.block _ h.pos)
theorem Alw.below2 {B : Nat} {w w' : World} (h : Alw w) (hb : Below B w w') (hB : 0 < B) : Alw w' := h.kept (hb.block _ hB)
theorem Alw.ne {w : World} (h : Alw w) {b : Nat} {i : Int} {k : IntKind} (hc : w.cell? ⟨b, 1, none⟩ = some (.int k i)) : 0 ≠ b := by
  rintro rfl
  have h1 := (h 0 (by decide)).2
  rw [hc] at h1
  cases h1
structure TabKeeps (D : TabD) : Prop where
  lt : ∀ {w tb max A S}, D w tb max A S → ∀ k, S k → k < w.heap.size
  alw : ∀ {w tb max A S}, D w tb max A S → Alw w
  frame : ∀ {w w' tb max A S}, D w tb max A S → w.heap.size ≤ w'.heap.size → (∀ k, S k → w'.heap[k]? = w.heap[k]?) → w'.heap[0]? = w.heap[0]? → D w' tb max A S
theorem TabKeeps.below {D : TabD} (T : TabKeeps D) {w w' : World} {tb : Nat} {max : Int} {A : List (ByteArray × ByteArray)} {S : Nat → Prop} (h : D w tb max A S) (hb : Below w.heap.size w w') : D w' tb max A S :=
  T.frame h hb.size (fun k hk => hb.block k (T.lt h k hk)) (hb.block _ (T.alw h).pos)
def TNewSaid (D : TabD) : Prop := ∀ (max : Int) (w : World), Alw w →
    Calls Tryd.prog 11 #[.int .i64 max] w fun e w' => Below w.heap.size w w' ∧
      ((0 ≤ max ∧ max ≤ 4096 ∧ ∃ tb S, e = .returned (.tuple #[tval tb, .nilIface]) ∧ D w' tb max [] S ∧ ∀ k, S k → w.heap.size ≤ k) ∨
       (¬ (0 ≤ max ∧ max ≤ 4096) ∧ ∃ v, e = .returned (.tuple #[v, .iface 49 (.int .i64 1)])))
def TAddSaid (D : TabD) : Prop := ∀ (tb : Nat) (max : Int) (A : List (ByteArray × ByteArray)) (S : Nat → Prop) (n v : ByteArray) (w : World), D w tb max A S → Fit max A → n.size + v.size ≤ 1152921504606846976 →
    Calls Tryd.prog 27 #[tval tb, .agg #[.string n, .string v]] w fun e w' => e = .returned (.bool (addL A (n, v) max).1) ∧ Off S w w' ∧ ∃ S', D w' tb max (addL A (n, v) max).2 S' ∧ ∀ k, S' k → S k ∨ w.heap.size ≤ k
/-- What stands at a number: a field and nil, or none and its error. -/
def GotAt (L : List (ByteArray × ByteArray)) (i : Int) (v : Value) : Prop :=
  (1 ≤ i ∧ i ≤ L.length ∧ v = .tuple #[fval (L.getD (i - 1).toNat fnone), .nilIface]) ∨ (¬ (1 ≤ i ∧ i ≤ L.length) ∧ v = .tuple #[fval fnone, .iface 49 (.int .i64 5)])
def TGetSaid (D : TabD) : Prop := ∀ (tb : Nat) (max : Int) (A : List (ByteArray × ByteArray)) (S : Nat → Prop) (i : Int) (w : World), D w tb max A S → Fit max A →
    Calls Tryd.prog 48 #[tval tb, .int .i64 i] w fun e w' => ∃ v, e = .returned v ∧ GotAt (alwaysL ++ A) i v ∧ Below w.heap.size w w'
def TFindSaid (D : TabD) : Prop := ∀ (tb : Nat) (max : Int) (A : List (ByteArray × ByteArray)) (S : Nat → Prop) (n v : ByteArray) (w : World), D w tb max A S → Fit max A →
    Calls Tryd.prog 25 #[tval tb, .agg #[.string n, .string v]] w fun e w' => e = .returned (.tuple #[.int .i64 (fnd (isF n v) (alwaysL ++ A) 0), .int .i64 (fnd (isN n) (alwaysL ++ A) 0)]) ∧ Below w.heap.size w w'
def TLenSaid (D : TabD) : Prop := ∀ (tb : Nat) (max : Int) (A : List (ByteArray × ByteArray)) (S : Nat → Prop) (w : World), D w tb max A S → Fit max A →
    Calls Tryd.prog 32 #[tval tb] w fun e w' => e = .returned (.int .i64 ((12 + A.length : Nat) : Int)) ∧ Below w.heap.size w w'
/-- Len only reads; so does Size where nothing was added. -/
def TLenQuiet (D : TabD) : Prop := ∀ (tb : Nat) (max : Int) (A : List (ByteArray × ByteArray)) (S : Nat → Prop) (w : World), D w tb max A S → Fit max A →
    Calls Tryd.prog 32 #[tval tb] w fun e w' => e = .returned (.int .i64 ((12 + A.length : Nat) : Int)) ∧ ∃ m, w' = w.drewN m
/-- Fields that are handed in: none, or a row. -/
def FArg (w : World) (a : Option Addr) (len cap : Nat) (L : List (ByteArray × ByteArray)) : Prop :=
  (len = 0 ∧ L = []) ∨ ∃ g off, a = some ⟨g, off, none⟩ ∧ FRow w g off len cap L
theorem FArg.below {w w' : World} {a : Option Addr} {len cap : Nat} {L : List (ByteArray × ByteArray)} (h : FArg w a len cap L) (hb : Below w.heap.size w w') : FArg w' a len cap L := by
  rcases h with h | ⟨g, off, ha, hr⟩
  · exact Or.inl h
  · exact Or.inr ⟨g, off, ha, hr.below hb⟩
end Go.Proofs.YtkjfhgoddhigmacDoor
/-
  WHAT IS ASKED of package table besides, and rows of rows of numbers that are handed in. No claim by itself.
-/
namespace Go.Proofs.YtkjfhgoddhigmacDoor
open Go.RowKit
def TResizeSaid (D : TabD) : Prop := ∀ (tb : Nat) (max : Int) (A : List (ByteArray × ByteArray)) (S : Nat → Prop) (m : Int) (w : World), D w tb max A S → Fit max A →
    Calls Tryd.prog 18 #[tval tb, .int .i64 m] w fun e w' => Off S w w' ∧ ∃ S', (∀ k, S' k → S k ∨ w.heap.size ≤ k) ∧
      ((0 ≤ m ∧ m ≤ 4096 ∧ e = .returned .nilIface ∧ D w' tb m (A.take (keepN A m A.length)) S') ∨ (¬ (0 ≤ m ∧ m ≤ 4096) ∧ e = .returned (.iface 49 (.int .i64 1)) ∧ D w' tb max A S'))
def TMaxSaid (D : TabD) : Prop := ∀ (tb : Nat) (max : Int) (A : List (ByteArray × ByteArray)) (S : Nat → Prop) (w : World), D w tb max A S → Fit max A →
    Calls Tryd.prog 24 #[tval tb] w fun e w' => e = .returned (.int .i64 max) ∧ Below w.heap.size w w'
theorem Fit.shrink {m : Int} {A : List (ByteArray × ByteArray)} (h0 : 0 ≤ m) (h1 : m ≤ 4096) : Fit m (A.take (keepN A m A.length)) :=
  ⟨h0, h1, keepN_fits A m h0 A.length⟩
/-- Rows of numbers. -/
structure IRows (w : World) (g off len cap : Nat) (A : Nat → Option Addr) (L C : Nat → Nat) (Z : Nat → List Int) : Prop where
  hcap : len ≤ cap
  hmax : cap ≤ maxLen
  hrow : ∀ r, r < len → w.cell? ⟨g, off + r, none⟩ = some (.slice (A r) (L r) (C r)) ∧ L r ≤ C r ∧ C r ≤ maxLen
  hcell : ∀ r, r < len → ∀ c, c < L r → ∃ g' off', A r = some ⟨g', off', none⟩ ∧ w.cell? ⟨g', off' + c, none⟩ = some (.int .i64 ((Z r).getD c 0))
def IArg (w : World) (a : Option Addr) (len cap : Nat) (A : Nat → Option Addr) (L C : Nat → Nat) (Z : Nat → List Int) : Prop :=
  len = 0 ∨ ∃ g off, a = some ⟨g, off, none⟩ ∧ IRows w g off len cap A L C Z
theorem lt_of_cell {w : World} {g o : Nat} {v : Value} (h : w.cell? ⟨g, o, none⟩ = some v) : g < w.heap.size := by
  rcases Nat.lt_or_ge g w.heap.size with h1 | h1
  · exact h1
  · simp [World.cell?, Array.getElem?_eq_none h1] at h
theorem IArg.below {w w' : World} {a : Option Addr} {len cap : Nat} {A : Nat → Option Addr} {L C : Nat → Nat} {Z : Nat → List Int} (h : IArg w a len cap A L C Z) (hb : Below w.heap.size w w') : IArg w' a len cap A L C Z := by
  rcases h with h | ⟨g, off, ha, h1, h2, h3, h4⟩
  · exact Or.inl h
  · refine Or.inr ⟨g, off, ha, h1, h2, fun r hr => ?_, fun r hr c hc => ?_⟩
    · have k := h3 r hr
      exact ⟨(hb.cell (p := ⟨g, off + r, none⟩) (lt_of_cell k.1)).trans k.1, k.2⟩
    · obtain ⟨g', off', e, k⟩ := h4 r hr c hc
      exact ⟨g', off', e, (hb.cell (p := ⟨g', off' + c, none⟩) (lt_of_cell k)).trans k⟩
end Go.Proofs.YtkjfhgoddhigmacDoor
