/-
  FIELDS, as texts' pairs: their sizes, their cells. No claim by itself.
-/
import Derived.Test.YtibjbdcmhjbndaaDoorProg
import Derived.WalkKit
import Derived.WalkLawsBesides
import Derived.WalkSpells
namespace Go.Proofs.YtibjbdcmhjbndaaDoor
open Go.RowKit
/-- A field's size. -/
def fsize (f : ByteArray × ByteArray) : Nat := f.1.size + f.2.size + 32
/-- Fields' sizes together. -/
def weight (L : List (ByteArray × ByteArray)) : Nat := (L.map fsize).sum
/-- Fields, cell by cell. -/
def fcells (L : List (ByteArray × ByteArray)) : List Value := L.flatMap fun f => [.string f.1, .string f.2]
def fval (f : ByteArray × ByteArray) : Value := .agg #[.string f.1, .string f.2]
def fnone : ByteArray × ByteArray := (.empty, .empty)
theorem fcells_len (L : List (ByteArray × ByteArray)) : (fcells L).length = L.length * 2 := by
  induction L with
  | nil => rfl
  | cons f L ih =>
    show ([Value.string f.1, Value.string f.2] ++ fcells L).length = _
    rw [List.length_append, ih]; simp; omega
theorem fcells_append (L M : List (ByteArray × ByteArray)) : fcells (L ++ M) = fcells L ++ fcells M := by simp [fcells]
theorem fcells_at (L : List (ByteArray × ByteArray)) (t : Nat) (h : t < L.length) : (fcells L)[2 * t]? = some (.string (L.getD t fnone).1) ∧ (fcells L)[2 * t + 1]? = some (.string (L.getD t fnone).2) := by
  induction L generalizing t with
  | nil => simp at h
  | cons f L ih =>
    match t with
    | 0 => exact ⟨rfl, rfl⟩
    | t + 1 =>
      have := ih t (by simpa using h)
      exact this
theorem weight_append (L M : List (ByteArray × ByteArray)) : weight (L ++ M) = weight L + weight M := by
  unfold weight; rw [List.map_append, List.sum_append]
theorem weight_one (f : ByteArray × ByteArray) : weight [f] = fsize f := by simp [weight]
theorem weight_take (L : List (ByteArray × ByteArray)) (k : Nat) (h : k < L.length) : weight (L.take (k + 1)) = weight (L.take k) + fsize (L.getD k fnone) := by
  rw [List.take_succ_eq_append_getElem h, weight_append, weight_one]
  simp [List.getD, List.getElem?_eq_getElem h]
theorem weight_take_le (L : List (ByteArray × ByteArray)) (k : Nat) : weight (L.take k) ≤ weight L := by
  have h := congrArg weight (List.take_append_drop k L)
  rw [weight_append] at h
  omega
/-- A row of fields. -/
structure FRow (w : World) (g off len cap : Nat) (L : List (ByteArray × ByteArray)) : Prop where
  hlen : L.length = len
  hcap : len ≤ cap
  hmax : cap ≤ maxLen
  hname : ∀ t, t < len → w.cell? ⟨g, off + t * 2, none⟩ = some (.string (L.getD t fnone).1)
  hvalue : ∀ t, t < len → w.cell? ⟨g, off + t * 2 + 1, none⟩ = some (.string (L.getD t fnone).2)
theorem FRow.below {w w' : World} {g off len cap : Nat} {L : List (ByteArray × ByteArray)} (h : FRow w g off len cap L) (hb : Below w.heap.size w w') : FRow w' g off len cap L := by
  have hlt : ∀ a v, w.cell? ⟨g, a, none⟩ = some v → g < w.heap.size := by
    intro a v hc
    rcases Nat.lt_or_ge g w.heap.size with h1 | h1
    · exact h1
    · simp [World.cell?, Array.getElem?_eq_none h1] at hc
  exact ⟨h.hlen, h.hcap, h.hmax, fun t ht => (hb.cell (p := ⟨g, off + t * 2, none⟩) (hlt _ _ (h.hname t ht))).trans (h.hname t ht), fun t ht => (hb.cell (p := ⟨g, off + t * 2 + 1, none⟩) (hlt _ _ (h.hvalue t ht))).trans (h.hvalue t ht)⟩
end Go.Proofs.YtibjbdcmhjbndaaDoor
