/-
  BODIES IN PIECES: the document's match, at a line end. No claim by itself.
-/
import Derived.BigQuiet
import Derived.Deep.QuietTactic
import Derived.Test.YtdlaaollamgplagGreatDoorG2
namespace Go.Proofs.YtdlaaollamgplagGreatDoor
open Go.RowKit
set_option maxRecDepth 100000
theorem dN_below {B : Nat} {w w' : World} (h : Below B w w') : ∀ n, Below B w (w'.drewN n)
  | 0 => h
  | n + 1 => by
    have := dN_below h n
    exact ⟨this.os, this.tape, this.output, this.size, this.block⟩
theorem drop_at {Z : List Int} {t : Nat} (h : t < Z.length) : Z.drop t = Z.getD t 0 :: Z.drop (t + 1) := by
  rw [List.drop_eq_getElem_cons h]
  simp [List.getD, List.getElem?_eq_getElem h]
/-- How far a line end was found. -/
def MtAt (Z : List Int) (p k : Nat) : Prop := p + k ≤ Z.length ∧ (1 ≤ k → Z.getD p 0 = 13) ∧ (2 ≤ k → Z.getD (p + 1) 0 = 10)
theorem mt_short {Z : List Int} {p k : Nat} (h : MtAt Z p k) (hk : k < 2) (hl : Z.length ≤ p + k) : (mt (Z.drop p)).1 = 8 := by
  obtain ⟨h1, h2, _⟩ := h
  match k with
  | 0 => rw [List.drop_eq_nil_of_le (by omega)]; rfl
  | 1 =>
    have h2 := h2 (by omega)
    rw [drop_at (by omega), h2, List.drop_eq_nil_of_le (by omega)]
    rfl
  | k + 2 => omega
theorem mt_wrong {Z : List Int} {p k : Nat} (h : MtAt Z p k) (hk : k < 2) (hl : p + k < Z.length) (hx : Z.getD (p + k) 0 ≠ (if k = 0 then 13 else 10)) : (mt (Z.drop p)).1 = 2 := by
  obtain ⟨h1, h2, _⟩ := h
  match k with
  | 0 =>
    rw [drop_at (by omega)]
    unfold mt
    simp at hx
    simp [hx]
  | 1 =>
    have h2 := h2 (by omega)
    rw [drop_at (by omega), drop_at (by omega), h2]
    unfold mt
    simp at hx
    simp [hx]
  | k + 2 => omega
theorem mt_right {Z : List Int} {p : Nat} (h : MtAt Z p 2) : mt (Z.drop p) = (0, Z.drop (p + 2)) := by
  obtain ⟨h1, h2, h3⟩ := h
  rw [drop_at (by omega), drop_at (by omega), h2 (by omega), h3 (by omega)]
  simp [mt]
def mtV (Z : List Int) (p : Nat) : Value := .tuple #[.int .i64 (if (mt (Z.drop p)).1 = 0 then ((p + 2 : Nat) : Int) else 0), .int .i64 (mt (Z.drop p)).1]
end Go.Proofs.YtdlaaollamgplagGreatDoor
