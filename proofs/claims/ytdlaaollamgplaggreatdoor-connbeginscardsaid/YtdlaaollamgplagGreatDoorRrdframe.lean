/-
  CONTRACT of the Go function tollref1.ReadFrame. No claim by itself.
-/
import Derived.Test.YtdlaaollamgplagGreatDoorRframe2
import Derived.Test.YtdlaaollamgplagGreatDoorRead
import Derived.Deep.QuietTactic
import Derived.BigQuiet
namespace Go.Proofs.YtdlaaollamgplagGreatDoor
open Go.RowKit
set_option maxRecDepth 100000
/-- A part of a row, wherever the cut lays it. -/
theorem fcut_row {w : World} {g off len cap : Nat} {Z : List Int} (h : Row w g off len cap Z) (u n : Nat) (hun : u + n ≤ len) :
    ∃ o, (if cap = u then some (⟨g, off, none⟩ : Addr) else some ⟨g, off + u, none⟩) = some ⟨g, o, none⟩ ∧ Row w g o n (cap - u) ((Z.drop u).take n) := by
  have hl := h.hlen
  have hc := h.hcap
  have hm := h.hmax
  have hlen : ((Z.drop u).take n).length = n := by rw [List.length_take, List.length_drop]; omega
  have hby : ∀ t, 0 ≤ ((Z.drop u).take n).getD t 0 ∧ ((Z.drop u).take n).getD t 0 < 256 := fun t => by
    by_cases ht : t < n
    · have e : ((Z.drop u).take n).getD t 0 = Z.getD (u + t) 0 := by simp [List.getD, ht, List.getElem?_drop]
      rw [e]; exact h.hbyte _
    · have e : ((Z.drop u).take n).getD t 0 = 0 := by simp [List.getD, List.getElem?_take, ht]
      rw [e]; decide
  by_cases e : cap = u
  · refine ⟨off, by rw [if_pos e], hlen, by omega, by omega, fun t ht => by omega, hby⟩
  · refine ⟨off + u, by rw [if_neg e], hlen, by omega, by omega, fun t ht => ?_, hby⟩
    have e2 : ((Z.drop u).take n).getD t 0 = Z.getD (u + t) 0 := by simp [List.getD, ht, List.getElem?_drop]
    rw [e2, Nat.add_assoc]
    exact h.hcell _ (by omega)
/-- What reading a frame gives. -/
def RdFr (w' : World) (t : Frm × Int × Int) (e : Ending) : Prop := ∃ a c, e = .returned (.tuple #[.agg #[.int .i64 t.1.1, .int .i64 t.1.2.1, .int .i64 t.1.2.2.1, .slice a t.1.2.2.2.length c], .int .i64 t.2.1, .int .i64 t.2.2]) ∧ Arg w' a t.1.2.2.2.length c t.1.2.2.2
theorem rdfr_bad {w' : World} {t : Frm × Int × Int} {k : Int} (h : t = (fr0, 0, k)) : RdFr w' t (.returned (.tuple #[.agg #[.int .i64 0, .int .i64 0, .int .i64 0, .slice none 0 0], .int .i64 0, .int .i64 k])) := by
  subst h
  exact ⟨none, 0, rfl, Or.inl ⟨rfl, rfl⟩⟩
theorem rdfr_good {w' : World} {t : Frm × Int × Int} {k f st nn : Int} {L : List Int} {a : Option Addr} {len c : Nat} (h : t = ((k, f, st, L), nn, 0)) (hL : L.length = len) (hA : Arg w' a len c L) :
    RdFr w' t (.returned (.tuple #[.agg #[.int .i64 k, .int .i64 f, .int .i64 st, .slice a len c], .int .i64 nn, .int .i64 0])) := by
  subst h; subst hL
  exact ⟨a, c, rfl, hA⟩
end Go.Proofs.YtdlaaollamgplagGreatDoor
