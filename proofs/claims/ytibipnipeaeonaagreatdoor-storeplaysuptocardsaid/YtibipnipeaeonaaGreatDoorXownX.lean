/-
  FROM THE ONE TO THE OTHER: rows of fields that a call itself made; what is asked. No claim by itself.
-/
import Derived.Laws.AppendOwnNone
import Derived.Test.YtibipnipeaeonaaGreatDoorNopnX
import Derived.Test.YtibipnipeaeonaaGreatDoorXmathX
import Derived.Test.YtibipnipeaeonaaGreatDoorMB
namespace Go.Proofs.YtibipnipeaeonaaGreatDoor
open Go Go.RowKit
set_option maxRecDepth 100000
theorem n_infoF : (Tryz.prog.info? 84).map (fun i => (i.zero, i.size, i.bytes)) = some (some (.agg #[.string ⟨#[]⟩, .string ⟨#[]⟩]), 2, 32) := by kernel_rfl
abbrev FOwn (w : World) (base : Nat) (v : Value) (FL : List (ByteArray × ByteArray)) : Prop := w.ownsRow base 84 2 v FL.length (fcells FL)
theorem fown_tn {S : Nat → Prop} {base : Nat} {w w' : World} {v : Value} {FL : List (ByteArray × ByteArray)} (h : FOwn w base v FL) (hl : ∀ k, S k → k < base) (ht : Tn S w w') : FOwn w' base v FL := by
  obtain ⟨h1, ⟨rfl, h0⟩ | ⟨g, cap, cur, rfl, hb, hc, hr⟩⟩ := id h
  · exact ⟨h1, Or.inl ⟨rfl, h0⟩⟩
  · exact ⟨h1, Or.inr ⟨g, cap, cur, rfl, hb, (ht.block g (Array.getElem?_eq_some_iff.1 hc).1 (fun e => by have := hl g e; omega)).trans hc, hr⟩⟩
theorem fown_shape {w : World} {base : Nat} {v : Value} {FL : List (ByteArray × ByteArray)} (h : FOwn w base v FL) : ∃ sa sc, v = .slice sa FL.length sc := by
  obtain ⟨_, ⟨rfl, h0⟩ | ⟨g, cap, cur, rfl, _⟩⟩ := id h
  · exact ⟨none, 0, by rw [h0]⟩
  · exact ⟨_, cap, rfl⟩
theorem n_setg (w : World) (y i : Nat) (v : Value) : w.grownBy (w.setCell ⟨y, i, none⟩ v) (some y) := ⟨rfl, rfl, rfl, by simp [World.setCell], fun k _ hk => Below.heap_setCell _ _ _ _ (fun e => hk (by rw [e]))⟩
/-- A row of fields that the call itself made. -/
theorem nfrow_of {w : World} {base : Nat} {sa : Option Addr} {n sc : Nat} {L : List (ByteArray × ByteArray)} (h : FOwn w base (.slice sa n sc) L) : n = L.length ∧ FArg w sa n sc L := by
  obtain ⟨_, ⟨hv, h0⟩ | ⟨g, cap, cur, hv, _, _, hc, hm, _⟩⟩ := id h
  · cases hv
    have e := List.eq_nil_of_length_eq_zero h0
    subst e
    exact ⟨rfl, Or.inl ⟨rfl, rfl⟩⟩
  · cases hv
    refine ⟨rfl, Or.inr ⟨g, 0, rfl, rfl, hc, hm, fun t ht => ?_, fun t ht => ?_⟩⟩
    · have hc := h.cellAt (2 * t) (by omega)
      rw [show 0 + t * 2 = 2 * t from by omega, hc, (fcells_at L t (by omega)).1]
    · have hc := h.cellAt (2 * t + 1) (by omega)
      rw [show 0 + t * 2 + 1 = 2 * t + 1 from by omega, hc, (fcells_at L t (by omega)).2]
theorem fown_set {w : World} {base y i : Nat} {u v : Value} {L : List (ByteArray × ByteArray)} (h : FOwn w base v L) (hy : y < base) : FOwn (w.setCell ⟨y, i, none⟩ u) base v L :=
  World.ownsRow.kept h (n_setg w y i u) (Or.inr (fun e => by have := (h.lt y e).1; omega))
/- what is asked -/
end Go.Proofs.YtibipnipeaeonaaGreatDoor
