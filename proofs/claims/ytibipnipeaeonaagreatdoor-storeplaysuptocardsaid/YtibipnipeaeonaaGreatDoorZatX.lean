/-
  WHAT WAS ANSWERED: strconv.Atoi at any text. No claim by itself.
-/
import Derived.Test.YtibipnipeaeonaaGreatDoorAtoi0
import Derived.Test.YtibipnipeaeonaaGreatDoorYmathX
namespace Go.Proofs.YtibipnipeaeonaaGreatDoor
open Go Go.RowKit Go.Maps
set_option maxRecDepth 100000
/-- What is known of the library's two errors. -/
def erP (w : World) : Prop := (∃ t p, w.cell? ⟨1, 0, none⟩ = some (.iface t p)) ∧ ∃ t p, w.cell? ⟨2, 0, none⟩ = some (.iface t p)
theorem erP.below {w w' : World} (h : erP w) (hb : Below w.heap.size w w') : erP w' := by
  obtain ⟨⟨t, p, h1⟩, ⟨t2, p2, h2⟩⟩ := h
  have lt : ∀ g v, w.cell? ⟨g, 0, none⟩ = some v → g < w.heap.size := fun g v hc => by
    rcases Nat.lt_or_ge g w.heap.size with h | h
    · exact h
    · simp [World.cell?, Array.getElem?_eq_none h] at hc
  exact ⟨⟨t, p, (hb.cell (p := ⟨1, 0, none⟩) (lt _ _ h1)).trans h1⟩, ⟨t2, p2, (hb.cell (p := ⟨2, 0, none⟩) (lt _ _ h2)).trans h2⟩⟩
set_option maxHeartbeats 1000000 in
theorem xatoi_any (s : ByteArray) (hs : s.size ≤ 140737488351232) (w : World) (he : erP w) : Calls Tryz.prog 30 #[.string s] w fun e w' => ∃ v err, e = .returned (.tuple #[.int .i64 v, err]) ∧ Below w.heap.size w w' ∧ ((err = .nilIface ∧ Lib.atoiAll s.data.toList = .ok v) ∨ ((∃ t p, err = .iface t p) ∧ ∀ x, Lib.atoiAll s.data.toList ≠ .ok x)) := by
  obtain ⟨⟨t, p, h1⟩, ⟨t2, p2, h2⟩⟩ := he
  cases ha : Lib.atoiAll s.data.toList with
  | ok v =>
    refine (show Calls Tryz.prog 30 #[.string s] w _ from Any.strconv_Atoi_ok Tryz.laysAtoi s (by omega) v ha w).mono ?_
    rintro e w' ⟨rfl, hw⟩
    refine ⟨v, .nilIface, rfl, ?_, Or.inl ⟨rfl, rfl⟩⟩
    rcases hw with rfl | ⟨t, rfl⟩
    · exact Below.refl _ _
    · exact Lib.bytesWorld_below _ _ _
  | «syntax» =>
    refine (show Calls Tryz.prog 30 #[.string s] w _ from Any.strconv_Atoi_syntax Tryz.laysAtoi s (by omega) ha (.iface t p) w (show w.cell? ⟨1, 0, none⟩ = _ from h1) (Or.inr ⟨t, p, rfl⟩)).mono ?_
    rintro e w' ⟨N, rfl, _, _, hb⟩
    exact ⟨_, _, rfl, hb, Or.inr ⟨⟨_, _, rfl⟩, fun x hx => by cases hx⟩⟩
  | range =>
    refine (show Calls Tryz.prog 30 #[.string s] w _ from Any.strconv_Atoi_range Tryz.laysAtoi s (by omega) ha (.iface t2 p2) w (show w.cell? ⟨2, 0, none⟩ = _ from h2) (Or.inr ⟨t2, p2, rfl⟩)).mono ?_
    rintro e w' ⟨N, rfl, _, _, hb⟩
    exact ⟨_, _, rfl, hb, Or.inr ⟨⟨_, _, rfl⟩, fun x hx => by cases hx⟩⟩
end Go.Proofs.YtibipnipeaeonaaGreatDoor
