/-
  CONNECTIONS TO PLACES: a pool of a law's own, from call to call. No claim by itself.
-/
import Derived.Test.YtibjbdcmhjbndaaDoorLo11X
namespace Go.Proofs.YtibjbdcmhjbndaaDoor
open Go Go.RowKit Go.Maps
set_option maxRecDepth 100000
/-- A pool that a law made. -/
structure OB (w0 W : World) (pb bb ib : Nat) (S : Po) : Prop where
  old : Below w0.heap.size w0 W
  pool : ∃ DB DI, PoM W pb bb ib DB DI S
  hS : ∀ k, Po3 pb bb ib k → w0.heap.size ≤ k
  inv : PoI S
theorem ob_step {w0 W w' : World} {pb bb ib : Nat} {S S' : Po} (h : OB w0 W pb bb ib S) (k : PoK W pb bb ib S' w') (hI : PoI S') : OB w0 w' pb bb ib S' :=
  ⟨Tn.below h.old k.2 h.old.size h.hS, k.1, h.hS, hI⟩
theorem ob_below {w0 W w' : World} {pb bb ib : Nat} {S : Po} (h : OB w0 W pb bb ib S) (hb : Below W.heap.size W w') : OB w0 w' pb bb ib S := by
  obtain ⟨DB, DI, hM⟩ := h.pool
  exact ⟨h.old.trans (hb.mono h.old.size), ⟨DB, DI, hM.below (Nat.le_refl _) hb⟩, h.hS, h.inv⟩
section
variable {w0 W : World} {pb bb ib : Nat} {S : Po} (h : OB w0 W pb bb ib S)
include h
theorem OB.take (to : ByteArray) (hto : to.size ≤ 140737488351232) (ht1 : S.turn ≤ 1000000000000) (hl1 : S.last ≤ 1000000000000) :
    Calls Tryd.prog 8 #[.pointer (some ⟨pb, 0, none⟩), .string to] W fun e w' => e = .returned (.tuple #[.int .i64 (takeT S to).1, .bool (takeT S to).2.1, errW (takeT S to).2.2.1]) ∧ OB w0 w' pb bb ib (takeT S to).2.2.2 := by
  obtain ⟨DB, DI, hM⟩ := h.pool
  refine (otake_any hM h.inv to hto ht1 hl1).mono ?_
  rintro e w' ⟨he, hk⟩
  exact ⟨he, ob_step h hk (poI_takeT h.inv to)⟩
theorem OB.back (id : Int) (good : Bool) (hi : Ix64 id) (ht1 : S.turn ≤ 1000000000000) :
    Calls Tryd.prog 9 #[.pointer (some ⟨pb, 0, none⟩), .int .i64 id, .bool good] W fun e w' => e = .returned (errW (backF S id good).1) ∧ OB w0 w' pb bb ib (backF S id good).2 := by
  obtain ⟨DB, DI, hM⟩ := h.pool
  refine (oback_any hM h.inv id good hi ht1).mono ?_
  rintro e w' ⟨he, hk⟩
  exact ⟨he, ob_step h hk (poI_back h.inv id good)⟩
theorem OB.idle (to : ByteArray) : Calls Tryd.prog 15 #[.pointer (some ⟨pb, 0, none⟩), .string to] W fun e w' => e = .returned (.int .i64 (idleTo S.L to : Nat)) ∧ OB w0 w' pb bb ib S := by
  obtain ⟨DB, DI, hM⟩ := h.pool
  refine (oidle_any hM h.inv to).mono ?_
  rintro e w' ⟨he, hb⟩
  exact ⟨he, ob_below h hb⟩
theorem OB.tick (now old : Int) (he : tickE S now old = 0) : Calls Tryd.prog 12 #[.pointer (some ⟨pb, 0, none⟩), .int .i64 now, .int .i64 old] W fun e w' => ∃ v ids, e = .returned (.tuple #[v, .nilIface]) ∧ IRow w' v W.heap.size ids ∧ TickIds S now old ids ∧ OB w0 w' pb bb ib (tickS S now old) := by
  obtain ⟨DB, DI, hM⟩ := h.pool
  refine (otick_yes hM h.inv now old he).mono ?_
  rintro e w' (⟨h1, _⟩ | ⟨_, v, ids, h2, h3, h4, h5⟩)
  · exact absurd he h1
  · exact ⟨v, ids, h2, h3, h4, ob_step h h5 (poI_tick h.inv he)⟩
theorem OB.tick_no (now old : Int) (he : tickE S now old ≠ 0) : Calls Tryd.prog 12 #[.pointer (some ⟨pb, 0, none⟩), .int .i64 now, .int .i64 old] W fun e w' => e = .returned (.tuple #[.slice none 0 0, .iface 53 (.int .i64 (tickE S now old))]) ∧ W = w' := by
  obtain ⟨DB, DI, hM⟩ := h.pool
  refine (otick_no hM now old he).mono ?_
  rintro e w' (⟨_, h1, h2⟩ | ⟨h1, _⟩)
  · exact ⟨h1, h2⟩
  · exact absurd h1 he
end
theorem ob_new (w0 W : World) (hb : Below w0.heap.size w0 W) (many : Int) (hm : 1 ≤ many ∧ many ≤ 8) : Calls Tryd.prog 5 #[.int .i64 many] W fun e w' => ∃ pb bb ib, e = .returned (.tuple #[.pointer (some ⟨pb, 0, none⟩), .nilIface]) ∧ OB w0 w' pb bb ib (po0 many) ∧ (∀ k, Po3 pb bb ib k → W.heap.size ≤ k) := by
  refine (onew_any many W).mono ?_
  rintro e w' ⟨h1, h2⟩
  rcases h2 with ⟨_, _, pb, F, h3, ⟨bb, ib, DB, DI, hM, rfl⟩, h5, _⟩ | ⟨h, _⟩
  · exact ⟨pb, bb, ib, h3, ⟨hb.trans (h1.mono hb.size), ⟨DB, DI, hM⟩, fun k hk => Nat.le_trans hb.size (h5 k hk), poI_new hm⟩, h5⟩
  · exact absurd hm h
theorem onew_no (W : World) (many : Int) (hm : ¬ (1 ≤ many ∧ many ≤ 8)) : Calls Tryd.prog 5 #[.int .i64 many] W fun e w' => e = .returned (.tuple #[.pointer none, .iface 53 (.int .i64 1)]) ∧ Below W.heap.size W w' := by
  refine (onew_any many W).mono ?_
  rintro e w' ⟨h1, h2⟩
  rcases h2 with ⟨h3, h4, _⟩ | ⟨_, h⟩
  · exact absurd ⟨h3, h4⟩ hm
  · exact ⟨h, h1⟩
end Go.Proofs.YtibjbdcmhjbndaaDoor
