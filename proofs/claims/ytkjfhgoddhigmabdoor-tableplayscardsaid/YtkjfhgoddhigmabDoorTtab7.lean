/-
  CONTRACTS of tollref1's All, Find and Weight, whatever a table holds. No claim by itself.
-/
import Derived.Test.YtkjfhgoddhigmabDoorTtab6
namespace Go.Proofs.YtkjfhgoddhigmabDoor
open Go.RowKit
theorem rall_any (tb : Nat) (max : Int) (A : List (ByteArray × ByteArray)) {G : Nat → Prop} (w : World) (hT : TabR w tb max A G) (hn : A.length ≤ 1048576) :
    Calls Tryd.prog 15 #[.pointer (some ⟨tb, 0, none⟩)] w fun e w' => ∃ gg cc, e = .returned (.slice (some ⟨gg, 0, none⟩) (12 + A.length) cc) ∧ FRow w' gg 0 (12 + A.length) cc (alwaysL ++ A) ∧ Below w.heap.size w w' := by
  obtain ⟨hmax, hfz, v0, h0, ⟨rfl, rfl⟩ | ⟨g, cap, rfl, hg, hG, hr⟩⟩ := hT
  · refine (rall_nil tb w h0).mono ?_
    rintro e w' ⟨gg, cc, rfl, hr, hb⟩
    exact ⟨gg, cc, rfl, by simpa using hr, hb⟩
  · exact rall_row tb g cap A w h0 hr hn
theorem rfind_any (tb : Nat) (max : Int) (A : List (ByteArray × ByteArray)) {G : Nat → Prop} (n v : ByteArray) (w : World) (hT : TabR w tb max A G) (hn : A.length ≤ 1048576) :
    Calls Tryd.prog 14 #[.pointer (some ⟨tb, 0, none⟩), .agg #[.string n, .string v]] w fun e w' => e = .returned (.tuple #[.int .i64 (fnd (isF n v) (alwaysL ++ A) 0), .int .i64 (fnd (isN n) (alwaysL ++ A) 0)]) ∧ Below w.heap.size w w' :=
  find_loop tb (alwaysL ++ A) n v w (12 + A.length) (by omega) (fun wx hb => rall_any tb max A wx (hT.below hb) hn)
theorem rweight_nil (w : World) (a : Option Addr) (cap : Nat) :
    Calls Tryd.prog 18 #[.slice a 0 cap] w fun e w' => e = .returned (.int .i64 0) ∧ Below w.heap.size w w' := by
  go_enter Tryd.func18, Tryd.ntmps18
  go_wp2_with fail
  refine wp_loop_rounds 1 ?_
  rw [rounds_succ]
  go_wp2
  go_ret
  exact ⟨rfl, Below.refl _ _⟩
/-- What a table's list weighs. -/
theorem rweight_tab (tb : Nat) (max : Int) (A : List (ByteArray × ByteArray)) {G : Nat → Prop} (v0 : Value) (w w2 : World) (hT : TabR w tb max A G) (hv : w.cell? ⟨tb, 0, none⟩ = some v0) (hb : Below w.heap.size w w2) (hw : weight A ≤ 1152921504606846976) :
    Calls Tryd.prog 18 #[v0] w2 fun e w' => e = .returned (.int .i64 (weight A : Int)) ∧ Below w2.heap.size w2 w' := by
  obtain ⟨hmax, hfz, v1, h0, h4⟩ := hT
  obtain rfl : v0 = v1 := Option.some.inj (hv.symm.trans h0)
  rcases h4 with ⟨rfl, rfl⟩ | ⟨g, cap, rfl, hg, hG, hr⟩
  · exact rweight_nil w2 none 0
  · exact rweight_any g 0 A.length cap A w2 (hr.below hb) hw
end Go.Proofs.YtkjfhgoddhigmabDoor
