/-
  CONTRACT of the method Add of tollref1.T. No claim by itself.
-/
import Derived.Test.YtkjfhgoddhigmabDoorTtab3
namespace Go.Proofs.YtkjfhgoddhigmabDoor
open Go.RowKit
/-- Behind a call that turns the block tb alone: all other old blocks are as they were. -/
structure But (tb : Nat) (w w' : World) : Prop where
  os : w'.os = w.os
  tape : w'.tape = w.tape
  output : w'.output = w.output
  size : w.heap.size ≤ w'.heap.size
  block : ∀ k, k < w.heap.size → k ≠ tb → w'.heap[k]? = w.heap[k]?
theorem But.of_below {tb : Nat} {w w' : World} (h : Below w.heap.size w w') : But tb w w' := ⟨h.os, h.tape, h.output, h.size, fun k hk _ => h.block k hk⟩
theorem But.trans {tb : Nat} {a b c : World} (h : But tb a b) (k : But tb b c) : But tb a c :=
  ⟨k.os.trans h.os, k.tape.trans h.tape, k.output.trans h.output, Nat.le_trans h.size k.size, fun i hi hn => (k.block i (Nat.lt_of_lt_of_le hi h.size) hn).trans (h.block i hi hn)⟩
theorem But.setCell {tb : Nat} {w w' : World} (h : But tb w w') (o : Nat) (u : Value) : But tb w (w'.setCell ⟨tb, o, none⟩ u) := by
  have hs : (w'.setCell ⟨tb, o, none⟩ u).heap.size = w'.heap.size := by simp
  exact ⟨h.os, h.tape, h.output, by rw [hs]; exact h.size, fun k hk hn => (Below.heap_setCell w' ⟨tb, o, none⟩ u k hn).trans (h.block k hk hn)⟩
theorem But.cell {tb : Nat} {w w' : World} (h : But tb w w') {p : Addr} (hp : p.block < w.heap.size) (hn : p.block ≠ tb) : w'.cell? p = w.cell? p := World.cell?_of_block (w := w) (h.block p.block hp hn)
/-- A table as it lies: its list, its greatest size. -/
structure TabR (w : World) (tb : Nat) (max : Int) (A : List (ByteArray × ByteArray)) (G : Nat → Prop) : Prop where
  hmax : w.cell? ⟨tb, 1, none⟩ = some (.int .i64 max)
  hfz : w.frozen? ⟨tb, 0, none⟩ = false ∧ w.frozen? ⟨tb, 1, none⟩ = false
  hadd : ∃ v, w.cell? ⟨tb, 0, none⟩ = some v ∧ ((v = .slice none 0 0 ∧ A = []) ∨ ∃ g cap, v = .slice (some ⟨g, 0, none⟩) A.length cap ∧ g ≠ tb ∧ (A ≠ [] → G g) ∧ FRow w g 0 A.length cap A)
theorem blk_lt {w : World} {a : Addr} {v : Value} (h : w.cell? a = some v) : a.block < w.heap.size := by
  rcases Nat.lt_or_ge a.block w.heap.size with h1 | h1
  · exact h1
  · simp [World.cell?, Array.getElem?_eq_none h1] at h
theorem TabR.below {w w' : World} {tb : Nat} {max : Int} {A : List (ByteArray × ByteArray)} {G : Nat → Prop} (h : TabR w tb max A G) (hb : Below w.heap.size w w') : TabR w' tb max A G := by
  obtain ⟨h1, h2, v, h3, h4⟩ := h
  have hlt : tb < w.heap.size := blk_lt h1
  refine ⟨(hb.cell (p := ⟨tb, 1, none⟩) hlt).trans h1, ⟨(hb.frozen (p := ⟨tb, 0, none⟩) hlt).trans h2.1, (hb.frozen (p := ⟨tb, 1, none⟩) hlt).trans h2.2⟩, v, (hb.cell (p := ⟨tb, 0, none⟩) hlt).trans h3, ?_⟩
  rcases h4 with h4 | ⟨g, cap, hv, hg, hG, hr⟩
  · exact Or.inl h4
  · exact Or.inr ⟨g, cap, hv, hg, hG, hr.below hb⟩
theorem FRow.setCell {w : World} {g off len cap tb o : Nat} {L : List (ByteArray × ByteArray)} (h : FRow w g off len cap L) (hg : g ≠ tb) (u : Value) : FRow (w.setCell ⟨tb, o, none⟩ u) g off len cap L := by
  have e : ∀ a, (w.setCell ⟨tb, o, none⟩ u).cell? ⟨g, a, none⟩ = w.cell? ⟨g, a, none⟩ := fun a => World.cell?_setCell_far w ⟨tb, o, none⟩ ⟨g, a, none⟩ u (fun h => hg h.symm)
  exact ⟨h.hlen, h.hcap, h.hmax, fun t ht => (e _).trans (h.hname t ht), fun t ht => (e _).trans (h.hvalue t ht)⟩
/-- A table whose list is set. -/
theorem TabR.set {w : World} {tb : Nat} {max : Int} {A B : List (ByteArray × ByteArray)} {G G' : Nat → Prop} (h : TabR w tb max A G) (v : Value) (hv : (v = .slice none 0 0 ∧ B = []) ∨ ∃ g cap, v = .slice (some ⟨g, 0, none⟩) B.length cap ∧ g ≠ tb ∧ (B ≠ [] → G' g) ∧ FRow w g 0 B.length cap B) : TabR (w.setCell ⟨tb, 0, none⟩ v) tb max B G' := by
  obtain ⟨h1, h2, v0, h3, _⟩ := h
  refine ⟨?_, ⟨by rw [World.frozen?_setCell]; exact h2.1, by rw [World.frozen?_setCell]; exact h2.2⟩, v, World.cell?_setCell_same w _ _ h3, ?_⟩
  · rw [World.cell?_setCell_other w ⟨tb, 0, none⟩ ⟨tb, 1, none⟩ v (by simp)]; exact h1
  · rcases hv with hv | ⟨g, cap, hv, hg, hG, hr⟩
    · exact Or.inl hv
    · exact Or.inr ⟨g, cap, hv, hg, hG, hr.setCell hg _⟩
set_option maxHeartbeats 2000000 in
theorem radd_over (tb : Nat) (max : Int) (A : List (ByteArray × ByteArray)) (n v : ByteArray) (w : World) {G : Nat → Prop} (hT : TabR w tb max A G) (hnv : n.size + v.size ≤ 1152921504606846976) (hgt : max < (fsize (n, v) : Int)) :
    Calls Tryd.prog 10 #[.pointer (some ⟨tb, 0, none⟩), .agg #[.string n, .string v]] w fun e w' => e = .returned (.bool false) ∧ But tb w w' ∧ TabR w' tb max [] (fun q => w.heap.size ≤ q) := by
  obtain ⟨hmax, hfz, v0, h0, hown⟩ := hT
  have htb : tb < w.heap.size := by
    rcases Nat.lt_or_ge tb w.heap.size with h1 | h1
    · exact h1
    · simp [World.cell?, Array.getElem?_eq_none h1] at h0
  have k1 : (w.alloc (.cells #[.string n, .string v] 36)).cell? ⟨tb, 1, none⟩ = some (.int .i64 max) := by rw [World.cell?_alloc_lt _ _ ⟨tb, 1, none⟩ htb]; exact hmax
  have k0 : (w.alloc (.cells #[.string n, .string v] 36)).cell? ⟨tb, 0, none⟩ = some v0 := by rw [World.cell?_alloc_lt _ _ ⟨tb, 0, none⟩ htb]; exact h0
  go_enter Tryd.func10, Tryd.ntmps10
  go_wp2_with fail
  go_region_held3 (fun w' => w'.cell? ⟨w.heap.size, 0, none⟩ = some (.string n) ∧ w'.cell? ⟨w.heap.size, 1, none⟩ = some (.string v) ∧ w'.cell? ⟨tb, 1, none⟩ = some (.int .i64 max))
    (first | go_keep | (simp [World.cell?_alloc_lt, htb, hmax]))
    ((go_at_call 21; refine (rsize_any n v _ hnv).mono ?_; rintro e w' ⟨rfl, rfl⟩))
  generalize fsize (n, v) = y at *
  go_wp2
  go_ret
  have hT0 : TabR w tb max A G := ⟨hmax, hfz, v0, h0, hown⟩
  have hT1 := hT0.set (B := []) (G' := fun q => w.heap.size ≤ q) (.slice none 0 0) (Or.inl ⟨rfl, rfl⟩)
  have hs0 : (w.setCell ⟨tb, 0, none⟩ (.slice none 0 0)).heap.size = w.heap.size := by simp
  have hb2 : Below (w.setCell ⟨tb, 0, none⟩ (.slice none 0 0)).heap.size (w.setCell ⟨tb, 0, none⟩ (.slice none 0 0)) (((w.setCell ⟨tb, 0, none⟩ (.slice none 0 0)).alloc (.cells #[.string n, .string v] 36)).alloc (.cells #[.string n, .string v] 36)).drew :=
    (((Below.refl _ _).alloc (Nat.le_refl _) _).alloc (by simp) _).drew
  exact ⟨rfl, ((But.of_below (Below.refl _ _)).setCell 0 _).trans (But.of_below hb2), hT1.below hb2⟩
/-- A table whose greatest size is set. -/
theorem TabR.setMax {w : World} {tb : Nat} {max : Int} {A : List (ByteArray × ByteArray)} {G : Nat → Prop} (h : TabR w tb max A G) (m : Int) : TabR (w.setCell ⟨tb, 1, none⟩ (.int .i64 m)) tb m A G := by
  obtain ⟨h1, h2, v0, h3, h4⟩ := h
  refine ⟨World.cell?_setCell_same w _ _ h1, ⟨by rw [World.frozen?_setCell]; exact h2.1, by rw [World.frozen?_setCell]; exact h2.2⟩, v0, ?_, ?_⟩
  · rw [World.cell?_setCell_other w ⟨tb, 1, none⟩ ⟨tb, 0, none⟩ _ (by simp)]; exact h3
  · rcases h4 with h4 | ⟨g, cap, hv, hg, hG, hr⟩
    · exact Or.inl h4
    · exact Or.inr ⟨g, cap, hv, hg, hG, hr.setCell hg _⟩
end Go.Proofs.YtkjfhgoddhigmabDoor
