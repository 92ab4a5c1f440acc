/-
  CONTRACTS of the Go functions tollref1.Always and of the methods of tollref1.T. No claim by itself.
-/
import Derived.Test.YtkjfhgoddhigmabDoorTref
import Derived.Test.YtkjfhgoddhigmabDoorTbase
namespace Go.Proofs.YtkjfhgoddhigmabDoor
open Go.RowKit
theorem size_alloc (w : World) (o : Obj) : (w.alloc o).heap.size = w.heap.size + 1 := by simp
theorem own_at {w : World} {base g h e size n cap : Nat} {xs : List Value} (H : w.ownsRow base e size (.slice (some ⟨g, 0, none⟩) n cap) n xs) (hg : g = h) : w.ownsRow base e size (.slice (some ⟨h, 0, none⟩) n cap) n xs := by
  rw [← hg]; exact H
set_option maxHeartbeats 2000000 in
set_option maxRecDepth 100000 in
theorem ralways_any (w : World) :
    Calls Tryd.prog 32 #[] w fun e w' => ∃ g, e = .returned (.slice (some ⟨g, 0, none⟩) 12 12) ∧ w'.ownsRow w.heap.size 36 2 (.slice (some ⟨g, 0, none⟩) 12 12) 12 (fcells alwaysL) ∧ Below w.heap.size w w' := by
  go_enter Tryd.func32, Tryd.ntmps32
  go_wp2
  go_ret
  refine ⟨_, rfl, ?_, ?_⟩
  · have h := fun (W : World) (hb : w.heap.size ≤ W.heap.size) => World.ownsRow_lit (base := w.heap.size) (e := 36) (size := 2) W (fcells alwaysL).toArray 12 hb (by decide) (by decide)
    exact own_at (h _ (by simp only [size_alloc]; omega)) (by simp only [size_alloc])
  · repeat (first | exact Below.refl _ _ | refine Below.alloc ?_ (by (try simp only [size_alloc]); omega) _)

/-- What a slice of fields holds. -/
def FOwn (w : World) (v : Value) (A : List (ByteArray × ByteArray)) : Prop :=
  (v = .slice none 0 0 ∧ A = []) ∨ ∃ g cap, v = .slice (some ⟨g, 0, none⟩) A.length cap ∧ FRow w g 0 A.length cap A
theorem FOwn.below {w w' : World} {v : Value} {A : List (ByteArray × ByteArray)} (h : FOwn w v A) (hb : Below w.heap.size w w') : FOwn w' v A := by
  rcases h with h | ⟨g, cap, hv, hr⟩
  · exact Or.inl h
  · exact Or.inr ⟨g, cap, hv, hr.below hb⟩
theorem FRow.take {w : World} {g off len cap : Nat} {L : List (ByteArray × ByteArray)} (h : FRow w g off len cap L) (s : Nat) (hs : s ≤ len) : FRow w g off s cap (L.take s) := by
  have hl := h.hlen
  have hc := h.hcap
  have e : ∀ t, t < s → (L.take s).getD t fnone = L.getD t fnone := fun t ht => by simp [List.getD, ht]
  refine ⟨by simp; omega, by omega, h.hmax, fun t ht => ?_, fun t ht => ?_⟩
  · rw [e t ht]; exact h.hname t (by omega)
  · rw [e t ht]; exact h.hvalue t (by omega)
set_option maxHeartbeats 2000000 in
theorem rshrink_row (tb g cap : Nat) (A : List (ByteArray × ByteArray)) (most : Int) (w : World) (h0 : w.cell? ⟨tb, 0, none⟩ = some (.slice (some ⟨g, 0, none⟩) A.length cap)) (hf : w.frozen? ⟨tb, 0, none⟩ = false)
    (hr : FRow w g 0 A.length cap A) (hw : weight A ≤ 1152921504606846976) :
    Calls Tryd.prog 11 #[.pointer (some ⟨tb, 0, none⟩), .int .i64 most] w fun e w' => e = .returned (.tuple #[]) ∧ ∃ w1, Below w.heap.size w w1 ∧ w' = w1.setCell ⟨tb, 0, none⟩ (.slice (some ⟨g, 0, none⟩) (keepN A most A.length) cap) := by
  have hcap := hr.hcap
  have hmax := hr.hmax
  unfold maxLen at hmax
  have htb : tb < w.heap.size := by
    rcases Nat.lt_or_ge tb w.heap.size with h1 | h1
    · exact h1
    · simp [World.cell?, Array.getElem?_eq_none h1] at h0
  go_enter Tryd.func11, Tryd.ntmps11
  go_wp2_with fail
  go_loopw [4] (fun i wr => ∃ n : Nat, i = .int .i64 n ∧ n ≤ A.length ∧ Hid (keepN A most A.length = keepN A most n) ∧ Below w.heap.size w wr) (fun i _ => (intOf i).toNat)
  case atStart => exact ⟨A.length, rfl, Nat.le_refl _, rfl, Below.refl _ _⟩
  case round =>
    obtain ⟨n, rfl, hn, HK, hbel⟩ := hrel
    have hsz := hbel.size
    have h0r : wr.cell? ⟨tb, 0, none⟩ = some (.slice (some ⟨g, 0, none⟩) A.length cap) := (hbel.cell (p := ⟨tb, 0, none⟩) htb).trans h0
    have hfr : wr.frozen? ⟨tb, 0, none⟩ = false := (hbel.frozen (p := ⟨tb, 0, none⟩) htb).trans hf
    by_cases hn0 : n = 0
    · subst hn0
      have HK2 : Hid (keepN A most A.length = 0) := HK
      clear HK
      go_wp2
      go_end0
      refine ⟨rfl, wr, hbel, ?_⟩
      rw [HK2.out]
    · obtain ⟨m, rfl⟩ : ∃ m, n = m + 1 := ⟨n - 1, by omega⟩
      have hrt := (hr.below hbel).take (m + 1) hn
      have hwt := weight_take_le A (m + 1)
      by_cases hgt : most < (weight (A.take (m + 1)) : Int)
      · have HK2 : Hid (keepN A most A.length = keepN A most m) := by
          show keepN A most A.length = keepN A most m
          rw [HK.out]; show (if _ then _ else _) = _; rw [if_pos hgt]
        clear HK
        go_wp2_with fail
        refine (rweight_any g 0 (m + 1) cap (A.take (m + 1)) wr hrt (by omega)).mono ?_
        rintro e w3 ⟨rfl, hb3⟩
        generalize weight (A.take (m + 1)) = x at *
        go_wp2
        go_roundw
        case rel => exact ⟨m, by go_num, by omega, HK2, hbel.trans (hb3.mono hsz)⟩
        case measure => simp [intOf]
      · have HK2 : Hid (keepN A most A.length = m + 1) := by
          show keepN A most A.length = m + 1
          rw [HK.out]; show (if _ then _ else _) = _; rw [if_neg hgt]
        clear HK
        go_wp2_with fail
        refine (rweight_any g 0 (m + 1) cap (A.take (m + 1)) wr hrt (by omega)).mono ?_
        rintro e w3 ⟨rfl, hb3⟩
        have h0s : w3.cell? ⟨tb, 0, none⟩ = some (.slice (some ⟨g, 0, none⟩) A.length cap) := (hb3.cell (p := ⟨tb, 0, none⟩) (by show tb < wr.heap.size; omega)).trans h0r
        have hfs : w3.frozen? ⟨tb, 0, none⟩ = false := (hb3.frozen (p := ⟨tb, 0, none⟩) (by show tb < wr.heap.size; omega)).trans hfr
        generalize weight (A.take (m + 1)) = x at *
        go_wp2
        go_end0
        refine ⟨rfl, w3, hbel.trans (hb3.mono hsz), ?_⟩
        rw [HK2.out]
end Go.Proofs.YtkjfhgoddhigmabDoor
