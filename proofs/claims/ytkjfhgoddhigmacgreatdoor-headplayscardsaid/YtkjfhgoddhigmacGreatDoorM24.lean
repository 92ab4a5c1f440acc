/-
  CONTRACT of the Go function tollref1.Size. No claim by itself.
-/
import Derived.Test.YtkjfhgoddhigmacGreatDoorM01
namespace Go.Proofs.YtkjfhgoddhigmacGreatDoor
open Go.RowKit
theorem rsize_any (n v : ByteArray) (w : World) (h : n.size + v.size ≤ 1152921504606846976) :
    Calls Tryz.prog 30 #[.agg #[.string n, .string v]] w fun e w' => e = .returned (.int .i64 (fsize (n, v) : Int)) ∧ w' = w.alloc (.cells #[.string n, .string v] 60) := by
  have E : Hid (((n.size : Int) + (v.size : Int) + 32) = (fsize (n, v) : Int)) := by show _ = (fsize (n, v) : Int); unfold fsize; push_cast; rfl
  have h1 : (n.size : Int) + (v.size : Int) ≤ 1152921504606846976 := by omega
  go_enter Tryz.func30, Tryz.ntmps30
  go_wp2
  rw [E.out]
  go_ret
  exact ⟨rfl, rfl⟩
end Go.Proofs.YtkjfhgoddhigmacGreatDoor
/-
  CONTRACTS of the Go functions tollref1.Size and tollref1.Weight. No claim by itself.
-/
namespace Go.Proofs.YtkjfhgoddhigmacGreatDoor
open Go.RowKit
set_option maxHeartbeats 1000000 in
theorem rweight_any (g off len cap : Nat) (L : List (ByteArray × ByteArray)) (w : World) (hr : FRow w g off len cap L) (hw : weight L ≤ 1152921504606846976) :
    Calls Tryz.prog 12 #[.slice (some ⟨g, off, none⟩) len cap] w fun e w' => e = .returned (.int .i64 (weight L : Int)) ∧ Below w.heap.size w w' := by
  have hcap := hr.hcap
  have hmax := hr.hmax
  unfold maxLen at hmax
  go_enter Tryz.func12, Tryz.ntmps12
  go_wp2
  go_loopw [3, 4] (fun n i wr => ∃ k : Nat, i = .int .i64 k ∧ k ≤ len ∧ n = .int .i64 (weight (L.take k) : Int) ∧ Below w.heap.size w wr) (fun _ i _ => len - (intOf i).toNat)
  case atStart => exact ⟨0, rfl, by omega, rfl, Below.refl _ _⟩
  case round =>
    obtain ⟨k, rfl, hk, rfl, hbel⟩ := hrel
    by_cases hlt : k < len
    · have hr2 := hr.below hbel
      have c1 := hr2.hname k hlt
      have c2 := hr2.hvalue k hlt
      have hl := hr.hlen
      have HT : Hid (weight (L.take (k + 1)) = weight (L.take k) + fsize (L.getD k fnone)) := weight_take L k (by omega)
      have hle := weight_take_le L (k + 1)
      rw [HT.out] at hle
      have hfs : (L.getD k fnone).1.size + (L.getD k fnone).2.size + 32 = fsize (L.getD k fnone) := rfl
      have hfs2 : fsize (L.getD k fnone) ≤ 1152921504606846976 := by omega
      generalize L.getD k fnone = f at *
      obtain ⟨n, v⟩ := f
      have hnv : n.size + v.size ≤ 1152921504606846976 := by have := hfs; simp at this; omega
      generalize weight (L.take k) = x at *
      have hsz := hbel.size
      clear hr2 hl hfs
      go_wp2_with fail
      refine (rsize_any n v _ hnv).mono ?_
      rintro e w' ⟨rfl, rfl⟩
      generalize fsize (n, v) = y at *
      go_wp2
      go_roundw
      case rel => exact ⟨k + 1, by go_num, by omega, by rw [HT.out]; go_num, hbel.alloc hsz _⟩
      case measure => simp [intOf]; omega
    · have e : L.take k = L := List.take_of_length_le (by have := hr.hlen; omega)
      rw [e]
      go_wp2
      go_ret
      exact ⟨rfl, hbel⟩
end Go.Proofs.YtkjfhgoddhigmacGreatDoor
/-
  CONTRACTS of the Go functions tollref1.Always and of the methods of tollref1.T. No claim by itself.
-/
namespace Go.Proofs.YtkjfhgoddhigmacGreatDoor
open Go.RowKit
theorem size_alloc (w : World) (o : Obj) : (w.alloc o).heap.size = w.heap.size + 1 := by simp
theorem own_at {w : World} {base g h e size n cap : Nat} {xs : List Value} (H : w.ownsRow base e size (.slice (some ⟨g, 0, none⟩) n cap) n xs) (hg : g = h) : w.ownsRow base e size (.slice (some ⟨h, 0, none⟩) n cap) n xs := by
  rw [← hg]; exact H
set_option maxHeartbeats 2000000 in
set_option maxRecDepth 100000 in
theorem ralways_any (w : World) :
    Calls Tryz.prog 55 #[] w fun e w' => ∃ g, e = .returned (.slice (some ⟨g, 0, none⟩) 12 12) ∧ w'.ownsRow w.heap.size 60 2 (.slice (some ⟨g, 0, none⟩) 12 12) 12 (fcells alwaysL) ∧ Below w.heap.size w w' := by
  go_enter Tryz.func55, Tryz.ntmps55
  go_wp2
  go_ret
  refine ⟨_, rfl, ?_, ?_⟩
  · have h := fun (W : World) (hb : w.heap.size ≤ W.heap.size) => World.ownsRow_lit (base := w.heap.size) (e := 60) (size := 2) W (fcells alwaysL).toArray 12 hb (by decide) (by decide)
    exact own_at (h _ (by simp only [size_alloc]; omega)) (by simp only [size_alloc])
  · repeat (first | exact Below.refl _ _ | refine Below.alloc ?_ (by (try simp only [size_alloc]); omega) _)

/-- What a slice of fields holds. -/
def FOwn (w : World) (v : Value) (A : List (ByteArray × ByteArray)) : Prop :=
  (v = .slice none 0 0 ∧ A = []) ∨ ∃ g cap, v = .slice (some ⟨g, 0, none⟩) A.length cap ∧ FRow w g 0 A.length cap A
theorem FOwn.below {w w' : World} {v : Value} {A : List (ByteArray × ByteArray)} (h : FOwn w v A) (hb : Below w.heap.size w w') : FOwn w' v A := by
  rcases h with h | ⟨g, cap, hv, hr⟩
  · exact Or.inl h
  · exact Or.inr ⟨g, cap, hv, hr.below hb⟩
theorem FRow.take {w : World} {g off len cap : Nat} {L : List (ByteArray × ByteArray)} (h : FRow w g off len cap L) (s : Nat) (hs : s ≤ len) : FRow w g off s cap (L.take s) := by
  have hl := h.hlen
  have hc := h.hcap
  have e : ∀ t, t < s → (L.take s).getD t fnone = L.getD t fnone := fun t ht => by simp [List.getD, ht]
  refine ⟨by simp; omega, by omega, h.hmax, fun t ht => ?_, fun t ht => ?_⟩
  · rw [e t ht]; exact h.hname t (by omega)
  · rw [e t ht]; exact h.hvalue t (by omega)
set_option maxHeartbeats 2000000 in
theorem rshrink_row (tb o g cap : Nat) (A : List (ByteArray × ByteArray)) (most : Int) (w : World) (h0 : w.cell? ⟨tb, o, none⟩ = some (.slice (some ⟨g, 0, none⟩) A.length cap)) (hf : w.frozen? ⟨tb, o, none⟩ = false)
    (hr : FRow w g 0 A.length cap A) (hw : weight A ≤ 1152921504606846976) :
    Calls Tryz.prog 18 #[.pointer (some ⟨tb, o, none⟩), .int .i64 most] w fun e w' => e = .returned (.tuple #[]) ∧ ∃ w1, Below w.heap.size w w1 ∧ w' = w1.setCell ⟨tb, o, none⟩ (.slice (some ⟨g, 0, none⟩) (keepN A most A.length) cap) := by
  have hcap := hr.hcap
  have hmax := hr.hmax
  unfold maxLen at hmax
  have htb : tb < w.heap.size := by
    rcases Nat.lt_or_ge tb w.heap.size with h1 | h1
    · exact h1
    · simp [World.cell?, Array.getElem?_eq_none h1] at h0
  go_enter Tryz.func18, Tryz.ntmps18
  go_wp2_with fail
  go_loopw [4] (fun i wr => ∃ n : Nat, i = .int .i64 n ∧ n ≤ A.length ∧ Hid (keepN A most A.length = keepN A most n) ∧ Below w.heap.size w wr) (fun i _ => (intOf i).toNat)
  case atStart => exact ⟨A.length, rfl, Nat.le_refl _, rfl, Below.refl _ _⟩
  case round =>
    obtain ⟨n, rfl, hn, HK, hbel⟩ := hrel
    have hsz := hbel.size
    have h0r : wr.cell? ⟨tb, o, none⟩ = some (.slice (some ⟨g, 0, none⟩) A.length cap) := (hbel.cell (p := ⟨tb, o, none⟩) htb).trans h0
    have hfr : wr.frozen? ⟨tb, o, none⟩ = false := (hbel.frozen (p := ⟨tb, o, none⟩) htb).trans hf
    by_cases hn0 : n = 0
    · subst hn0
      have HK2 : Hid (keepN A most A.length = 0) := HK
      clear HK
      go_wp2
      go_end0
      refine ⟨rfl, wr, hbel, ?_⟩
      rw [HK2.out]
    · obtain ⟨m, rfl⟩ : ∃ m, n = m + 1 := ⟨n - 1, by omega⟩
      have hrt := (hr.below hbel).take (m + 1) hn
      have hwt := weight_take_le A (m + 1)
      by_cases hgt : most < (weight (A.take (m + 1)) : Int)
      · have HK2 : Hid (keepN A most A.length = keepN A most m) := by
          show keepN A most A.length = keepN A most m
          rw [HK.out]; show (if _ then _ else _) = _; rw [if_pos hgt]
        clear HK
        go_wp2_with fail
        refine (rweight_any g 0 (m + 1) cap (A.take (m + 1)) wr hrt (by omega)).mono ?_
        rintro e w3 ⟨rfl, hb3⟩
        generalize weight (A.take (m + 1)) = x at *
        go_wp2
        go_roundw
        case rel => exact ⟨m, by go_num, by omega, HK2, hbel.trans (hb3.mono hsz)⟩
        case measure => simp [intOf]
      · have HK2 : Hid (keepN A most A.length = m + 1) := by
          show keepN A most A.length = m + 1
          rw [HK.out]; show (if _ then _ else _) = _; rw [if_neg hgt]
        clear HK
        go_wp2_with fail
        refine (rweight_any g 0 (m + 1) cap (A.take (m + 1)) wr hrt (by omega)).mono ?_
        rintro e w3 ⟨rfl, hb3⟩
        have h0s : w3.cell? ⟨tb, o, none⟩ = some (.slice (some ⟨g, 0, none⟩) A.length cap) := (hb3.cell (p := ⟨tb, o, none⟩) (by show tb < wr.heap.size; omega)).trans h0r
        have hfs : w3.frozen? ⟨tb, o, none⟩ = false := (hb3.frozen (p := ⟨tb, o, none⟩) (by show tb < wr.heap.size; omega)).trans hfr
        generalize weight (A.take (m + 1)) = x at *
        go_wp2
        go_end0
        refine ⟨rfl, w3, hbel.trans (hb3.mono hsz), ?_⟩
        rw [HK2.out]
end Go.Proofs.YtkjfhgoddhigmacGreatDoor
