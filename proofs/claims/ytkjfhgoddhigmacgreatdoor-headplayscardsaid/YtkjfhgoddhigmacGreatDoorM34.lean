/-
  CONTRACTS of plain.Told and tollsame.Error: of nil, and of an error that is an Errno. No claim by itself.
-/
import Derived.Test.YtkjfhgoddhigmacGreatDoorM33
import Derived.Test.YtkjfhgoddhigmacGreatDoorM20
import Derived.Test.YtkjfhgoddhigmacGreatDoorM26
namespace Go.Proofs.YtkjfhgoddhigmacGreatDoor
open Go.RowKit
/-- What errors.errorType's cell holds. -/
def Laid (w : World) : Prop := w.cell? ⟨0, 0, none⟩ = some (.iface 115 (.agg #[.pointer (some ⟨3, 27, none⟩)]))
theorem Laid.pos {w : World} (h : Laid w) : 0 < w.heap.size := by
  rcases Nat.lt_or_ge 0 w.heap.size with h1 | h1
  · exact h1
  · simp [Laid, World.cell?, Array.getElem?_eq_none h1] at h
theorem Laid.below {w w' : World} (h : Laid w) (hb : Below w.heap.size w w') : Laid w' :=
  (hb.cell (p := ⟨0, 0, none⟩) h.pos).trans h
theorem told_nil (w : World) : Calls Tryz.prog 17 #[.nilIface] w fun e w' => e = .returned (.int .i64 0) ∧ w = w' := by
  go_enter Tryz.func17, Tryz.ntmps17
  go_wp2
  go_ret
  exact ⟨rfl, rfl⟩
theorem told_hit (n : Int) (w : World) (hg : Laid w) : Calls Tryz.prog 17 #[.iface 53 (.int .i64 n)] w fun e w' => e = .returned (.int .i64 n) ∧ Below w.heap.size w w' := by
  have hgA : (w.alloc (.cells #[.int .i64 0] 53)).cell? ⟨0, 0, none⟩ = some (.iface 115 (.agg #[.pointer (some ⟨3, 27, none⟩)])) := by
    rw [World.cell?_alloc_lt _ _ ⟨0, 0, none⟩ hg.pos]; exact hg
  have htA : (w.alloc (.cells #[.int .i64 0] 53)).cell? ⟨w.heap.size, 0, none⟩ = some (.int .i64 0) := by simp
  have hfA : (w.alloc (.cells #[.int .i64 0] 53)).frozen? ⟨w.heap.size, 0, none⟩ = false := by simp
  clear hg
  go_enter Tryz.func17, Tryz.ntmps17
  go_wp2_with fail
  refine (as_hit _ _ (.int .i64 0) _ hgA htA hfA).mono ?_
  rintro e w' ⟨rfl, rfl⟩
  go_wp2
  go_ret
  refine ⟨rfl, ?_⟩
  repeat (first | exact Below.refl _ _ | refine Below.setCell ?_ (by simp) _ | refine Below.alloc ?_ (by first | (simp; done) | (simp; omega)) _)
theorem error_nil (k : Int) (w : World) : Calls Tryz.prog 5 #[.nilIface, .int .i64 k] w fun e w' => e = .returned (.bool (0 == k)) ∧ w = w' := by
  go_enter Tryz.func5, Tryz.ntmps5
  go_wp2_with (go_at_call 17; refine (told_nil _).mono ?_; rintro e w' ⟨rfl, rfl⟩)
  go_ret
  exact ⟨rfl, rfl⟩
theorem error_hit (n k : Int) (w : World) (hg : Laid w) : Calls Tryz.prog 5 #[.iface 53 (.int .i64 n), .int .i64 k] w fun e w' => e = .returned (.bool (n == k)) ∧ Below w.heap.size w w' := by
  go_enter Tryz.func5, Tryz.ntmps5
  go_wp2_with (go_at_call 17; refine (told_hit _ _ hg).mono ?_; rintro e w' ⟨rfl, hb⟩)
  go_ret
  exact ⟨rfl, by assumption⟩
end Go.Proofs.YtkjfhgoddhigmacGreatDoor
/-
  CONTRACTS of the Go functions head.Weight and tollref1.Weight at lists of any length: sums that go round. No claim by itself.
-/
namespace Go.Proofs.YtkjfhgoddhigmacGreatDoor
open Go.RowKit
set_option maxRecDepth 100000
theorem wrap_step (a b : Int) : wrap64 (wrap64 a + b) = wrap64 (a + b) := by unfold wrap64; omega
theorem wrap_zero : wrap64 0 = 0 := by unfold wrap64; omega
theorem getD_le {L : List (ByteArray × ByteArray)} {m : Nat} (h : ∀ t, (L.getD t fnone).1.size + (L.getD t fnone).2.size ≤ m) : ∀ f ∈ L, f.1.size + f.2.size ≤ m := fun f hf => by
  obtain ⟨i, hi, rfl⟩ := List.getElem_of_mem hf
  have := h i
  simpa [List.getD, List.getElem?_eq_getElem hi] using this
set_option maxHeartbeats 2000000 in
theorem hweight_wrap (a : Option Addr) (len cap : Nat) (L : List (ByteArray × ByteArray)) (w : World) (hA : FArg w a len cap L) (hZ : ∀ t, (L.getD t fnone).1.size + (L.getD t fnone).2.size ≤ 281474976710656) :
    Calls Tryz.prog 11 #[.slice a len cap] w fun e w' => e = .returned (.int .i64 (wrap64 (weight L : Int))) ∧ Below w.heap.size w w' := by
  rcases hA with ⟨rfl, rfl⟩ | ⟨g, off, rfl, hr⟩
  · rw [show ((weight [] : Nat) : Int) = 0 from rfl, wrap_zero]
    exact hweight_arg a 0 cap [] w (Or.inl ⟨rfl, rfl⟩) (by decide)
  · have hcap := hr.hcap
    have hmax := hr.hmax
    unfold maxLen at hmax
    have HZ := hide hZ
    clear hZ
    go_enter Tryz.func11, Tryz.ntmps11
    go_wp2
    go_loopw [3, 8] (fun n i wr => ∃ (k : Nat) (X : Int), i = .int .i64 k ∧ k ≤ len ∧ n = .int .i64 X ∧ X = wrap64 (weight (L.take k) : Int) ∧ Below w.heap.size w wr) (fun _ i _ => len - (intOf i).toNat)
    case atStart => exact ⟨0, 0, rfl, by omega, rfl, by rw [List.take_zero, show ((weight [] : Nat) : Int) = 0 from rfl, wrap_zero], Below.refl _ _⟩
    case round =>
      obtain ⟨k, X, rfl, hk, rfl, hX, hbel⟩ := hrel
      have HX := hide hX
      clear hX
      by_cases hlt : k < len
      · have hr2 := hr.below hbel
        have c1 := hr2.hname k hlt
        have c2 := hr2.hvalue k hlt
        have hl := hr.hlen
        have HT : Hid (weight (L.take (k + 1)) = weight (L.take k) + fsize (L.getD k fnone)) := weight_take L k (by omega)
        have hfz := HZ.out k
        generalize L.getD k fnone = f at *
        obtain ⟨n, v⟩ := f
        have hnv : n.size + v.size ≤ 1152921504606846976 := by simp at hfz; omega
        have hsz := hbel.size
        clear hr2 hl hfz
        go_wp2_with fail
        refine (sizeof_any n v _ hnv).mono ?_
        rintro e w' ⟨rfl, rfl⟩
        generalize fsize (n, v) = y at *
        go_wp2
        go_roundw
        case rel => exact ⟨k + 1, _, by go_num, by omega, rfl, by rw [HX.out, HT.out, wrap_step, Int.natCast_add], by repeat (first | exact hbel | refine Below.alloc ?_ (by (try simp); omega) _ | refine Below.setCell ?_ (by (try simp); omega) _)⟩
        case measure => simp [intOf]; omega
      · have e : L.take k = L := List.take_of_length_le (by have := hr.hlen; omega)
        rw [e] at HX
        go_wp2
        go_ret
        exact ⟨by rw [HX.out]; rfl, hbel⟩
set_option maxHeartbeats 2000000 in
theorem rweight_wrap (a : Option Addr) (len cap : Nat) (L : List (ByteArray × ByteArray)) (w : World) (hA : FArg w a len cap L) (hZ : ∀ t, (L.getD t fnone).1.size + (L.getD t fnone).2.size ≤ 281474976710656) :
    Calls Tryz.prog 12 #[.slice a len cap] w fun e w' => e = .returned (.int .i64 (wrap64 (weight L : Int))) ∧ Below w.heap.size w w' := by
  rcases hA with ⟨rfl, rfl⟩ | ⟨g, off, rfl, hr⟩
  · rw [show ((weight [] : Nat) : Int) = 0 from rfl, wrap_zero]
    exact rweight_nil w a cap
  · have hcap := hr.hcap
    have hmax := hr.hmax
    unfold maxLen at hmax
    have HZ := hide hZ
    clear hZ
    go_enter Tryz.func12, Tryz.ntmps12
    go_wp2
    go_loopw [3, 4] (fun n i wr => ∃ (k : Nat) (X : Int), i = .int .i64 k ∧ k ≤ len ∧ n = .int .i64 X ∧ X = wrap64 (weight (L.take k) : Int) ∧ Below w.heap.size w wr) (fun _ i _ => len - (intOf i).toNat)
    case atStart => exact ⟨0, 0, rfl, by omega, rfl, by rw [List.take_zero, show ((weight [] : Nat) : Int) = 0 from rfl, wrap_zero], Below.refl _ _⟩
    case round =>
      obtain ⟨k, X, rfl, hk, rfl, hX, hbel⟩ := hrel
      have HX := hide hX
      clear hX
      by_cases hlt : k < len
      · have hr2 := hr.below hbel
        have c1 := hr2.hname k hlt
        have c2 := hr2.hvalue k hlt
        have hl := hr.hlen
        have HT : Hid (weight (L.take (k + 1)) = weight (L.take k) + fsize (L.getD k fnone)) := weight_take L k (by omega)
        have hfz := HZ.out k
        generalize L.getD k fnone = f at *
        obtain ⟨n, v⟩ := f
        have hnv : n.size + v.size ≤ 1152921504606846976 := by simp at hfz; omega
        have hsz := hbel.size
        clear hr2 hl hfz
        go_wp2_with fail
        refine (rsize_any n v _ hnv).mono ?_
        rintro e w' ⟨rfl, rfl⟩
        generalize fsize (n, v) = y at *
        go_wp2
        go_roundw
        case rel => exact ⟨k + 1, _, by go_num, by omega, rfl, by rw [HX.out, HT.out, wrap_step, Int.natCast_add], by repeat (first | exact hbel | refine Below.alloc ?_ (by (try simp); omega) _ | refine Below.setCell ?_ (by (try simp); omega) _)⟩
        case measure => simp [intOf]; omega
      · have e : L.take k = L := List.take_of_length_le (by have := hr.hlen; omega)
        rw [e] at HX
        go_wp2
        go_ret
        exact ⟨by rw [HX.out]; rfl, hbel⟩
end Go.Proofs.YtkjfhgoddhigmacGreatDoor
