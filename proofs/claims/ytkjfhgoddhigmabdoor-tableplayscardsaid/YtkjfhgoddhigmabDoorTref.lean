/-
  CONTRACTS of the Go functions tollref1.Size and tollref1.Weight. No claim by itself.
-/
import Derived.Test.YtkjfhgoddhigmabDoorTrsize
namespace Go.Proofs.YtkjfhgoddhigmabDoor
open Go.RowKit
set_option maxHeartbeats 1000000 in
theorem rweight_any (g off len cap : Nat) (L : List (ByteArray × ByteArray)) (w : World) (hr : FRow w g off len cap L) (hw : weight L ≤ 1152921504606846976) :
    Calls Tryd.prog 18 #[.slice (some ⟨g, off, none⟩) len cap] w fun e w' => e = .returned (.int .i64 (weight L : Int)) ∧ Below w.heap.size w w' := by
  have hcap := hr.hcap
  have hmax := hr.hmax
  unfold maxLen at hmax
  go_enter Tryd.func18, Tryd.ntmps18
  go_wp2
  go_loopw [3, 4] (fun n i wr => ∃ k : Nat, i = .int .i64 k ∧ k ≤ len ∧ n = .int .i64 (weight (L.take k) : Int) ∧ Below w.heap.size w wr) (fun _ i _ => len - (intOf i).toNat)
  case atStart => exact ⟨0, rfl, by omega, rfl, Below.refl _ _⟩
  case round =>
    obtain ⟨k, rfl, hk, rfl, hbel⟩ := hrel
    by_cases hlt : k < len
    · have hr2 := hr.below hbel
      have c1 := hr2.hname k hlt
      have c2 := hr2.hvalue k hlt
      have hl := hr.hlen
      have HT : Hid (weight (L.take (k + 1)) = weight (L.take k) + fsize (L.getD k fnone)) := weight_take L k (by omega)
      have hle := weight_take_le L (k + 1)
      rw [HT.out] at hle
      have hfs : (L.getD k fnone).1.size + (L.getD k fnone).2.size + 32 = fsize (L.getD k fnone) := rfl
      have hfs2 : fsize (L.getD k fnone) ≤ 1152921504606846976 := by omega
      generalize L.getD k fnone = f at *
      obtain ⟨n, v⟩ := f
      have hnv : n.size + v.size ≤ 1152921504606846976 := by have := hfs; simp at this; omega
      generalize weight (L.take k) = x at *
      have hsz := hbel.size
      clear hr2 hl hfs
      go_wp2_with fail
      refine (rsize_any n v _ hnv).mono ?_
      rintro e w' ⟨rfl, rfl⟩
      generalize fsize (n, v) = y at *
      go_wp2
      go_roundw
      case rel => exact ⟨k + 1, by go_num, by omega, by rw [HT.out]; go_num, hbel.alloc hsz _⟩
      case measure => simp [intOf]; omega
    · have e : L.take k = L := List.take_of_length_le (by have := hr.hlen; omega)
      rw [e]
      go_wp2
      go_ret
      exact ⟨rfl, hbel⟩
end Go.Proofs.YtkjfhgoddhigmabDoor
