/-
  BODIES IN PIECES: the document's Unchunk. No claim by itself.
-/
import Derived.Test.YtkigdhcnfdmfhafDoorRmt
import Derived.Test.YtkigdhcnfdmfhafDoorRchk2
import Derived.Deep.DeepCutAuto
import Derived.Deep.CutBlock
namespace Go.Proofs.YtkigdhcnfdmfhafDoor
open Go.RowKit
set_option maxRecDepth 100000
section
variable {m : Int} {k : Nat} {n : Int} {Z : List Int} {q : Nat}
theorem rd_end (h : Z.length ≤ q) : (rdN m k n (Z.drop q)).1 = 8 := by rw [List.drop_eq_nil_of_le h]; simp [rdN]
theorem rd_stop0 (h : q < Z.length) (hd : dig (Z.getD q 0) < 0) (hk : k = 0) : (rdN m k n (Z.drop q)).1 = 2 := by rw [drop_at h, rdN, if_pos hd, if_pos hk]
theorem rd_stop (h : q < Z.length) (hd : dig (Z.getD q 0) < 0) (hk : k ≠ 0) : rdN m k n (Z.drop q) = (0, n, Z.drop q) := by rw [drop_at h, rdN, if_pos hd, if_neg hk]
theorem rd_zero (h : q < Z.length) (hd : ¬ dig (Z.getD q 0) < 0) (hk : k = 1 ∧ n = 0) : (rdN m k n (Z.drop q)).1 = 2 := by rw [drop_at h, rdN, if_neg hd, if_pos hk]
theorem rd_over (h : q < Z.length) (hd : ¬ dig (Z.getD q 0) < 0) (hk : ¬ (k = 1 ∧ n = 0)) (ho : 8000 < m + (n * 16 + dig (Z.getD q 0))) : (rdN m k n (Z.drop q)).1 = 4 := by rw [drop_at h, rdN, if_neg hd, if_neg hk, if_pos ho]
theorem rd_on (h : q < Z.length) (hd : ¬ dig (Z.getD q 0) < 0) (hk : ¬ (k = 1 ∧ n = 0)) (ho : ¬ 8000 < m + (n * 16 + dig (Z.getD q 0))) : rdN m k n (Z.drop q) = rdN m (k + 1) (n * 16 + dig (Z.getD q 0)) (Z.drop (q + 1)) := by rw [drop_at h, rdN, if_neg hd, if_neg hk, if_neg ho]
end
/-- How far it was read. -/
structure UnS (Z acc : List Int) (p : Nat) : Prop where
  un : unF (Z.length + 1) [] Z = unF (Z.length + 1) acc (Z.drop p)
  le : p ≤ Z.length
  room : acc.length ≤ 8000
theorem UnS.start (Z : List Int) : UnS Z [] 0 := ⟨by rw [List.drop_zero], by omega, by simp⟩
theorem UnS.fault {Z acc : List Int} {p : Nat} (h : UnS Z acc p) {e : Int} (he : e ≠ 0) (hu : unF (Z.length + 1) acc (Z.drop p) = (e, [], [])) : unchF Z = (e, [], 0) := by
  unfold unchF
  rw [h.un, hu]
  simp [he]
theorem UnS.done {Z acc : List Int} {p q : Nat} (h : UnS Z acc p) (hq : q ≤ Z.length) (hu : unF (Z.length + 1) acc (Z.drop p) = (0, acc, Z.drop q)) : unchF Z = (0, acc, (q : Int)) := by
  unfold unchF
  rw [h.un, hu]
  simp
  omega
theorem UnS.next {Z acc : List Int} {p q : Nat} (h : UnS Z acc p) {n : Int} {r r2 : List Int} (hp : Pc acc (Z.drop p) n r r2 (Z.drop q)) (hn : n ≠ 0) (hq : q ≤ Z.length) (hr : (acc ++ r2.take n.toNat).length ≤ 8000) : UnS Z (acc ++ r2.take n.toNat) q := by
  refine ⟨?_, hq, hr⟩
  rw [h.un, unF_go hp hn]
  have l := (pc_len hp).1
  have l1 : (Z.drop q).length ≤ Z.length := by simp
  simp only [List.length_drop] at l
  exact unF_fuel _ _ _ _ (by simp; omega) (by simp; omega)
/-- What a digit is, by a byte's place. -/
theorem dig_A {c : Int} (h : c < 48) : dig c = -1 := by unfold dig; rw [if_neg (by omega), if_neg (by omega)]
theorem dig_B {c : Int} (h : 48 ≤ c) (h2 : c ≤ 57) : dig c = c - 48 := by unfold dig; rw [if_neg (by omega), if_pos (by omega)]
theorem dig_C {c : Int} (h : 57 < c) (h2 : c < 97) : dig c = -1 := by unfold dig; rw [if_neg (by omega), if_neg (by omega)]
theorem dig_D {c : Int} (h : 97 ≤ c) (h2 : c ≤ 102) : dig c = c - 87 := by unfold dig; rw [if_pos (by omega)]
theorem dig_E {c : Int} (h : 102 < c) : dig c = -1 := by unfold dig; rw [if_neg (by omega), if_neg (by omega)]
def UnV (Z : List Int) (w : World) (e : Ending) (w' : World) : Prop := ∃ v, e = .returned (.tuple #[v, .int .i64 (unchF Z).2.2, .int .i64 (unchF Z).1]) ∧ UOwn w' w.heap.size v (unchF Z).2.1 ∧ Below w.heap.size w w'
theorem unV_fault {Z : List Int} {w w' : World} {e : Int} (h : unchF Z = (e, [], 0)) (hb : Below w.heap.size w w') : UnV Z w (.returned (.tuple #[.slice none 0 0, .int .i64 0, .int .i64 e])) w' := by
  unfold UnV
  rw [h]
  exact ⟨_, rfl, Or.inl ⟨rfl, rfl⟩, hb⟩
theorem unV_done {Z acc : List Int} {w w' : World} {v : Value} {q : Int} (h : unchF Z = (0, acc, q)) (ho : UOwn w' w.heap.size v acc) (hb : Below w.heap.size w w') : UnV Z w (.returned (.tuple #[v, .int .i64 q, .int .i64 0])) w' := by
  unfold UnV
  rw [h]
  exact ⟨_, rfl, ho, hb⟩
end Go.Proofs.YtkigdhcnfdmfhafDoor
