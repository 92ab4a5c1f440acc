/-
  WHAT WAS DONE: sums of entries, and their closure. No claim by itself.
-/
import Derived.Test.YteohgkgahkkjlaaDoorI2
namespace Go.Proofs.YteohgkgahkkjlaaDoor
open Go Go.RowKit
set_option maxRecDepth 100000
def sumF (f : Et → Int) : List Et → Int
  | [] => 0
  | x :: r => f x + sumF f r
theorem sumF_app (f : Et → Int) : ∀ (L : List Et) (x : Et), sumF f (L ++ [x]) = sumF f L + f x
  | [], x => by simp [sumF]
  | y :: r, x => by
    show f y + sumF f (r ++ [x]) = f y + sumF f r + f x
    rw [sumF_app f r x]
    omega
theorem etake_more {L : List Et} {k : Nat} (h : k < L.length) : L.take (k + 1) = L.take k ++ [L.getD k etn] := by
  rw [List.take_add_one, List.getD, List.getElem?_eq_getElem h]
  rfl
theorem sumF_more (f : Et → Int) {L : List Et} {k : Nat} (h : k < L.length) : sumF f (L.take (k + 1)) = sumF f (L.take k) + f (L.getD k etn) := by rw [etake_more h, sumF_app]
theorem sumF_add {f g h : Et → Int} (e : ∀ x, f x + g x = h x) : ∀ L, sumF f L + sumF g L = sumF h L
  | [] => by simp [sumF]
  | x :: r => by
    have h1 := e x
    have h2 := sumF_add e r
    show f x + sumF f r + (g x + sumF g r) = h x + sumF h r
    omega
def inS (a b : Int) (x : Et) : Bool := decide (a ≤ x.t) && decide (x.t < b)
def fN (a b : Int) (x : Et) : Int := if inS a b x = true then 1 else 0
def fB (a b : Int) (x : Et) : Int := if inS a b x = true then x.b else 0
def fX (a b : Int) (x : Et) : Int := if inS a b x = true then (if 500 ≤ x.c then 1 else 0) else 0
theorem ins_add {a b c : Int} (h1 : a ≤ b) (h2 : b ≤ c) (x : Et) : (inS a b x = true ∧ inS b c x = false ∧ inS a c x = true) ∨ (inS a b x = false ∧ inS b c x = true ∧ inS a c x = true) ∨ (inS a b x = false ∧ inS b c x = false ∧ inS a c x = false) := by
  unfold inS
  simp only [Bool.and_eq_true, Bool.and_eq_false_iff, decide_eq_true_eq, decide_eq_false_iff_not]
  omega
theorem fN_add {a b c : Int} (h1 : a ≤ b) (h2 : b ≤ c) (x : Et) : fN a b x + fN b c x = fN a c x := by
  unfold fN
  rcases ins_add h1 h2 x with ⟨e1, e2, e3⟩ | ⟨e1, e2, e3⟩ | ⟨e1, e2, e3⟩ <;> rw [e1, e2, e3] <;> simp
theorem fB_add {a b c : Int} (h1 : a ≤ b) (h2 : b ≤ c) (x : Et) : fB a b x + fB b c x = fB a c x := by
  unfold fB
  rcases ins_add h1 h2 x with ⟨e1, e2, e3⟩ | ⟨e1, e2, e3⟩ | ⟨e1, e2, e3⟩ <;> rw [e1, e2, e3] <;> simp
theorem fX_add {a b c : Int} (h1 : a ≤ b) (h2 : b ≤ c) (x : Et) : fX a b x + fX b c x = fX a c x := by
  unfold fX
  rcases ins_add h1 h2 x with ⟨e1, e2, e3⟩ | ⟨e1, e2, e3⟩ | ⟨e1, e2, e3⟩ <;> rw [e1, e2, e3] <;> simp
/-- What Sum answers. -/
def SumP (L : List Et) (a b : Int) (e : Ending) : Prop :=
  (chkL L = 0 ∧ e = .returned (.tuple #[.int .i64 (sumF (fN a b) L), .int .i64 (sumF (fB a b) L), .int .i64 (sumF (fX a b) L), .nilIface]))
  ∨ (chkL L ≠ 0 ∧ e = .returned (.tuple #[.int .i64 0, .int .i64 0, .int .i64 0, errW (chkL L)]))
theorem chkL_ok {L : List Et} (h : chkL L = 0) : L.length ≤ 1000 ∧ ∀ t, t < L.length → chkT (L.getD t etn) = 0 := by
  unfold chkL at h
  by_cases hl : 1000 < L.length
  · rw [if_pos hl] at h
    omega
  · rw [if_neg hl] at h
    exact ⟨by omega, chkA_all L h⟩
theorem gsum1_any (t c b k : Int) (m p : ByteArray) (x y : Int) (gx gy : Nat) (w : World) (hx : w.cell? ⟨gx, 0, none⟩ = some (.int .i64 x)) (hy : w.cell? ⟨gy, 0, none⟩ = some (.int .i64 y)) :
    Calls Tryd.prog 17 #[entV t c b k m p, .pointer (some ⟨gx, 0, none⟩), .pointer (some ⟨gy, 0, none⟩)] w fun e w' => e = .returned (.bool (decide (x ≤ t) && decide (t < y))) ∧ Below w.heap.size w w' := by
  unfold entV
  obtain ⟨W1, hW1⟩ : ∃ W1, W1 = w.alloc (.cells #[.int .i64 t, .int .i64 c, .int .i64 b, .int .i64 k, .string m, .string p] 23) := ⟨_, rfl⟩
  have HB1 : Vl (Below w.heap.size w W1) := by rw [hW1]; exact (Below.refl _ w).alloc (Nat.le_refl _) _
  have HX1 : Vl (EnB W1 w.heap.size t c b k m p) := by rw [hW1]; exact heap_alloc_new w _
  obtain ⟨d0, _, _, _, _, _⟩ := HX1.out.cells
  have hx1 : W1.cell? ⟨gx, 0, none⟩ = some (.int .i64 x) := (HB1.out.cell (p := ⟨gx, 0, none⟩) (eblk_of_cell hx)).trans hx
  have hy1 : W1.cell? ⟨gy, 0, none⟩ = some (.int .i64 y) := (HB1.out.cell (p := ⟨gy, 0, none⟩) (eblk_of_cell hy)).trans hy
  clear hx hy
  by_cases h1 : x ≤ t
  · by_cases h2 : t < y
    · rw [decide_eq_true h1, decide_eq_true h2]
      go_enter Tryd.func17, Tryd.ntmps17
      go_upto_region 1 with fail
      rw [← hW1]
      clear hW1
      go_wp2_with fail
      go_ret
      exact ⟨rfl, HB1.out⟩
    · rw [decide_eq_true h1, decide_eq_false h2]
      go_enter Tryd.func17, Tryd.ntmps17
      go_upto_region 1 with fail
      rw [← hW1]
      clear hW1
      go_wp2_with fail
      go_ret
      exact ⟨rfl, HB1.out⟩
  · rw [decide_eq_false h1]
    go_enter Tryd.func17, Tryd.ntmps17
    go_upto_region 1 with fail
    rw [← hW1]
    clear hW1
    go_wp2_with fail
    go_ret
    exact ⟨rfl, HB1.out⟩
end Go.Proofs.YteohgkgahkkjlaaDoor
