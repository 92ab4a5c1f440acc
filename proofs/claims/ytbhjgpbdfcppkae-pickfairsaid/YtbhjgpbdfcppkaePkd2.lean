/-
  WHOSE TURN IT IS: the Go functions ahead, Next and least of package pick. No claim by itself.
-/
import Derived.Test.YtbhjgpbdfcppkaePkd1
import Derived.BigQuiet
import Derived.Deep.QuietTactic
namespace Go.Proofs.Ytbhjgpbdfcppkae
open Go.RowKit Go.Maps
set_option maxRecDepth 100000
theorem wf_i64 {a : Int} (h : I64 a) : (Lit.int .i64 a).wf = true := by
  unfold I64 at h
  simp [Lit.wf, IntKind.min, IntKind.max, IntKind.bits, IntKind.signed]
  omega
theorem key_i64 {a : Int} (h : I64 a) : keyOf Try.prog 3 (.int .i64 a) = some (pkK a) := keyOf_int_mk Try.underlying3 (wf_i64 h)
section
variable {w : World} {pb mb : Nat} {D : Dat} {L : PL} (h : PkM w pb mb D L) {id : Int} (hi : I64 id)
include h hi
theorem PkM.look {o : PkO} (hf : pkFind L id = some o) : (Instr.lookup 49 (.map (some mb)) (.int .i64 id) false).run Try.prog w = .ok (.agg #[.int .i64 o.wt, .int .i64 o.sc, .bool o.wants]) w := by
  obtain ⟨v, ps, hrun, hv⟩ := h.own.lookup klaw Try.underlying49 (kzero w) (oneElem_mk 0 0 false) (key_i64 hi)
  rw [h.rel.at_, hf] at hv
  obtain ⟨a, b, c, rfl, e⟩ := oneElem_inv hv
  obtain ⟨e1, e2, e3⟩ := oneD_inj (congrArg Prod.fst e)
  rw [e1, e2, e3]
  exact hrun
theorem PkM.look0 (hf : pkFind L id = none) : (Instr.lookup 49 (.map (some mb)) (.int .i64 id) false).run Try.prog w = .ok (.agg #[.int .i64 0, .int .i64 0, .bool false]) w := by
  obtain ⟨v, ps, hrun, hv⟩ := h.own.lookup klaw Try.underlying49 (kzero w) (oneElem_mk 0 0 false) (key_i64 hi)
  rw [h.rel.at_, hf] at hv
  obtain ⟨a, b, c, rfl, e⟩ := oneElem_inv hv
  obtain ⟨e1, e2, e3⟩ := oneD_inj (congrArg Prod.fst e)
  subst e1 e2 e3
  exact hrun
theorem PkM.lookk {o : PkO} (hf : pkFind L id = some o) : (Instr.lookup 49 (.map (some mb)) (.int .i64 id) true).run Try.prog w = .ok (.tuple #[.agg #[.int .i64 o.wt, .int .i64 o.sc, .bool o.wants], .bool true]) w := by
  obtain ⟨v, ps, hrun, hv⟩ := h.own.look_ok klaw Try.underlying49 (kzero w) (oneElem_mk 0 0 false) (key_i64 hi)
  rw [h.rel.some_ hf] at hrun
  rw [h.rel.at_, hf] at hv
  obtain ⟨a, b, c, rfl, e⟩ := oneElem_inv hv
  obtain ⟨e1, e2, e3⟩ := oneD_inj (congrArg Prod.fst e)
  rw [e1, e2, e3]
  exact hrun
theorem PkM.lookk0 (hf : pkFind L id = none) : (Instr.lookup 49 (.map (some mb)) (.int .i64 id) true).run Try.prog w = .ok (.tuple #[.agg #[.int .i64 0, .int .i64 0, .bool false], .bool false]) w := by
  obtain ⟨v, ps, hrun, hv⟩ := h.own.look_ok klaw Try.underlying49 (kzero w) (oneElem_mk 0 0 false) (key_i64 hi)
  rw [h.rel.none_ hf] at hrun
  rw [h.rel.at_, hf] at hv
  obtain ⟨a, b, c, rfl, e⟩ := oneElem_inv hv
  obtain ⟨e1, e2, e3⟩ := oneD_inj (congrArg Prod.fst e)
  subst e1 e2 e3
  exact hrun
end
theorem fld_one (a b : Int) (c : Bool) (w : World) : (Instr.field 53 (.agg #[.int .i64 a, .int .i64 b, .bool c]) 1).run Try.prog w = .ok (.int .i64 b) w := by kernel_rfl
theorem dN_below {B : Nat} {w w' : World} (h : Below B w w') : ∀ n, Below B w (w'.drewN n)
  | 0 => h
  | n + 1 => by
    have := dN_below h n
    exact ⟨this.os, this.tape, this.output, this.size, this.block⟩
theorem PkM.drewN {w : World} {pb mb : Nat} {D : Dat} {L : PL} (h : PkM w pb mb D L) (n : Nat) : PkM (w.drewN n) pb mb D L := h.below (Nat.le_refl _) (dN_below (Below.refl _ w) n)
theorem ahead_any {w : World} {pb mb : Nat} {D : Dat} {L : PL} (h : PkM w pb mb D L) (hI : PkI L) {x y : PkO} (hx : x ∈ L) (hy : y ∈ L) :
    Calls Try.prog 20 #[kptr pb, .int .i64 x.id, .int .i64 y.id] w fun e w' => e = .returned (.bool (pkb x y)) ∧ Below w.heap.size w w' := by
  have i1 : I64 x.id := by have := hI.each x hx; unfold I64; omega
  have i2 : I64 y.id := by have := hI.each y hy; unfold I64; omega
  have c0 := h.c0
  have l1 := fun n => (h.drewN n).look i1 (find_mem hI.nodup hx)
  have l2 := fun n => (h.drewN n).look i2 (find_mem hI.nodup hy)
  have hfd := fld_one
  clear h i1 i2 hI hx hy
  obtain ⟨xi, xw, xs, xv⟩ := x
  obtain ⟨yi, yw, ys, yv⟩ := y
  unfold pkb kptr
  simp only at *
  by_cases b1 : xs < ys
  · rw [show (decide (xs < ys) || decide (xs = ys) && decide (xi < yi)) = true by simp [b1]]
    go_enter Try.func20, Try.ntmps20
    go_wp2_with fail
    go_quiet (fail)
    go_wp2
    go_ret
    exact ⟨rfl, dN_below (Below.refl _ _) _⟩
  by_cases b2 : xs = ys
  · subst b2
    by_cases b3 : xi < yi
    · rw [show (decide (xs < xs) || decide (xs = xs) && decide (xi < yi)) = true by simp [b3]]
      go_enter Try.func20, Try.ntmps20
      go_wp2_with fail
      go_quiet (fail)
      go_wp2
      go_ret
      exact ⟨rfl, dN_below (Below.refl _ _) _⟩
    · rw [show (decide (xs < xs) || decide (xs = xs) && decide (xi < yi)) = false by simp [b3]]
      go_enter Try.func20, Try.ntmps20
      go_wp2_with fail
      go_quiet (fail)
      go_wp2
      go_ret
      exact ⟨by show Ending.returned (Value.bool (decide (xi < yi))) = _; rw [decide_eq_false (by omega)], dN_below (Below.refl _ _) _⟩
  · rw [show (decide (xs < ys) || decide (xs = ys) && decide (xi < yi)) = false by simp [b1, b2]]
    go_enter Try.func20, Try.ntmps20
    go_wp2_with fail
    go_quiet (fail)
    go_wp2
    go_ret
    exact ⟨by show Ending.returned (Value.bool (decide (xs < ys))) = _; rw [decide_eq_false (by omega)], dN_below (Below.refl _ _) _⟩
end Go.Proofs.Ytbhjgpbdfcppkae
