/-
  FROM THE ONE TO THE OTHER: the developers' isBetween, isLength, isCookie; without. No claim by itself.
-/
import Derived.Test.YtkaihfminlincagDoorXown
import Derived.Test.YtkaihfminlincagDoorNask
import Derived.Test.YtkaihfminlincagDoorNdv1
import Derived.Test.YtkaihfminlincagDoorYmath2
namespace Go.Proofs.YtkaihfminlincagDoor
open Go Go.RowKit
set_option maxRecDepth 100000
theorem yL_conn {n : ByteArray} : n.toList = [99, 111, 110, 110, 101, 99, 116, 105, 111, 110] ↔ unums n = connN := toL_lit
theorem yL_coding {n : ByteArray} : n.toList = [99, 111, 100, 105, 110, 103] ↔ unums n = codingN := toL_lit
theorem yL_keep {n : ByteArray} : n.toList = [107, 101, 101, 112] ↔ unums n = keepX := toL_lit
theorem yL_upgrade {n : ByteArray} : n.toList = [117, 112, 103, 114, 97, 100, 101] ↔ unums n = upgradeN := toL_lit
theorem yL_cookie {n : ByteArray} : n.toList = [99, 111, 111, 107, 105, 101] ↔ unums n = cookieN := toL_lit
theorem yL_length {n : ByteArray} : n.toList = [108, 101, 110, 103, 116, 104] ↔ unums n = lengthN := toL_lit
theorem yL_host {n : ByteArray} : n.toList = [104, 111, 115, 116] ↔ unums n = hostN := toL_lit
def fldV (n v : ByteArray) : Value := .agg #[.string n, .string v]
theorem xbtw_any (n v : ByteArray) (w : World) : Calls Tryd.prog 9 #[.agg #[.string n, .string v]] w fun e w' => e = .returned (.bool (btwL (unums n))) ∧ Below w.heap.size w w' := by
  by_cases q1 : n.toList = [99, 111, 110, 110, 101, 99, 116, 105, 111, 110]
  · have e : btwL (unums n) = true := decide_eq_true (Or.inl (yL_conn.1 q1))
    rw [e]
    go_enter Tryd.func9, Tryd.ntmps9
    go_wp2
    go_ret
    exact ⟨rfl, (Below.refl _ w).alloc (Nat.le_refl _) _⟩
  · have q1' : (n.toList == [99, 111, 110, 110, 101, 99, 116, 105, 111, 110]) = false := by simpa using q1
    by_cases q2 : n.toList = [99, 111, 100, 105, 110, 103]
    · have e : btwL (unums n) = true := decide_eq_true (Or.inr (Or.inl (yL_coding.1 q2)))
      rw [e]
      go_enter Tryd.func9, Tryd.ntmps9
      go_wp2
      go_ret
      exact ⟨rfl, (Below.refl _ w).alloc (Nat.le_refl _) _⟩
    · have q2' : (n.toList == [99, 111, 100, 105, 110, 103]) = false := by simpa using q2
      by_cases q3 : n.toList = [107, 101, 101, 112]
      · have e : btwL (unums n) = true := decide_eq_true (Or.inr (Or.inr (Or.inl (yL_keep.1 q3))))
        rw [e]
        go_enter Tryd.func9, Tryd.ntmps9
        go_wp2
        go_ret
        exact ⟨rfl, (Below.refl _ w).alloc (Nat.le_refl _) _⟩
      · have q3' : (n.toList == [107, 101, 101, 112]) = false := by simpa using q3
        by_cases q4 : n.toList = [117, 112, 103, 114, 97, 100, 101]
        · have e : btwL (unums n) = true := decide_eq_true (Or.inr (Or.inr (Or.inr (yL_upgrade.1 q4))))
          rw [e]
          go_enter Tryd.func9, Tryd.ntmps9
          go_wp2
          go_ret
          exact ⟨rfl, (Below.refl _ w).alloc (Nat.le_refl _) _⟩
        · have q4' : (n.toList == [117, 112, 103, 114, 97, 100, 101]) = false := by simpa using q4
          have e : btwL (unums n) = false := decide_eq_false (by
            rintro (h | h | h | h)
            · exact q1 (yL_conn.2 h)
            · exact q2 (yL_coding.2 h)
            · exact q3 (yL_keep.2 h)
            · exact q4 (yL_upgrade.2 h))
          rw [e]
          go_enter Tryd.func9, Tryd.ntmps9
          go_wp2
          go_ret
          exact ⟨rfl, (Below.refl _ w).alloc (Nat.le_refl _) _⟩
theorem xlen_any (n v : ByteArray) (w : World) : Calls Tryd.prog 10 #[.agg #[.string n, .string v]] w fun e w' => e = .returned (.bool (isLn (unums n, unums v))) ∧ Below w.heap.size w w' := by
  by_cases q1 : n.toList = [108, 101, 110, 103, 116, 104]
  · have e : isLn (unums n, unums v) = true := decide_eq_true (yL_length.1 q1)
    rw [e]
    go_enter Tryd.func10, Tryd.ntmps10
    go_wp2
    go_ret
    exact ⟨rfl, (Below.refl _ w).alloc (Nat.le_refl _) _⟩
  · have q1' : (n.toList == [108, 101, 110, 103, 116, 104]) = false := by simpa using q1
    have e : isLn (unums n, unums v) = false := decide_eq_false (fun h => q1 (yL_length.2 h))
    rw [e]
    go_enter Tryd.func10, Tryd.ntmps10
    go_wp2
    go_ret
    exact ⟨rfl, (Below.refl _ w).alloc (Nat.le_refl _) _⟩
/-- A function value that tells p of each field, as long as what lay in w lies. -/
def PrdF (w : World) (F : Value) (p : Fd → Bool) : Prop :=
  ∃ (g : Nat) (lb : Array Value), F = .func (.func g) #[] lb ∧ (∀ args w, (callFunc g args).run Tryd.prog w = .ok (.enter g args) w) ∧
    ∀ (W : World) (n v : ByteArray), n.size ≤ 140737488351232 → Below w.heap.size w W → Calls Tryd.prog g (#[.agg #[.string n, .string v]] ++ lb) W fun e w' => e = .returned (.bool (p (unums n, unums v))) ∧ Below W.heap.size W w'
theorem prd_len (w : World) : PrdF w (.func (.func 10) #[] #[]) isLn :=
  ⟨10, #[], rfl, enters_of Tryd.func10 (by kernel_rfl) rfl, fun W n v _ _ => xlen_any n v W⟩
/-- Append of one field. -/
theorem wpList_fapp {ops : Array Oper} {rest : List Oper} {o : Oper} {a : Act} {Q : Exit → Act → World → Prop} (w : World) (hgd : o.guard = none) (s x : Operand)
    (ho : o.op = .call { callee := .builtin .append, args := #[s, x], argTypes := #[22, 22] }) (base : Nat) (v : Value) (FL : List (ByteArray × ByteArray)) (n u : ByteArray) (hs : a.eval s = v) (hown : FOwn w base v FL)
    (hx : a.eval x = .slice (some ⟨w.heap.size, 0, none⟩) 1 1) (hlen : FL.length < 4398046511104) (hbase : base ≤ w.heap.size)
    (h : ∀ v' w', FOwn w' base v' (FL ++ [(n, u)]) → (w.alloc (.cells #[.string n, .string u] 25)).grownBy w' v.ownBlock → wpList Tryd.prog ops Q rest (a.put o.dst v') w') : wpList Tryd.prog ops Q (o :: rest) a (w.alloc (.cells #[.string n, .string u] 25)) := by
  obtain ⟨i0, hi, hz0, hz1, hz2⟩ := info_parts n_infoF
  refine wpList_append_own _ hgd s x 22 ho base 25 i0 (.agg #[.string ⟨#[]⟩, .string ⟨#[]⟩]) 2 32 Tryd.underlying22 hi hz0 hz1 hz2 rfl (by decide) v FL.length _ hs (hown.alloc _) ⟨w.heap.size, 0, none⟩ 1 1 [.string n, .string u] hx rfl ?_ ?_ (by unfold maxLen; omega) (by omega) (by rw [World.size_alloc]; omega) ?_
  · intro j y hj
    have hh : (w.alloc (.cells #[.string n, .string u] 25)).heap[w.heap.size]? = some (.cells #[.string n, .string u] 25 (0, 0)) := heap_alloc_new w _
    rw [n_add]
    simp only [World.cell?, hh, Nat.zero_add]
    match j with
    | 0 => exact hj
    | 1 => exact hj
    | j + 2 => simp at hj
  · intro y hy
    simp at hy
    rcases hy with rfl | rfl <;> rfl
  · intro v' w' h1 h2 _
    refine h v' w' ?_ h2
    have hfc : fcells FL ++ [Value.string n, .string u] = fcells (FL ++ [(n, u)]) := by rw [fcells_append]; rfl
    rw [hfc] at h1
    show World.ownsRow _ _ _ _ _ _ _
    rw [show (FL ++ [(n, u)]).length = FL.length + 1 by simp]
    exact h1
theorem ftake_succ {L : List (ByteArray × ByteArray)} {k : Nat} (h : k < L.length) (p : ByteArray × ByteArray → Bool) : (L.take (k + 1)).filter p = (L.take k).filter p ++ if p (L.getD k fnone) = true then [L.getD k fnone] else [] := by
  rw [List.take_add_one, List.getElem?_eq_getElem h, List.filter_append, List.getD, List.getElem?_eq_getElem h]
  simp only [Option.toList, Option.getD]
  split
  · rename_i hp; simp [hp]
  · rename_i hp; simp [hp]
def kpF (p : Fd → Bool) (f : ByteArray × ByteArray) : Bool := !p (unums f.1, unums f.2)
theorem fds_filter (L : List (ByteArray × ByteArray)) (p : Fd → Bool) : fdsOf (L.filter (kpF p)) = (fdsOf L).filter fun f => !p f := by
  unfold fdsOf
  rw [List.filter_map]
  rfl
end Go.Proofs.YtkaihfminlincagDoor
