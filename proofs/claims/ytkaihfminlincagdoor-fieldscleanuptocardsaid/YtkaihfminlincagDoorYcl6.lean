/-
  FROM THE ONE TO THE OTHER: FieldsClean, over what the developers' Clean does. No claim by itself.
-/
import Derived.Test.YtkaihfminlincagDoorYcl5
import Derived.Test.YtkaihfminlincagDoorNsame
import Derived.Deep.QuietTactic
import Derived.BigQuiet
namespace Go.Proofs.YtkaihfminlincagDoor
open Go Go.RowKit Go.Maps
set_option maxRecDepth 100000
def bConn : ByteArray := ⟨#[99, 111, 110, 110, 101, 99, 116, 105, 111, 110]⟩
def fact0 : List (ByteArray × ByteArray) := [(⟨#[99, 111, 110, 110, 101, 99, 116, 105, 111, 110]⟩, ⟨#[97, 44, 32, 98]⟩), (⟨#[98]⟩, ⟨#[49]⟩), (⟨#[99]⟩, ⟨#[]⟩)]
theorem fact_clean : cleanB fact0 = [(⟨#[99]⟩, ⟨#[]⟩)] := by decide
theorem row_made (w : World) (L : List (ByteArray × ByteArray)) (xs : Array Value) (hx : xs = (fcells L).toArray) (n : Nat) (hn : n = L.length) (hm : n ≤ maxLen) : FRow (w.alloc (.cells xs 25)) w.heap.size 0 n n L := by
  subst hx hn
  have hh : (w.alloc (.cells (fcells L).toArray 25)).heap[w.heap.size]? = some (.cells (fcells L).toArray 25 (0, 0)) := heap_alloc_new w _
  refine ⟨rfl, Nat.le_refl _, hm, fun t ht => ?_, fun t ht => ?_⟩
  · have := (fcells_at L t ht).1
    simp only [World.cell?, hh]
    simpa [Nat.mul_comm] using this
  · have := (fcells_at L t ht).2
    simp only [World.cell?, hh]
    simpa [Nat.mul_comm] using this
theorem sub_step {α : Type} {x y : α} {c l : List α} (h : (x :: c).Sublist (y :: l)) (hne : y ≠ x) : (x :: c).Sublist l := by
  cases h with
  | cons _ h => exact h
  | cons_cons _ h => exact absurd rfl hne
theorem sub_hit {α : Type} {x : α} {c l : List α} (h : (x :: c).Sublist (x :: l)) : c.Sublist l := by
  cases h with
  | cons _ h => exact List.Sublist.trans (List.sublist_cons_self _ _) h
  | cons_cons _ h => exact h
theorem clean_sub' (L : List (ByteArray × ByteArray)) : (cleanB L).Sublist L := List.filter_sublist
theorem drop_get {L : List (ByteArray × ByteArray)} {k : Nat} (h : k < L.length) : L.drop k = L.getD k fnone :: L.drop (k + 1) := by
  rw [List.drop_eq_getElem_cons h, List.getD, List.getElem?_eq_getElem h]
  rfl
theorem clean_nm {L : List (ByteArray × ByteArray)} {i : Nat} (h : i < (cleanB L).length) : btwL (unums ((cleanB L).getD i fnone).1) = false ∧ unums ((cleanB L).getD i fnone).1 ≠ lengthN := by
  have hm : (cleanB L).getD i fnone ∈ cleanB L := by rw [List.getD, List.getElem?_eq_getElem h]; exact List.getElem_mem _
  have : (unums ((cleanB L).getD i fnone).1, unums ((cleanB L).getD i fnone).2) ∈ cleanL (fdsOf L) := by
    rw [← fds_clean]
    exact List.mem_map_of_mem hm
  exact clean_names this
theorem nm_lits {n : ByteArray} (h1 : btwL (unums n) = false) (h2 : unums n ≠ lengthN) : ((n.toList == [99, 111, 110, 110, 101, 99, 116, 105, 111, 110]) = false ∧ (n.toList == [99, 111, 100, 105, 110, 103]) = false ∧ (n.toList == [107, 101, 101, 112]) = false ∧ (n.toList == [117, 112, 103, 114, 97, 100, 101]) = false ∧ (n.toList == [108, 101, 110, 103, 116, 104]) = false) := by
  have hx := of_decide_eq_false h1
  refine ⟨?_, ?_, ?_, ?_, ?_⟩ <;> rw [beq_eq_false_iff_ne]
  · exact fun e => hx (Or.inl (yL_conn.1 e))
  · exact fun e => hx (Or.inr (Or.inl (yL_coding.1 e)))
  · exact fun e => hx (Or.inr (Or.inr (Or.inl (yL_keep.1 e))))
  · exact fun e => hx (Or.inr (Or.inr (Or.inr (yL_upgrade.1 e))))
  · exact fun e => h2 (yL_length.1 e)
theorem ycells_one (L : List (ByteArray × ByteArray)) : ∀ u ∈ fcells L, u.oneCell' = true := by
  intro u hu
  obtain ⟨f, _, hf⟩ := List.mem_flatMap.1 hu
  simp at hf
  rcases hf with rfl | rfl <;> rfl
/-- Append of a row of fields. -/
theorem wpList_fapps {ops : Array Oper} {rest : List Oper} {o : Oper} {a : Act} {Q : Exit → Act → World → Prop} (w : World) (hgd : o.guard = none) (s x : Operand)
    (ho : o.op = .call { callee := .builtin .append, args := #[s, x], argTypes := #[22, 22] }) (base : Nat) (v : Value) (FL : List (ByteArray × ByteArray)) (L : List (ByteArray × ByteArray)) (xa : Option Addr) (len cap : Nat) (hs : a.eval s = v) (hown : FOwn w base v FL)
    (hx : a.eval x = .slice xa len cap) (hz : xa = none → cap = 0) (hA : FArg w xa len cap L) (hlen : FL.length + len < 4398046511104) (hbase : base ≤ w.heap.size)
    (h : ∀ v' w', FOwn w' base v' (FL ++ L) → w.grownBy w' v.ownBlock → wpList Tryd.prog ops Q rest (a.put o.dst v') w') : wpList Tryd.prog ops Q (o :: rest) a w := by
  obtain ⟨i0, hi, hz0, hz1, hz2⟩ := info_parts n_infoF
  cases xa with
  | none =>
    have hc := hz rfl
    subst hc
    rcases hA with ⟨rfl, rfl⟩ | ⟨g, off, hg, _⟩
    · refine wpList_append_own_none hgd s x 22 ho base 25 i0 2 Tryd.underlying22 hi v FL.length _ hs hown hx ?_
      exact h v w (by rw [List.append_nil]; exact hown) (World.grownBy.refl w _)
    · cases hg
  | some ad =>
    refine wpList_append_own _ hgd s x 22 ho base 25 i0 (.agg #[.string ⟨#[]⟩, .string ⟨#[]⟩]) 2 32 Tryd.underlying22 hi hz0 hz1 hz2 rfl (by decide) v FL.length _ hs hown ad len cap (fcells L) hx ?_ ?_ ?_ (by unfold maxLen; omega) (by omega) hbase ?_
    · rw [fcells_len, hA.len]
    · intro j y hj
      rcases hA with ⟨rfl, rfl⟩ | ⟨g, off, hg, hr⟩
      · simp [fcells] at hj
      · cases hg
        have hjl : j < (fcells L).length := by
          rcases Nat.lt_or_ge j (fcells L).length with h1 | h1
          · exact h1
          · rw [List.getElem?_eq_none h1] at hj; cases hj
        rw [fcells_len, hr.hlen] at hjl
        rw [n_add]
        rcases Nat.mod_two_eq_zero_or_one j with e | e
        · have hc := hr.hname (j / 2) (by omega)
          have hf := (fcells_at L (j / 2) (by rw [hr.hlen]; omega)).1
          rw [show 2 * (j / 2) = j by omega, hj] at hf
          rw [show off + j = off + j / 2 * 2 by omega, hc, hf]
        · have hc := hr.hvalue (j / 2) (by omega)
          have hf := (fcells_at L (j / 2) (by rw [hr.hlen]; omega)).2
          rw [show 2 * (j / 2) + 1 = j by omega, hj] at hf
          rw [show off + j = off + j / 2 * 2 + 1 by omega, hc, hf]
    · intro y hy
      exact ycells_one L y hy
    · intro v' w' h1 h2 _
      refine h v' w' ?_ h2
      rw [← fcells_append] at h1
      show World.ownsRow _ _ _ _ _ _ _
      rw [List.length_append, hA.len]
      exact h1
end Go.Proofs.YtkaihfminlincagDoor
