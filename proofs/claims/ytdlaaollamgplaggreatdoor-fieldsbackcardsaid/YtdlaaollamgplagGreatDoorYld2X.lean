/-
  FROM THE ONE TO THE OTHER: the developers' lead. No claim by itself.
-/
import Derived.Test.YtdlaaollamgplagGreatDoorYldX
namespace Go.Proofs.YtdlaaollamgplagGreatDoor
open Go Go.RowKit Go.Maps
set_option maxRecDepth 100000
def fstB (L : List (ByteArray × ByteArray)) (p : Nat) : List (List Int) := ((fdsOf L).take p).map Prod.fst
theorem fds_get {L : List (ByteArray × ByteArray)} {k : Nat} (h : k < L.length) : (fdsOf L)[k]? = some (unums (L.getD k fnone).1, unums (L.getD k fnone).2) := by
  unfold fdsOf
  rw [List.getElem?_map, List.getElem?_eq_getElem h, List.getD, List.getElem?_eq_getElem h]
  rfl
theorem fst_succ {L : List (ByteArray × ByteArray)} {k : Nat} (h : k < L.length) : fstB L (k + 1) = fstB L k ++ [unums (L.getD k fnone).1] := by
  unfold fstB
  rw [List.take_add_one, fds_get h]
  simp
theorem fst_len {L : List (ByteArray × ByteArray)} {k : Nat} (h : k ≤ L.length) : (fstB L k).length = k := by
  unfold fstB
  rw [List.length_map, List.length_take, fds_len]
  omega
/-- How far the list was looked at: the first p begin with ':' and differ; behind them none does. -/
structure LdI (L : List (ByteArray × ByteArray)) (p k : Nat) : Prop where
  le : p ≤ k
  yes : ∀ f ∈ (fdsOf L).take p, psdL f.1 = true
  no : ∀ t, p ≤ t → t < k → psdL (unums (L.getD t fnone).1) = false
  nod : (fstB L p).Nodup
theorem ldi_nil (L : List (ByteArray × ByteArray)) : LdI L 0 0 := ⟨Nat.le_refl _, by simp, fun t _ h => by omega, by simp [fstB]⟩
theorem ldi_no {L : List (ByteArray × ByteArray)} {p k : Nat} (h : LdI L p k) (hn : psdL (unums (L.getD k fnone).1) = false) : LdI L p (k + 1) :=
  ⟨by have := h.le; omega, h.yes, fun t h1 h2 => by
    by_cases e : t = k
    · rw [e]; exact hn
    · exact h.no t h1 (by omega), h.nod⟩
theorem ldi_yes {L : List (ByteArray × ByteArray)} {k : Nat} (h : LdI L k k) (hk : k < L.length) (hy : psdL (unums (L.getD k fnone).1) = true) (hn : unums (L.getD k fnone).1 ∉ fstB L k) : LdI L (k + 1) (k + 1) := by
  refine ⟨Nat.le_refl _, fun f hf => ?_, fun t h1 h2 => by omega, ?_⟩
  · rw [List.take_add_one, fds_get hk] at hf
    rcases List.mem_append.1 hf with h1 | h1
    · exact h.yes f h1
    · simp at h1
      rw [h1]
      exact hy
  · rw [fst_succ hk, List.nodup_append]
    exact ⟨h.nod, by simp, fun a ha b hb => by simp at hb; rw [hb]; exact fun e => hn (e ▸ ha)⟩
theorem ldi_bad {L : List (ByteArray × ByteArray)} {p k : Nat} {names : List (List Int)} (h : LdI L p k) (hk : k < L.length) (hy : psdL (unums (L.getD k fnone).1) = true) (hb : (if unums (L.getD k fnone).1 ∈ fstB L p then p else p + 1) ≠ k + 1) : ¬ LeadOk names (fdsOf L) := by
  have hle := h.le
  by_cases hpk : p < k
  · exact lead_not1 (fds_get (by omega)) (h.no p (Nat.le_refl _) hpk) (fds_get hk) hy hpk
  · obtain rfl : p = k := by omega
    split at hb
    · rename_i hm
      obtain ⟨i, hi, he⟩ := List.getElem_of_mem hm
      rw [fst_len (by omega)] at hi
      refine lead_not2 (i := i) (fds_get (by omega)) (fds_get hk) hy hi ?_
      show unums (L.getD i fnone).1 = unums (L.getD p fnone).1
      have h2 := fds_get (L := L) (k := i) (by omega)
      have h3 : (fstB L p)[i]? = some (unums (L.getD i fnone).1) := by
        unfold fstB
        rw [List.getElem?_map, List.getElem?_take, if_pos hi, h2]
        rfl
      rw [List.getElem?_eq_getElem (by rw [fst_len (by omega)]; exact hi), he] at h3
      exact (Option.some.inj h3).symm
    · exact absurd rfl hb
theorem ldi_end {L : List (ByteArray × ByteArray)} {p : Nat} {names : List (List Int)} (h : LdI L p L.length) : LeadOk names (fdsOf L) ↔ p = names.length ∧ ∀ n ∈ names, n ∈ fstB L p := by
  refine lead_split (by rw [fds_len]; exact h.le) h.yes (fun f hf => ?_) h.nod
  obtain ⟨i, hi, he⟩ := List.getElem_of_mem hf
  rw [List.length_drop, fds_len] at hi
  have := h.no (p + i) (by omega) (by omega)
  have h2 := fds_get (L := L) (k := p + i) (by omega)
  rw [List.getElem_drop] at he
  rw [List.getElem?_eq_getElem (by rw [fds_len]; omega), he] at h2
  rw [Option.some.inj h2]
  exact this
def LeadE (L : List (ByteArray × ByteArray)) (names : List (List Int)) (w : World) (e : Ending) (w' : World) : Prop :=
  (∃ mb c D, e = .returned (.tuple #[.map (some mb), .bool true]) ∧ LeadOk names (fdsOf L) ∧ MOwn w' mb c D ∧ LdM D (fstB L names.length) ∧ Maps.size D = names.length ∧ Below w.heap.size w w') ∨
  (∃ v, e = .returned (.tuple #[v, .bool false]) ∧ ¬ LeadOk names (fdsOf L) ∧ Below w.heap.size w w')
end Go.Proofs.YtdlaaollamgplagGreatDoor
