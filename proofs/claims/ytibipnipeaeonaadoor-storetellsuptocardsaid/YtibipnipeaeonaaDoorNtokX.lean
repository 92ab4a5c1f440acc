/-
  MESSAGES AS LINES: the document's small, great, Token, Plain, Word, Name. No claim by itself.
-/
import Derived.BigQuiet
import Derived.Deep.QuietTactic
import Derived.Test.YtibipnipeaeonaaDoorMC
namespace Go.Proofs.YtibipnipeaeonaaDoor
open Go.RowKit
set_option maxRecDepth 100000
theorem unums_at (s : ByteArray) (k : Nat) (h : k < s.size) : ∀ h, ((s[k]'h).toNat : Int) = (unums s).getD k 0 := by
  intro h'
  have hk : k < s.data.toList.length := by rw [Array.length_toList]; exact h
  simp only [unums, List.getD, List.getElem?_map, List.getElem?_eq_getElem hk, Option.map_some, Option.getD_some]
  rfl
theorem all_getD {Z : List Int} {f : Int → Bool} : (∀ t, t < Z.length → f (Z.getD t 0) = true) ↔ Z.all f = true := by
  rw [List.all_eq_true]
  constructor
  · intro h x hx
    obtain ⟨i, hi, rfl⟩ := List.getElem_of_mem hx
    have := h i hi
    simpa [List.getD, List.getElem?_eq_getElem hi] using this
  · intro h t ht
    have : Z.getD t 0 ∈ Z := by
      rw [List.getD, List.getElem?_eq_getElem ht]
      exact List.getElem_mem _
    exact h _ this
theorem all_no {Z : List Int} {f : Int → Bool} {t : Nat} (ht : t < Z.length) (h : f (Z.getD t 0) = false) : Z.all f = false := by
  cases hz : Z.all f
  · rfl
  · have := all_getD.2 hz t ht
    rw [h] at this
    cases this
theorem toL_eq {s t : ByteArray} : s.toList = t.toList ↔ s = t := by
  rw [ByteArray.toList_eq, ByteArray.toList_eq]
  constructor
  · intro h
    apply ByteArray.ext
    exact Array.ext' h
  · rintro rfl; rfl
theorem toL_nil {s : ByteArray} : s.toList = [] ↔ unums s = [] := by
  rw [ByteArray.toList_eq]
  unfold unums
  simp
theorem head_at {Z : List Int} (h : Z ≠ []) : Z.headD 0 = Z.getD 0 0 := by
  match Z, h with
  | c :: r, _ => rfl
theorem last_at {Z : List Int} (_h : Z ≠ []) : Z.getLastD 0 = Z.getD (Z.length - 1) 0 := by
  rw [List.getLastD_eq_getLast?, List.getLast?_eq_getElem?]
  rfl
end Go.Proofs.YtibipnipeaeonaaDoor
