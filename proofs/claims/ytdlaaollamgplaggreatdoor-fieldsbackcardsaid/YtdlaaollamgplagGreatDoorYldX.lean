/-
  FROM THE ONE TO THE OTHER: the developers' lead. No claim by itself.
-/
import Derived.Test.YtdlaaollamgplagGreatDoorG6
import Derived.Test.YtdlaaollamgplagGreatDoorYmath3X
namespace Go.Proofs.YtdlaaollamgplagGreatDoor
open Go Go.RowKit Go.Maps
set_option maxRecDepth 100000
theorem psd_head {n : ByteArray} : psdL (unums n) = decide (n.toList.take 1 = [58]) := by
  rw [ByteArray.toList_eq]
  unfold unums
  cases h : n.data.toList with
  | nil => rfl
  | cons c r =>
    show decide ((c.toNat : Int) = 58) = decide ([c] = [58])
    by_cases e : c = 58
    · subst e; rfl
    · have e2 : ¬ (c.toNat : Int) = 58 := fun h => e (byte_ne (y := 58) h)
      rw [decide_eq_false e2, decide_eq_false (by simpa using e)]
/-- The names that stand ahead, with their places, in a map. -/
structure LdM (D : SDat) (A : List (List Int)) : Prop where
  tidy : Tidy D
  size : Maps.size D = A.length
  has : ∀ s : ByteArray, Maps.has D (kyS s) = decide (unums s ∈ A)
  at_ : ∀ (s : ByteArray) (i : Nat), A[i]? = some (unums s) → D.atKey (kyS s) (.lit (.int .i64 0)) = .lit (.int .i64 (i : Nat))
theorem ldm_nil : LdM (.map []) [] := ⟨tidy_empty, rfl, fun _ => rfl, fun s i h => by simp at h⟩
theorem tidy_put {D : SDat} (h : Tidy D) (s : ByteArray) (d : SDat) : Tidy (D.put (kyS s) d) := h.put (by unfold kyS; trivial) _
theorem ldm_put {D : SDat} {A : List (List Int)} (h : LdM D A) (s : ByteArray) (hn : unums s ∉ A) : LdM (D.put (kyS s) (.lit (.int .i64 (A.length : Nat)))) (A ++ [unums s]) := by
  refine ⟨tidy_put h.tidy s _, ?_, fun t => ?_, fun t i hi => ?_⟩
  · rw [size_put h.tidy, h.has s, decide_eq_false hn, h.size]
    simp
  · by_cases e : unums t = unums s
    · rw [ky_of e, has_put_same h.tidy.isMap (by unfold kyS; trivial)]
      simp [e]
    · rw [has_put_other (fun k => e (ky_inj k)), h.has t]
      simp [e]
  · by_cases e : unums t = unums s
    · rw [ky_of e, atKey_put_same h.tidy.isMap (by unfold kyS; trivial)]
      rcases Nat.lt_trichotomy i A.length with hl | hl | hl
      · rw [List.getElem?_append_left hl, e] at hi
        exact absurd (List.mem_of_getElem? hi) hn
      · rw [hl]
      · rw [List.getElem?_eq_none (by simp; omega)] at hi
        cases hi
    · rw [atKey_put_other (fun k => e (ky_inj k))]
      rcases Nat.lt_trichotomy i A.length with hl | hl | hl
      · rw [List.getElem?_append_left hl] at hi
        exact h.at_ t i hi
      · rw [hl, List.getElem?_append_right (Nat.le_refl _)] at hi
        simp at hi
        exact absurd hi.symm e
      · rw [List.getElem?_eq_none (by simp; omega)] at hi
        cases hi
theorem ldm_size {D : SDat} {A : List (List Int)} (h : LdM D A) (s : ByteArray) (d : SDat) : Maps.size (D.put (kyS s) d) = if unums s ∈ A then A.length else A.length + 1 := by
  rw [size_put h.tidy, h.has s, h.size]
  by_cases e : unums s ∈ A <;> simp [e]
theorem xhasp_any (n : ByteArray) (w : World) : Calls Tryz.prog 111 #[.string n, .string ⟨#[58]⟩] w fun e w' => e = .returned (.bool (psdL (unums n))) ∧ w = w' := by
  rw [psd_head]
  by_cases h1 : 1 ≤ n.size
  · have h1' : (1 : Int) ≤ (n.size : Int) := by omega
    have hx : (n.extract 0 1).toList = n.toList.take 1 := by
      rw [ByteArray.toList_eq, ByteArray.toList_eq]
      have : (n.extract 0 1).data.toList = n.data.toList.take 1 := Lib.extract_from_zero n 1
      exact this
    have hd : decide (n.toList.take 1 = [58]) = (n.toList.take 1 == [58]) := by rw [Bool.eq_iff_iff]; simp
    rw [hd]
    go_enter Tryz.func111, Tryz.ntmps111
    go_wp2
    go_ret
    exact ⟨rfl, rfl⟩
  · have h1' : ¬ (1 : Int) ≤ (n.size : Int) := by omega
    have hl : n.data.toList.length = n.size := by rw [Array.length_toList]; rfl
    have hz : n.toList = [] := by
      rw [ByteArray.toList_eq]
      exact List.eq_nil_of_length_eq_zero (by omega)
    rw [hz, decide_eq_false (by simp)]
    go_enter Tryz.func111, Tryz.ntmps111
    go_wp2
    go_ret
    exact ⟨rfl, rfl⟩
end Go.Proofs.YtdlaaollamgplagGreatDoor
