/-
  BODIES IN PIECES: the document's Chunks. No claim by itself.
-/
import Derived.Test.YtdlaaollamgplagGreatDoorRchkX
namespace Go.Proofs.YtdlaaollamgplagGreatDoor
open Go.RowKit
set_option maxRecDepth 100000
theorem u_cut {w : World} {g off len cap : Nat} {Z : List Int} (h : Row w g off len cap Z) (u n : Nat) (hu : u + n ≤ len) :
    ∃ o, (if cap = u then some (⟨g, off, none⟩ : Addr) else some ⟨g, off + u, none⟩) = some ⟨g, o, none⟩ ∧ Row w g o n (cap - u) ((Z.drop u).take n) := by
  have hl := h.hlen
  have hc := h.hcap
  have hm := h.hmax
  have hlen : ((Z.drop u).take n).length = n := by simp; omega
  have hget : ∀ t, t < n → ((Z.drop u).take n).getD t 0 = Z.getD (u + t) 0 := fun t ht => by
    simp [List.getD, ht]
  have hby : ∀ t, 0 ≤ ((Z.drop u).take n).getD t 0 ∧ ((Z.drop u).take n).getD t 0 < 256 := fun t => by
    by_cases ht : t < n
    · rw [hget t ht]; exact h.hbyte _
    · have : ((Z.drop u).take n).getD t 0 = 0 := by
        rw [List.getD, List.getElem?_eq_none (by omega)]; rfl
      rw [this]; omega
  by_cases e : cap = u
  · refine ⟨off, if_pos e, hlen, by omega, by omega, fun t ht => by omega, hby⟩
  · refine ⟨off + u, if_neg e, hlen, by omega, by omega, fun t ht => ?_, hby⟩
    rw [hget t ht, ← h.hcell (u + t) (by omega)]
    congr 2
    omega
theorem one_arg (w : World) (x : Int) (hx : 0 ≤ x ∧ x < 256) : Arg (w.alloc (.cells #[.int .u8 x] 5)) (some ⟨w.heap.size, 0, none⟩) 1 1 [x] := by
  have hh : (w.alloc (.cells #[.int .u8 x] 5)).heap[w.heap.size]? = some (.cells #[.int .u8 x] 5 (0, 0)) := heap_alloc_new w _
  refine Or.inr ⟨_, _, rfl, rfl, Nat.le_refl _, by unfold maxLen; omega, fun t ht => ?_, fun t => ?_⟩
  · simp only [World.cell?, hh]
    match t with
    | 0 => rfl
    | t + 1 => omega
  · match t with
    | 0 => exact hx
    | t + 1 => simp
theorem hexln_nums (n : Nat) : unums (strOfNums (hexL n) ++ ⟨#[13, 10]⟩) = hexL n ++ [13, 10] := by
  have e : (strOfNums (hexL n) ++ ⟨#[13, 10]⟩ : ByteArray) = strOfNums (hexL n ++ [13, 10]) := by
    rw [← str_app]; rfl
  rw [e]
  have hb : Bytes (hexL n ++ [13, 10]) := bytes_app (bytes_hex n) bytes_line
  unfold unums
  rw [strOfNums_data, List.map_map]
  conv => rhs; rw [← List.map_id (hexL n ++ [13, 10])]
  apply List.map_congr_left
  intro x hx
  have := hb x hx
  simp [Function.comp]
  omega
theorem chunk_acc {s : Nat} (hs : 1 ≤ s) {D acc T : List Int} (hD : D ≠ []) (h : acc ++ chunkL s D = T) {n : Nat} (hn : n = min s D.length) :
    ((((acc ++ (hexL n ++ [13, 10])) ++ D.take n) ++ [13]) ++ [10]) ++ chunkL s (D.drop n) = T := by
  rw [← h, chunk_more hs hD]
  have e1 : D.take s = D.take n := by
    by_cases c : s ≤ D.length
    · rw [show n = s by omega]
    · rw [List.take_of_length_le (by omega), List.take_of_length_le (by omega)]
  have e2 : D.drop s = D.drop n := by
    by_cases c : s ≤ D.length
    · rw [show n = s by omega]
    · rw [List.drop_eq_nil_of_le (by omega), List.drop_eq_nil_of_le (by omega)]
  have e3 : (D.take n).length = n := by simp; omega
  rw [e1, e2]
  unfold piece
  rw [e3]
  simp
end Go.Proofs.YtdlaaollamgplagGreatDoor
