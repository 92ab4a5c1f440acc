/-
  THE WALK of the Go function tolllaw2.ChunkBack, its callees by their contracts. No claim by itself.
-/
import Derived.Lib.SlBytesConst
import Derived.Test.YtglmppadhlkkgagGreatDoorG2
import Derived.Test.YtglmppadhlkkgagGreatDoorTold
namespace Go.Proofs.YtglmppadhlkkgagGreatDoor
open Go.RowKit
set_option maxRecDepth 100000
theorem UOwn.row {w : World} {base : Nat} {v : Value} {L : List Int} (h : UOwn w base v L) (hb : Bytes L) (h1 : 1 ≤ L.length) : ∃ g cap, v = .slice (some ⟨g, 0, none⟩) L.length cap ∧ base ≤ g ∧ Row w g 0 L.length cap L := by
  rcases h with ⟨_, rfl⟩ | ⟨g, cap, rfl, h2, h3, h4, h5, h6, _⟩
  · simp at h1
  · exact ⟨g, cap, rfl, h2, rfl, h4, h5, fun t ht => by rw [Nat.zero_add]; exact h6 t ht, bytes_getD hb⟩
theorem Arg.text {w : World} {a : Option Addr} {len cap : Nat} {Z : List Int} (h : Arg w a len cap Z) : (convert 23 9 (.slice a len cap)).run Tryz.prog w = .ok (.string (strOfNums Z)) w := by
  rcases h with ⟨rfl, rfl⟩ | ⟨g, off, rfl, hr⟩
  · cases a with
    | none => exact run_convert_bytes_nil (P := Tryz.prog) w 23 5 Tryz.underlying23 Tryz.underlying5 0 cap 9 Tryz.underlying9
    | some ad =>
      rw [run_convert_bytes_string w 23 9 5 _ 0 cap Tryz.underlying23 Tryz.underlying5 Tryz.underlying9]
      have hl : (loadCells ad 0).run Tryz.prog w = .ok #[] w := by
        have := run_loadCells_list (P := Tryz.prog) w ad [] (fun j v hj => by simp at hj)
        simpa using this
      simp [Conv.bytesToString, hl]
      rfl
  · exact run_convert_bytes_arg w 23 5 Tryz.underlying23 Tryz.underlying5 g off len cap Z hr.hlen hr.hcell 9 Tryz.underlying9
theorem abc_text : strOfNums [50, 13, 10, 97, 98, 13, 10, 49, 13, 10, 99, 13, 10, 48, 13, 10, 13, 10] = ⟨#[50, 13, 10, 97, 98, 13, 10, 49, 13, 10, 99, 13, 10, 48, 13, 10, 13, 10]⟩ := rfl
theorem chunks_abc : chunksF [97, 98, 99] 2 = (0, [50, 13, 10, 97, 98, 13, 10, 49, 13, 10, 99, 13, 10, 48, 13, 10, 13, 10]) := by
  unfold chunksF
  rw [if_neg (by omega), if_neg (by simp)]
  rw [show (2 : Int).toNat = 2 from rfl, chunk_abc]
theorem abc_arg (w : World) : Arg (w.alloc (.cells #[.int .u8 97, .int .u8 98, .int .u8 99] 5 (3, 4))) (some ⟨w.heap.size, 0, none⟩) 3 3 [97, 98, 99] := by
  have hx : (w.alloc (.cells #[.int .u8 97, .int .u8 98, .int .u8 99] 5 (3, 4))).heap[w.heap.size]? = some (.cells #[.int .u8 97, .int .u8 98, .int .u8 99] 5 (3, 4)) := heap_alloc_new w _
  refine Or.inr ⟨_, _, rfl, rfl, Nat.le_refl _, by unfold maxLen; omega, fun t ht => ?_, fun t => ?_⟩
  · simp only [World.cell?, hx]
    match t with
    | 0 => rfl
    | 1 => rfl
    | 2 => rfl
    | t + 3 => omega
  · match t with
    | 0 => decide
    | 1 => decide
    | 2 => decide
    | t + 3 => simp
/-- What is told when nothing is wrong. -/
theorem chunks_ok {B : List Int} {size : Int} (h : (chunksF B size).1 = 0) : ∃ s : Nat, 1 ≤ s ∧ B.length ≤ 8000 ∧ (chunksF B size).2 = chunkL s B := by
  unfold chunksF at h ⊢
  split at h
  · simp at h
  · split at h
    · simp at h
    · rename_i h1 h2
      rw [if_neg h1, if_neg h2]
      exact ⟨size.toNat, by omega, by omega, rfl⟩
theorem unch_own {s : Nat} (hs : 1 ≤ s) (B : List Int) (hB : B.length ≤ 8000) : unchF (chunkL s B) = (0, B, ((chunkL s B).length : Int)) := by
  have := unch_chunk hs B [] hB
  rwa [List.append_nil] at this
theorem chunk_pos {s : Nat} (hs : 1 ≤ s) (B : List Int) : 5 ≤ (chunkL s B).length := by
  by_cases hB : B = []
  · subst hB; simp [chunk_nil, endL]
  · rw [chunk_more hs hB, List.length_append, piece_len]
    have := hexL_pos (B.take s).length
    omega
end Go.Proofs.YtglmppadhlkkgagGreatDoor
