/-
  WHAT IS ASKED of the Go functions chunk.Encode and chunk.Decode: their contracts, as statements. No claim by itself.
-/
import Derived.Test.YtibjbdcmhjbndaaDoorUmath2
import Derived.Test.YtibjbdcmhjbndaaDoorArg0
import Derived.Test.YtibjbdcmhjbndaaDoorWspec0
namespace Go.Proofs.YtibjbdcmhjbndaaDoor
open Go.RowKit
set_option maxRecDepth 100000
def I64 (a : Int) : Prop := -9223372036854775808 ≤ a ∧ a ≤ 9223372036854775807
theorem i64_wf {a : Int} (h : (Lit.int .i64 a).wf = true) : I64 a := by
  simp [Lit.wf, IntKind.min, IntKind.max, IntKind.bits, IntKind.signed] at h
  unfold I64
  omega
/-- Bytes that are a callee's own: none, or a row with room behind it that may be written. -/
def UOwn (w : World) (base : Nat) (v : Value) (L : List Int) : Prop := (v = .slice none 0 0 ∧ L = []) ∨ ∃ g cap, v = .slice (some ⟨g, 0, none⟩) L.length cap ∧ base ≤ g ∧ g < w.heap.size ∧ L.length ≤ cap ∧ cap ≤ maxLen ∧
  (∀ t, t < L.length → w.cell? ⟨g, t, none⟩ = some (.int .u8 (L.getD t 0))) ∧ (∀ t, t < cap → (w.cell? ⟨g, t, none⟩).isSome = true) ∧ ∀ t, t < cap → w.frozen? ⟨g, t, none⟩ = false
def Bytes (L : List Int) : Prop := ∀ x ∈ L, 0 ≤ x ∧ x < 256
theorem UOwn.of {w : World} {base : Nat} {v : Value} {L : List Int} (h : w.ownsRow base 5 1 v L.length (L.map (Value.int .u8))) : UOwn w base v L := by
  obtain ⟨h1, ⟨rfl, h0⟩ | ⟨g, cap, cur, rfl, hb, hc, h2, h3, h4, h5⟩⟩ := id h
  · exact Or.inl ⟨rfl, List.eq_nil_of_length_eq_zero h0⟩
  · have hg : g < w.heap.size := by
      rcases Nat.lt_or_ge g w.heap.size with h6 | h6
      · exact h6
      · rw [Array.getElem?_eq_none h6] at hc; simp at hc
    refine Or.inr ⟨g, cap, rfl, hb, hg, h2, h3, fun t ht => ?_, fun t ht => ?_, fun t ht => ?_⟩
    · have hcc := h.cellAt t (by omega)
      rw [hcc]
      simp [List.getElem?_eq_getElem ht]
    · simp only [World.cell?, hc]
      simp
      omega
    · simp [World.frozen?, hc]
theorem UOwn.block {w w' : World} {base : Nat} {v : Value} {L : List Int} (h : UOwn w base v L) (hs : w.heap.size ≤ w'.heap.size) (hb : ∀ k, v.ownBlock = some k → w'.heap[k]? = w.heap[k]?) : UOwn w' base v L := by
  rcases h with h | ⟨g, cap, rfl, h1, h2, h3, h4, h5, h6, h7⟩
  · exact Or.inl h
  · have e := hb g rfl
    exact Or.inr ⟨g, cap, rfl, h1, by omega, h3, h4, fun t ht => (World.cell?_of_block (a := ⟨g, t, none⟩) e).trans (h5 t ht), fun t ht => by rw [World.cell?_of_block (a := ⟨g, t, none⟩) e]; exact h6 t ht, fun t ht => (World.frozen?_of_block (a := ⟨g, t, none⟩) e).trans (h7 t ht)⟩
theorem UOwn.base {w : World} {base : Nat} {v : Value} {L : List Int} (h : UOwn w base v L) : ∀ k, v.ownBlock = some k → base ≤ k ∧ k < w.heap.size := by
  intro k hk
  rcases h with ⟨rfl, _⟩ | ⟨g, cap, rfl, h1, h2, _⟩
  · cases hk
  · cases hk; exact ⟨h1, h2⟩
theorem UOwn.below {w w' : World} {base : Nat} {v : Value} {L : List Int} (h : UOwn w base v L) (hb : Below w.heap.size w w') : UOwn w' base v L := h.block hb.size (fun k hk => hb.block k (h.base k hk).2)
theorem UOwn.mono {w : World} {base b : Nat} {v : Value} {L : List Int} (h : UOwn w base v L) (hb : b ≤ base) : UOwn w b v L := by
  rcases h with h | ⟨g, cap, hv, h1, h2⟩
  · exact Or.inl h
  · exact Or.inr ⟨g, cap, hv, by omega, h2⟩
theorem UOwn.slice {w : World} {base : Nat} {v : Value} {L : List Int} (h : UOwn w base v L) : ∃ a cap, v = .slice a L.length cap ∧ L.length ≤ cap ∧ cap ≤ maxLen := by
  rcases h with ⟨rfl, rfl⟩ | ⟨g, cap, rfl, _, _, h3, h4, _⟩
  · exact ⟨none, 0, rfl, Nat.le_refl _, by decide⟩
  · exact ⟨_, cap, rfl, h3, h4⟩
theorem bytes_getD {L : List Int} (hb : Bytes L) (t : Nat) : 0 ≤ L.getD t 0 ∧ L.getD t 0 < 256 := by
  by_cases ht : t < L.length
  · have hmem : L.getD t 0 ∈ L := by
      rw [List.getD, List.getElem?_eq_getElem ht]
      exact List.getElem_mem _
    exact hb _ hmem
  · have e : L.getD t 0 = 0 := by simp [List.getD, List.getElem?_eq_none (show L.length ≤ t by omega)]
    rw [e]; decide
theorem UOwn.arg {w : World} {base cap : Nat} {a : Option Addr} {L : List Int} (h : UOwn w base (.slice a L.length cap) L) (hb : Bytes L) : Arg w a L.length cap L := by
  rcases h with ⟨_, rfl⟩ | ⟨g, cap', hv, h1, h2, h3, h4, h5, _⟩
  · exact Or.inl ⟨rfl, rfl⟩
  · cases hv
    exact Or.inr ⟨g, 0, rfl, rfl, h3, h4, fun t ht => by rw [Nat.zero_add]; exact h5 t ht, bytes_getD hb⟩
theorem Arg.bytes {w : World} {a : Option Addr} {len cap : Nat} {Z : List Int} (h : Arg w a len cap Z) : Bytes Z := by
  rcases h with ⟨_, rfl⟩ | ⟨g, off, _, hr⟩
  · intro x hx; cases hx
  · intro x hx
    obtain ⟨i, hi, rfl⟩ := List.getElem_of_mem hx
    have := hr.hbyte i
    simpa [List.getD, List.getElem?_eq_getElem hi] using this
theorem Arg.len {w : World} {a : Option Addr} {len cap : Nat} {Z : List Int} (h : Arg w a len cap Z) : Z.length = len := by
  rcases h with ⟨rfl, rfl⟩ | ⟨g, off, _, hr⟩
  · rfl
  · exact hr.hlen
theorem arg_nil (w : World) (a : Option Addr) (cap : Nat) : Arg w a 0 cap [] := Or.inl ⟨rfl, rfl⟩
/- bytes stay bytes -/
theorem bytes_app {L M : List Int} (h : Bytes L) (k : Bytes M) : Bytes (L ++ M) := fun x hx => by
  rcases List.mem_append.1 hx with i | i
  · exact h x i
  · exact k x i
theorem bytes_take {L : List Int} (h : Bytes L) (n : Nat) : Bytes (L.take n) := fun x hx => h x (List.mem_of_mem_take hx)
theorem bytes_drop {L : List Int} (h : Bytes L) (n : Nat) : Bytes (L.drop n) := fun x hx => h x (List.mem_of_mem_drop hx)
theorem bytes_hx {d : Nat} (h : d < 16) : 0 ≤ hx d ∧ hx d < 256 := by unfold hx; split <;> omega
theorem bytes_hex : ∀ n : Nat, Bytes (hexL n) := by
  intro n
  induction n using Nat.strongRecOn with
  | _ n ih =>
    by_cases h : n < 16
    · rw [hexL_one h]; intro x hx; simp at hx; subst hx; exact bytes_hx h
    · rw [hexL_more h]
      refine bytes_app (ih _ (by omega)) ?_
      intro x hx; simp at hx; subst hx; exact bytes_hx (by omega)
theorem bytes_line : Bytes [13, 10] := by intro x hx; simp at hx; omega
theorem bytes_end : Bytes endL := by intro x hx; simp [endL] at hx; omega
theorem bytes_piece {B : List Int} (h : Bytes B) : Bytes (piece B) := bytes_app (bytes_hex _) (bytes_app bytes_line (bytes_app h bytes_line))
theorem bytes_chunk {s : Nat} (hs : 1 ≤ s) : ∀ (k : Nat) (B : List Int), B.length ≤ k → Bytes B → Bytes (chunkL s B) := by
  intro k
  induction k with
  | zero =>
    intro B hk _
    obtain rfl : B = [] := List.eq_nil_of_length_eq_zero (by omega)
    exact bytes_end
  | succ k ih =>
    intro B hk hb
    by_cases hB : B = []
    · subst hB; exact bytes_end
    · rw [chunk_more hs hB]
      have hpos : 1 ≤ B.length := by
        rcases Nat.eq_zero_or_pos B.length with h | h
        · exact absurd (List.eq_nil_of_length_eq_zero h) hB
        · exact h
      exact bytes_app (bytes_piece (bytes_take hb _)) (ih _ (by simp; omega) (bytes_drop hb _))
theorem bytes_chunks {B : List Int} (h : Bytes B) (size : Int) : Bytes (chunksF B size).2 := by
  unfold chunksF
  split
  · intro x hx; cases hx
  · split
    · intro x hx; cases hx
    · exact bytes_chunk (by omega) _ B (Nat.le_refl _) h
/-- As many bytes as any machine could hold. -/
def ULim : Nat := 281474976710656
end Go.Proofs.YtibjbdcmhjbndaaDoor
