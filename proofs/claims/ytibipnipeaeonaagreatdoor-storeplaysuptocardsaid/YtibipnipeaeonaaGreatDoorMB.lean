/-
  ROWS OF BYTES: what is known of them, later too. No claim by itself.
-/
import Derived.WalkKit
import Derived.WalkLawsBesides
import Derived.WalkSpells
import Derived.Laws.BytesArg
import Derived.Lib.AppendStr
import Derived.Deep.DeepAppendWide
import Derived.Laws.AppendOwnNone
import Derived.Deep.AppendSrc
import Derived.Deep.MidRow
import Derived.Deep.Upon
import Derived.Test.YtibipnipeaeonaaGreatDoorProg
import Derived.Test.YtibipnipeaeonaaGreatDoorVl
import Derived.Test.YtibipnipeaeonaaGreatDoorMA
namespace Go.Proofs.YtibipnipeaeonaaGreatDoor
open Go.RowKit
/-- The numbers in a row of bytes. -/
structure Row (w : World) (g off len cap : Nat) (Z : List Int) : Prop where
  hlen : Z.length = len
  hcap : len ≤ cap
  hmax : cap ≤ maxLen
  hcell : ∀ t, t < len → w.cell? ⟨g, off + t, none⟩ = some (.int .u8 (Z.getD t 0))
  hbyte : ∀ t, 0 ≤ Z.getD t 0 ∧ Z.getD t 0 < 256
theorem Row.below {w w' : World} {g off len cap : Nat} {Z : List Int} (h : Row w g off len cap Z) (hb : Below w.heap.size w w') : Row w' g off len cap Z := by
  refine ⟨h.hlen, h.hcap, h.hmax, fun t ht => ?_, h.hbyte⟩
  have hc := h.hcell t ht
  have hlt : g < w.heap.size := by
    rcases Nat.lt_or_ge g w.heap.size with h1 | h1
    · exact h1
    · simp [World.cell?, Array.getElem?_eq_none h1] at hc
  exact (hb.cell (p := ⟨g, off + t, none⟩) hlt).trans hc
theorem own_below {w w' : World} {base n : Nat} {v : Value} {xs : List Value} (h : w.ownsRow base 5 1 v n xs) (hb : Below w.heap.size w w') : w'.ownsRow base 5 1 v n xs := by
  obtain ⟨h1, h2 | ⟨g, cap, cur, hv, hg, hc, r⟩⟩ := h
  · exact ⟨h1, Or.inl h2⟩
  · have hlt : g < w.heap.size := by
      rcases Nat.lt_or_ge g w.heap.size with h3 | h3
      · exact h3
      · rw [Array.getElem?_eq_none h3] at hc; simp at hc
    exact ⟨h1, Or.inr ⟨g, cap, cur, hv, hg, by rw [hb.block g hlt]; exact hc, r⟩⟩
theorem row_of {w : World} {base l cap g : Nat} {L : List Int} (hl : L.length = l) (h : w.ownsRow base 5 1 (.slice (some ⟨g, 0, none⟩) l cap) l (L.map (Value.int .u8))) (hb : ∀ x ∈ L, 0 ≤ x ∧ x < 256) : Row w g 0 l cap L := by
  have hcap : l ≤ cap ∧ cap ≤ maxLen := by
    obtain ⟨_, ⟨hv, _⟩ | ⟨g', cap', cur, hv, _, _, hc, hm, _⟩⟩ := h
    · cases hv
    · cases hv; exact ⟨hc, hm⟩
  refine ⟨hl, hcap.1, hcap.2, fun t ht => ?_, fun t => ?_⟩
  · have hc := h.cellAt t (by omega)
    rw [Nat.zero_add, hc]
    simp [List.getElem?_eq_getElem (show t < L.length by omega)]
  · by_cases ht : t < L.length
    · have hmem : L.getD t 0 ∈ L := by
        rw [List.getD, List.getElem?_eq_getElem ht]
        exact List.getElem_mem _
      exact hb _ hmem
    · have e : L.getD t 0 = 0 := by simp [List.getD, List.getElem?_eq_none (show L.length ≤ t by omega)]
      rw [e]; decide
theorem Row.take {w : World} {g off len cap : Nat} {Z : List Int} (h : Row w g off len cap Z) (s : Nat) (hs : s ≤ len) : Row w g off s cap (Z.take s) := by
  have hl := h.hlen
  have hc := h.hcap
  refine ⟨by simp; omega, by omega, h.hmax, fun t ht => ?_, fun t => ?_⟩
  · have e : (Z.take s).getD t 0 = Z.getD t 0 := by simp [List.getD, ht]
    rw [e]; exact h.hcell t (by omega)
  · by_cases ht : t < s
    · have e : (Z.take s).getD t 0 = Z.getD t 0 := by simp [List.getD, ht]
      rw [e]; exact h.hbyte t
    · have e : (Z.take s).getD t 0 = 0 := by simp [List.getD, List.getElem?_take, ht]
      rw [e]; decide
end Go.Proofs.YtibipnipeaeonaaGreatDoor
/-
  BYTES THAT ARE HANDED IN, and bytes that a callee made: what is known of them, later too; and as a text. No claim by itself.
-/
namespace Go.Proofs.YtibipnipeaeonaaGreatDoor
open Go.RowKit
/-- Bytes that are handed in: none, or a row. -/
def Arg (w : World) (a : Option Addr) (len cap : Nat) (Z : List Int) : Prop :=
  (len = 0 ∧ Z = []) ∨ ∃ g off, a = some ⟨g, off, none⟩ ∧ Row w g off len cap Z
theorem Arg.below {w w' : World} {a : Option Addr} {len cap : Nat} {Z : List Int} (h : Arg w a len cap Z) (hb : Below w.heap.size w w') : Arg w' a len cap Z := by
  rcases h with h | ⟨g, off, ha, hr⟩
  · exact Or.inl h
  · exact Or.inr ⟨g, off, ha, hr.below hb⟩
theorem arg_of {w : World} {x : Addr} {len cap : Nat} {zs : List Int} (hz : zs.length = cap) (hl : len ≤ cap) (hm : cap ≤ maxLen)
    (hcell : ∀ i, i < zs.length → w.cell? (x.add i) = some (.int .u8 (zs.getD i 0))) (hwz : ∀ n ∈ zs, (Lit.int .u8 n).wf = true) : Arg w (some x) len cap (zs.take len) := by
  by_cases h0 : len = 0
  · subst h0; exact Or.inl ⟨rfl, by simp⟩
  · have hc := hcell 0 (by omega)
    obtain ⟨g, off, spot⟩ := x
    have hspot : spot = none := by simpa [Addr.add] using World.cell?_spot hc
    subst hspot
    refine Or.inr ⟨g, off, rfl, by simp; omega, hl, hm, fun t ht => ?_, fun t => ?_⟩
    · have h1 := hcell t (by omega)
      have e : (zs.take len).getD t 0 = zs.getD t 0 := by simp [List.getD, ht]
      have hplain : (⟨g, off, none⟩ : Addr).add t = ⟨g, off + t, none⟩ := by unfold Addr.add; split <;> simp_all
      rw [e, ← hplain]
      exact h1
    · by_cases ht : t < len
      · have e : (zs.take len).getD t 0 = zs.getD t 0 := by simp [List.getD, ht]
        have hmem : zs.getD t 0 ∈ zs := by
          rw [List.getD, List.getElem?_eq_getElem (show t < zs.length by omega)]
          exact List.getElem_mem _
        have hw := hwz _ hmem
        rw [e]
        generalize zs.getD t 0 = y at *
        simp [Lit.wf, IntKind.min, IntKind.max, IntKind.bits, IntKind.signed] at hw
        omega
      · have e : (zs.take len).getD t 0 = 0 := by simp [List.getD, List.getElem?_take, ht]
        rw [e]; decide
theorem string_of_row {w w' : World} {g base l cap : Nat} {L : List Int} (hl : L.length = l) (h : w.ownsRow base 5 1 (.slice (some ⟨g, 0, none⟩) l cap) l (L.map (Value.int .u8))) (hb : Below (g + 1) w w') :
    (convert 34 9 (.slice (some ⟨g, 0, none⟩) l cap)).run Tryz.prog w' = .ok (.string (strOfNums L)) w' := by
  refine run_convert_bytes_arg w' 34 5 Tryz.underlying34 Tryz.underlying5 g 0 l cap L hl (fun i hi => ?_) 9 Tryz.underlying9
  have hc := h.cellAt i (by omega)
  rw [Nat.zero_add, hb.cell (p := ⟨g, i, none⟩) (Nat.lt_succ_self g), hc]
  simp [List.getElem?_eq_getElem (show i < L.length by omega)]
theorem row_lt {w : World} {base : Nat} {v : Value} {n : Nat} {xs : List Value} {g : Nat} {cap : Nat} (h : w.ownsRow base 5 1 v n xs) (hv : v = .slice (some ⟨g, 0, none⟩) n cap) : g < w.heap.size :=
  (h.lt g (by rw [hv]; rfl)).2
end Go.Proofs.YtibipnipeaeonaaGreatDoor
/-
  WHAT A CALL TURNS, and what it leaves. No claim by itself.
-/
namespace Go.Proofs.YtibipnipeaeonaaGreatDoor
open Go.RowKit
set_option maxRecDepth 100000
/-- Behind a call that turns the blocks of S alone. -/
structure Tn (S : Nat → Prop) (w w' : World) : Prop where
  os : w'.os = w.os
  tape : w'.tape = w.tape
  output : w'.output = w.output
  size : w.heap.size ≤ w'.heap.size
  block : ∀ k, k < w.heap.size → ¬ S k → w'.heap[k]? = w.heap[k]?
theorem Tn.refl (S : Nat → Prop) (w : World) : Tn S w w := ⟨rfl, rfl, rfl, Nat.le_refl _, fun _ _ _ => rfl⟩
theorem Tn.of_below {S : Nat → Prop} {w w' : World} (h : Below w.heap.size w w') : Tn S w w' := ⟨h.os, h.tape, h.output, h.size, fun k hk _ => h.block k hk⟩
theorem Tn.below {S : Nat → Prop} {B : Nat} {a w w' : World} (h : Below B a w) (k : Tn S w w') (hB : B ≤ w.heap.size) (hS : ∀ i, S i → B ≤ i) : Below B a w' :=
  ⟨k.os.trans h.os, k.tape.trans h.tape, k.output.trans h.output, Nat.le_trans h.size k.size, fun i hi => (k.block i (by omega) (fun hs => by have := hS i hs; omega)).trans (h.block i hi)⟩
theorem tn_set {S : Nat → Prop} {w : World} {a : Addr} {v : Value} (hS : S a.block) : Tn S w (w.setCell a v) := by
  have hb := (Below.refl a.block w).setCell (Nat.le_refl _) v
  refine ⟨hb.os, hb.tape, hb.output, hb.size, fun k _ hs => ?_⟩
  have hne : a.block ≠ k := fun e => hs (e ▸ hS)
  unfold World.setCell
  rw [Array.getElem?_modify]
  simp [hne]
theorem blk_of_cell {w : World} {g o : Nat} {v : Value} (h : w.cell? ⟨g, o, none⟩ = some v) : g < w.heap.size := by
  rcases Nat.lt_or_ge g w.heap.size with h1 | h1
  · exact h1
  · simp [World.cell?, Array.getElem?_eq_none h1] at h
theorem Tn.cell {S : Nat → Prop} {w w' : World} (h : Tn S w w') {g o : Nat} {v : Value} (hc : w.cell? ⟨g, o, none⟩ = some v) (hn : ¬ S g) : w'.cell? ⟨g, o, none⟩ = some v :=
  (World.cell?_of_block (a := ⟨g, o, none⟩) (h.block g (blk_of_cell hc) hn)).trans hc
def errW (n : Int) : Value := if n = 0 then .nilIface else .iface 60 (.int .i64 n)
end Go.Proofs.YtibipnipeaeonaaGreatDoor
/-
  WHAT IS ASKED of the Go functions chunk.Encode and chunk.Decode: their contracts, as statements. No claim by itself.
-/
namespace Go.Proofs.YtibipnipeaeonaaGreatDoor
open Go.RowKit
set_option maxRecDepth 100000
def I64 (a : Int) : Prop := -9223372036854775808 ≤ a ∧ a ≤ 9223372036854775807
theorem i64_wf {a : Int} (h : (Lit.int .i64 a).wf = true) : I64 a := by
  simp [Lit.wf, IntKind.min, IntKind.max, IntKind.bits, IntKind.signed] at h
  unfold I64
  omega
/-- Bytes that are a callee's own: none, or a row with room behind it that may be written. -/
def UOwn (w : World) (base : Nat) (v : Value) (L : List Int) : Prop := (v = .slice none 0 0 ∧ L = []) ∨ ∃ g cap, v = .slice (some ⟨g, 0, none⟩) L.length cap ∧ base ≤ g ∧ g < w.heap.size ∧ L.length ≤ cap ∧ cap ≤ maxLen ∧
  (∀ t, t < L.length → w.cell? ⟨g, t, none⟩ = some (.int .u8 (L.getD t 0))) ∧ (∀ t, t < cap → (w.cell? ⟨g, t, none⟩).isSome = true) ∧ ∀ t, t < cap → w.frozen? ⟨g, t, none⟩ = false
def Bytes (L : List Int) : Prop := ∀ x ∈ L, 0 ≤ x ∧ x < 256
theorem UOwn.of {w : World} {base : Nat} {v : Value} {L : List Int} (h : w.ownsRow base 5 1 v L.length (L.map (Value.int .u8))) : UOwn w base v L := by
  obtain ⟨h1, ⟨rfl, h0⟩ | ⟨g, cap, cur, rfl, hb, hc, h2, h3, h4, h5⟩⟩ := id h
  · exact Or.inl ⟨rfl, List.eq_nil_of_length_eq_zero h0⟩
  · have hg : g < w.heap.size := by
      rcases Nat.lt_or_ge g w.heap.size with h6 | h6
      · exact h6
      · rw [Array.getElem?_eq_none h6] at hc; simp at hc
    refine Or.inr ⟨g, cap, rfl, hb, hg, h2, h3, fun t ht => ?_, fun t ht => ?_, fun t ht => ?_⟩
    · have hcc := h.cellAt t (by omega)
      rw [hcc]
      simp [List.getElem?_eq_getElem ht]
    · simp only [World.cell?, hc]
      simp
      omega
    · simp [World.frozen?, hc]
theorem UOwn.block {w w' : World} {base : Nat} {v : Value} {L : List Int} (h : UOwn w base v L) (hs : w.heap.size ≤ w'.heap.size) (hb : ∀ k, v.ownBlock = some k → w'.heap[k]? = w.heap[k]?) : UOwn w' base v L := by
  rcases h with h | ⟨g, cap, rfl, h1, h2, h3, h4, h5, h6, h7⟩
  · exact Or.inl h
  · have e := hb g rfl
    exact Or.inr ⟨g, cap, rfl, h1, by omega, h3, h4, fun t ht => (World.cell?_of_block (a := ⟨g, t, none⟩) e).trans (h5 t ht), fun t ht => by rw [World.cell?_of_block (a := ⟨g, t, none⟩) e]; exact h6 t ht, fun t ht => (World.frozen?_of_block (a := ⟨g, t, none⟩) e).trans (h7 t ht)⟩
theorem UOwn.base {w : World} {base : Nat} {v : Value} {L : List Int} (h : UOwn w base v L) : ∀ k, v.ownBlock = some k → base ≤ k ∧ k < w.heap.size := by
  intro k hk
  rcases h with ⟨rfl, _⟩ | ⟨g, cap, rfl, h1, h2, _⟩
  · cases hk
  · cases hk; exact ⟨h1, h2⟩
theorem UOwn.below {w w' : World} {base : Nat} {v : Value} {L : List Int} (h : UOwn w base v L) (hb : Below w.heap.size w w') : UOwn w' base v L := h.block hb.size (fun k hk => hb.block k (h.base k hk).2)
theorem UOwn.mono {w : World} {base b : Nat} {v : Value} {L : List Int} (h : UOwn w base v L) (hb : b ≤ base) : UOwn w b v L := by
  rcases h with h | ⟨g, cap, hv, h1, h2⟩
  · exact Or.inl h
  · exact Or.inr ⟨g, cap, hv, by omega, h2⟩
theorem UOwn.slice {w : World} {base : Nat} {v : Value} {L : List Int} (h : UOwn w base v L) : ∃ a cap, v = .slice a L.length cap ∧ L.length ≤ cap ∧ cap ≤ maxLen := by
  rcases h with ⟨rfl, rfl⟩ | ⟨g, cap, rfl, _, _, h3, h4, _⟩
  · exact ⟨none, 0, rfl, Nat.le_refl _, by decide⟩
  · exact ⟨_, cap, rfl, h3, h4⟩
theorem bytes_getD {L : List Int} (hb : Bytes L) (t : Nat) : 0 ≤ L.getD t 0 ∧ L.getD t 0 < 256 := by
  by_cases ht : t < L.length
  · have hmem : L.getD t 0 ∈ L := by
      rw [List.getD, List.getElem?_eq_getElem ht]
      exact List.getElem_mem _
    exact hb _ hmem
  · have e : L.getD t 0 = 0 := by simp [List.getD, List.getElem?_eq_none (show L.length ≤ t by omega)]
    rw [e]; decide
theorem UOwn.arg {w : World} {base cap : Nat} {a : Option Addr} {L : List Int} (h : UOwn w base (.slice a L.length cap) L) (hb : Bytes L) : Arg w a L.length cap L := by
  rcases h with ⟨_, rfl⟩ | ⟨g, cap', hv, h1, h2, h3, h4, h5, _⟩
  · exact Or.inl ⟨rfl, rfl⟩
  · cases hv
    exact Or.inr ⟨g, 0, rfl, rfl, h3, h4, fun t ht => by rw [Nat.zero_add]; exact h5 t ht, bytes_getD hb⟩
theorem UOwn.text {w : World} {base : Nat} {v : Value} {L : List Int} (h : UOwn w base v L) : (convert 34 9 v).run Tryz.prog w = .ok (.string (strOfNums L)) w := by
  rcases h with ⟨rfl, rfl⟩ | ⟨g, cap, rfl, h1, h2, h3, h4, h5, _⟩
  · rw [run_convert_bytes_nil (P := Tryz.prog) w 34 5 Tryz.underlying34 Tryz.underlying5 0 0 9 Tryz.underlying9]
    rfl
  · exact run_convert_bytes_arg w 34 5 Tryz.underlying34 Tryz.underlying5 g 0 L.length cap L rfl (fun i hi => by rw [Nat.zero_add]; exact h5 i hi) 9 Tryz.underlying9
theorem Arg.bytes {w : World} {a : Option Addr} {len cap : Nat} {Z : List Int} (h : Arg w a len cap Z) : Bytes Z := by
  rcases h with ⟨_, rfl⟩ | ⟨g, off, _, hr⟩
  · intro x hx; cases hx
  · intro x hx
    obtain ⟨i, hi, rfl⟩ := List.getElem_of_mem hx
    have := hr.hbyte i
    simpa [List.getD, List.getElem?_eq_getElem hi] using this
theorem Arg.len {w : World} {a : Option Addr} {len cap : Nat} {Z : List Int} (h : Arg w a len cap Z) : Z.length = len := by
  rcases h with ⟨rfl, rfl⟩ | ⟨g, off, _, hr⟩
  · rfl
  · exact hr.hlen
theorem arg_nil (w : World) (a : Option Addr) (cap : Nat) : Arg w a 0 cap [] := Or.inl ⟨rfl, rfl⟩
/- bytes stay bytes -/
theorem bytes_app {L M : List Int} (h : Bytes L) (k : Bytes M) : Bytes (L ++ M) := fun x hx => by
  rcases List.mem_append.1 hx with i | i
  · exact h x i
  · exact k x i
theorem bytes_take {L : List Int} (h : Bytes L) (n : Nat) : Bytes (L.take n) := fun x hx => h x (List.mem_of_mem_take hx)
theorem bytes_drop {L : List Int} (h : Bytes L) (n : Nat) : Bytes (L.drop n) := fun x hx => h x (List.mem_of_mem_drop hx)
theorem bytes_hx {d : Nat} (h : d < 16) : 0 ≤ hx d ∧ hx d < 256 := by unfold hx; split <;> omega
theorem bytes_hex : ∀ n : Nat, Bytes (hexL n) := by
  intro n
  induction n using Nat.strongRecOn with
  | _ n ih =>
    by_cases h : n < 16
    · rw [hexL_one h]; intro x hx; simp at hx; subst hx; exact bytes_hx h
    · rw [hexL_more h]
      refine bytes_app (ih _ (by omega)) ?_
      intro x hx; simp at hx; subst hx; exact bytes_hx (by omega)
theorem bytes_line : Bytes [13, 10] := by intro x hx; simp at hx; omega
theorem bytes_end : Bytes endL := by intro x hx; simp [endL] at hx; omega
theorem bytes_piece {B : List Int} (h : Bytes B) : Bytes (piece B) := bytes_app (bytes_hex _) (bytes_app bytes_line (bytes_app h bytes_line))
theorem bytes_chunk {s : Nat} (hs : 1 ≤ s) : ∀ (k : Nat) (B : List Int), B.length ≤ k → Bytes B → Bytes (chunkL s B) := by
  intro k
  induction k with
  | zero =>
    intro B hk _
    obtain rfl : B = [] := List.eq_nil_of_length_eq_zero (by omega)
    exact bytes_end
  | succ k ih =>
    intro B hk hb
    by_cases hB : B = []
    · subst hB; exact bytes_end
    · rw [chunk_more hs hB]
      have hpos : 1 ≤ B.length := by
        rcases Nat.eq_zero_or_pos B.length with h | h
        · exact absurd (List.eq_nil_of_length_eq_zero h) hB
        · exact h
      exact bytes_app (bytes_piece (bytes_take hb _)) (ih _ (by simp; omega) (bytes_drop hb _))
theorem bytes_chunks {B : List Int} (h : Bytes B) (size : Int) : Bytes (chunksF B size).2 := by
  unfold chunksF
  split
  · intro x hx; cases hx
  · split
    · intro x hx; cases hx
    · exact bytes_chunk (by omega) _ B (Nat.le_refl _) h
/-- As many bytes as any machine could hold. -/
def ULim : Nat := 281474976710656
/-- What the table of the library's package for bits holds at the place that is read: 16 ends in four zeros. -/
def ULaid (w : World) : Prop := w.cell? ⟨6, 15, none⟩ = some (.int .u8 4)
theorem ULaid.pos {w : World} (h : ULaid w) : 6 < w.heap.size := by
  rcases Nat.lt_or_ge 6 w.heap.size with h1 | h1
  · exact h1
  · simp [ULaid, World.cell?, Array.getElem?_eq_none h1] at h
theorem ULaid.below {w w' : World} (h : ULaid w) (hb : Below w.heap.size w w') : ULaid w' :=
  (World.cell?_of_block (a := ⟨6, 15, none⟩) (hb.block _ h.pos)).trans h
end Go.Proofs.YtibipnipeaeonaaGreatDoor
/-
  BYTES AND TEXTS BEHIND BYTES: append, as one law each. No claim by itself.
-/
namespace Go.Proofs.YtibipnipeaeonaaGreatDoor
open Go.RowKit
set_option maxRecDepth 100000
theorem u_info5 : (Tryz.prog.info? 5).map (fun i => (i.zero, i.size, i.bytes)) = some (some (.int .u8 0), 1, 1) := by kernel_rfl
theorem u_news {w : World} {g off len cap : Nat} {Z : List Int} (h : Row w g off len cap Z) : ∀ j u, (Z.map (Value.int .u8))[j]? = some u → w.cell? ((⟨g, off, none⟩ : Addr).add j) = some u := by
  intro j u hj
  rw [List.getElem?_map] at hj
  have hl := h.hlen
  rcases Nat.lt_or_ge j Z.length with h1 | h1
  · rw [List.getElem?_eq_getElem h1] at hj
    have hc := h.hcell j (by omega)
    have hplain : (⟨g, off, none⟩ : Addr).add j = ⟨g, off + j, none⟩ := by unfold Addr.add; split <;> simp_all
    rw [hplain, hc, ← hj]
    simp [List.getD, List.getElem?_eq_getElem h1]
  · rw [List.getElem?_eq_none h1] at hj; simp at hj
theorem u_one (Z : List Int) : ∀ u ∈ Z.map (Value.int .u8), u.oneCell' = true := by
  intro u hu
  obtain ⟨z, _, rfl⟩ := List.mem_map.1 hu
  rfl
theorem UOwn.grown {w w' : World} {base : Nat} {v : Value} {L : List Int} (h : UOwn w base v L) {row : Option Nat} (hg : w.grownBy w' row) (hr : ∀ k, v.ownBlock = some k → row ≠ some k) : UOwn w' base v L :=
  h.block hg.size (fun k hk => hg.block k (h.base k hk).2 (fun e => hr k hk e.symm))
theorem u_below_grown {B : Nat} {a w w' : World} {row : Option Nat} (h : Below B a w) (g : w.grownBy w' row) (hB : B ≤ w.heap.size) (hr : ∀ k, row = some k → B ≤ k) : Below B a w' :=
  ⟨g.os.trans h.os, g.tape.trans h.tape, g.output.trans h.output, Nat.le_trans h.size g.size, fun i hi => (g.block i (Nat.lt_of_lt_of_le hi hB) (fun e => by have := hr i e.symm; omega)).trans (h.block i hi)⟩
def unums (s : ByteArray) : List Int := s.data.toList.map fun c => (c.toNat : Int)
theorem unums_len (s : ByteArray) : (unums s).length = s.size := by
  unfold unums
  rw [List.length_map, Array.length_toList]
  rfl
theorem u_cells (s : ByteArray) : Lib.strCells s = (unums s).map (Value.int .u8) := by
  unfold unums Lib.strCells
  rw [List.map_map]
  rfl
theorem setCells_size (w : World) (g o : Nat) (vs : List Value) : w.heap.size ≤ (w.setCells g o vs).heap.size := by
  induction vs generalizing w o with
  | nil => exact Nat.le_refl _
  | cons v r ih =>
    have h1 : Below g w (w.setCell ⟨g, o, none⟩ v) := (Below.refl g w).setCell (Nat.le_refl _) v
    exact Nat.le_trans h1.size (ih (w.setCell ⟨g, o, none⟩ v) (o + 1))
theorem setCells_grown (w : World) (g o : Nat) (vs : List Value) : w.grownBy (w.setCells g o vs) (some g) := by
  induction vs generalizing w o with
  | nil => exact ⟨rfl, rfl, rfl, Nat.le_refl _, fun _ _ _ => rfl⟩
  | cons v r ih =>
    have h1 : Below g w (w.setCell ⟨g, o, none⟩ v) := (Below.refl g w).setCell (Nat.le_refl _) v
    have h2 := ih (w.setCell ⟨g, o, none⟩ v) (o + 1)
    refine ⟨h2.os.trans h1.os, h2.tape.trans h1.tape, h2.output.trans h1.output, Nat.le_trans h1.size h2.size, fun i hi hne => ?_⟩
    show ((w.setCell ⟨g, o, none⟩ v).setCells g (o + 1) r).heap[i]? = _
    rw [h2.block i (Nat.lt_of_lt_of_le hi h1.size) hne]
    have hne' : g ≠ i := fun e => hne (by rw [e])
    unfold World.setCell
    rw [Array.getElem?_modify]
    simp [hne']
theorem u_getD {L Z : List Int} {t : Nat} : (L ++ Z).getD t 0 = if t < L.length then L.getD t 0 else Z.getD (t - L.length) 0 := by
  by_cases h : t < L.length
  · rw [if_pos h]; simp [List.getD, List.getElem?_append_left h]
  · rw [if_neg h]; simp [List.getD, List.getElem?_append_right (Nat.le_of_not_lt h)]
/-- 'append(b, x...)', whatever yields bytes. -/
theorem run_uapp {tx ty : TypeId} {base : Nat} {v : Value} {L Z : List Int} {x : Value} (w : World) (hown : UOwn w base v L) (hs : Src Tryz.prog 1 tx x Z.length (Z.map (Value.int .u8)) w) (hb : L.length + Z.length ≤ 211106232532992) (hbase : base ≤ w.heap.size) :
    ∃ v' w', (Builtin.append_ #[34, tx] ty #[v, x]).run Tryz.prog w = .ok v' w' ∧ UOwn w' base v' (L ++ Z) ∧ w.grownBy w' v.ownBlock := by
  obtain ⟨i0, hi, hz0, hz1, hz2⟩ := info_parts u_info5
  have hs' : Src Tryz.prog i0.size tx x Z.length (Z.map (Value.int .u8)) w := by rw [hz1]; exact hs
  have grow : ∀ (b0 : Option Addr) (cap : Nat), cap ≤ maxLen → (Builtin.firstCells i0.size L.length (.slice b0 L.length cap)).run Tryz.prog w.drew = .ok (L.map (Value.int .u8)).toArray w.drew → cap < L.length + Z.length →
      ∃ v' w', (Builtin.append_ #[34, tx] ty #[.slice b0 L.length cap, x]).run Tryz.prog w = .ok v' w' ∧ UOwn w' base v' (L ++ Z) ∧ w.grownBy w' (Value.ownBlock (.slice b0 L.length cap)) := by
    intro b0 cap hcm hold hlt
    have hr := run_append_grow_src (P := Tryz.prog) w 34 tx ty 5 i0 (.int .u8 0) Tryz.underlying34 hi hz0 b0 L.length cap (L.map (Value.int .u8)) hold x Z.length (Z.map (Value.int .u8)) hs' hlt (by omega) (by rw [hz2]; exact growslice_fits_wide (by omega) (by omega))
    have hbl := fun ob : Obj => (((Below.refl w.heap.size w).drew).alloc (Nat.le_refl _) ob : Below w.heap.size w (w.drew.alloc ob))
    refine ⟨_, _, hr, UOwn.of ?_, ⟨(hbl _).os, (hbl _).tape, (hbl _).output, (hbl _).size, fun k hk _ => (hbl _).block k hk⟩⟩
    have hge := grownCap_ge w (L.length + Z.length) cap 5
    have hcm2 : grownCap w (L.length + Z.length) cap 5 ≤ maxLen := grownCap_le_maxLen w (L.length + Z.length) cap 5 (by unfold maxLen; omega)
    rw [List.length_append]
    refine ⟨by simp, Or.inr ⟨w.heap.size, _, _, rfl, hbase, heap_alloc_new w.drew _, hge, hcm2, ?_, ?_⟩⟩
    · simp [size_zeroCells]
      have e1 : (Value.int .u8 0).cells.size = 1 := rfl
      simp only [e1]
      omega
    · simp
      rw [← List.append_assoc, List.take_append_of_le_length (by simp), List.take_of_length_le (by simp)]
  rcases hown with ⟨rfl, rfl⟩ | ⟨g, cap, rfl, h1, h2, h3, h4, h5, h6, h7⟩
  · by_cases hz : Z.length = 0
    · obtain rfl : Z = [] := List.eq_nil_of_length_eq_zero hz
      have hrun : (Builtin.append_ #[34, tx] ty #[.slice none 0 0, x]).run Tryz.prog w = .ok (.slice none 0 0) w := by
        have hfc := hs'.cells
        simp only [List.length_nil] at hfc
        rcases hs'.kind with ⟨e', hk⟩ | hk <;> simp [Builtin.append_, run_underlying Tryz.underlying34, run_underlying hk, sizeOf, typeInfo, hi, hs'.len, hfc]
      exact ⟨_, _, hrun, Or.inl ⟨rfl, rfl⟩, ⟨rfl, rfl, rfl, Nat.le_refl _, fun _ _ _ => rfl⟩⟩
    · exact grow none 0 (by decide) (run_firstCells_none w.drew i0.size 0 0 0) (by simp; omega)
  · by_cases hroom : L.length + Z.length ≤ cap
    · have hr := run_append_room_src (P := Tryz.prog) w 34 tx ty 5 i0 Tryz.underlying34 hi g 0 L.length cap x Z.length (Z.map (Value.int .u8)) hs' hroom (fun j hj => h6 _ (by rw [hz1]; simp at hj; omega)) (fun j hj => h7 _ (by rw [hz1]; simp at hj; omega))
      rw [hz1] at hr
      simp only [Nat.zero_add, Nat.mul_one] at hr
      refine ⟨_, _, hr, Or.inr ⟨g, cap, by rw [List.length_append], h1, ?_, by rw [List.length_append]; exact hroom, h4, fun t ht => ?_, fun t ht => World.isSome_setCells g _ _ w _ (h6 t ht), fun t ht => by rw [World.frozen?_setCells]; exact h7 t ht⟩, ?_⟩
      · exact Nat.lt_of_lt_of_le h2 (setCells_size w g _ _)
      · rw [u_getD]
        rw [List.length_append] at ht
        by_cases hc : t < L.length
        · rw [if_pos hc, World.cell?_setCells_out g _ _ w ⟨g, t, none⟩ (fun _ _ => Or.inl hc)]
          exact h5 t hc
        · rw [if_neg hc]
          have := World.cell?_setCells_in g (Z.map (Value.int .u8)) L.length w (fun j hj => h6 _ (by simp at hj; omega)) (t - L.length) (by simp; omega)
          rw [show L.length + (t - L.length) = t by omega] at this
          rw [this]
          simp [List.getD, List.getElem?_eq_getElem (show t - L.length < Z.length by omega)]
      · exact setCells_grown w g _ _
    · refine grow (some ⟨g, 0, none⟩) cap h4 ?_ (by omega)
      have := run_firstCells_some (P := Tryz.prog) w.drew i0.size L.length ⟨g, 0, none⟩ L.length cap (L.map (Value.int .u8)) (by rw [hz1]; simp) (fun j u hj => by
        rw [List.getElem?_map] at hj
        rcases Nat.lt_or_ge j L.length with k | k
        · rw [List.getElem?_eq_getElem k] at hj
          have hplain : (⟨g, 0, none⟩ : Addr).add j = ⟨g, j, none⟩ := by unfold Addr.add; split <;> simp_all
          rw [hplain]
          have hc := h5 j k
          simp [List.getD, List.getElem?_eq_getElem k] at hc
          rw [← hj]
          exact hc
        · rw [List.getElem?_eq_none k] at hj; simp at hj)
      exact this
section
variable (w : World) {ops : Array Oper} {rest : List Oper} {o : Oper} {a : Act} {Q : Exit → Act → World → Prop}
/-- 'append(b, x...)', x bytes. -/
theorem wpList_uapp (hgd : o.guard = none) (s x : Operand) (ho : o.op = .call { callee := .builtin .append, args := #[s, x], argTypes := #[34, 34] })
    (base : Nat) (v : Value) (L : List Int) (hs : a.eval s = v) (hown : UOwn w base v L) (ad : Option Addr) (len cap : Nat) (Z : List Int) (hx : a.eval x = .slice ad len cap) (hA : Arg w ad len cap Z) (_hnil : ad = none → cap = 0)
    (hbytes : L.length + len ≤ 211106232532992) (hbase : base ≤ w.heap.size)
    (h : ∀ v' w', UOwn w' base v' (L ++ Z) → w.grownBy w' v.ownBlock → wpList Tryz.prog ops Q rest (a.put o.dst v') w') : wpList Tryz.prog ops Q (o :: rest) a w := by
  have hZ := hA.len
  have src : Src Tryz.prog 1 34 (.slice ad len cap) Z.length (Z.map (Value.int .u8)) w := by
    rcases hA with ⟨rfl, rfl⟩ | ⟨g, off, rfl, hr⟩
    · cases ad with
      | none => exact Src.ofNil w Tryz.underlying34 cap
      | some ad => exact Src.ofSlice w Tryz.underlying34 ad 0 cap [] rfl (fun q u hq => by simp at hq) (fun u hq => by simp at hq)
    · rw [hZ]
      exact Src.ofSlice w Tryz.underlying34 ⟨g, off, none⟩ len cap (Z.map (Value.int .u8)) (by simp [hZ]) (u_news hr) (u_one Z)
  refine wpList_plain hgd fun K hK => ?_
  obtain ⟨v', w', hr, h2, h3⟩ := run_uapp (ty := o.type) w hown src (by omega) hbase
  unfold Oper.wp execOp
  simp only [ho, resolve, invoke, builtin, Sem.run_bind, Sem.run_pure, Result.andThen_ok, List.map_toArray, List.map_cons, List.map_nil, hs, hx, hr]
  exact hK _ _ (h v' w' h2 h3)
/-- 'append(b, x...)', x a text. -/
theorem wpList_uapps (hgd : o.guard = none) (s x : Operand) (ho : o.op = .call { callee := .builtin .append, args := #[s, x], argTypes := #[34, 9] })
    (base : Nat) (v : Value) (L : List Int) (hs : a.eval s = v) (hown : UOwn w base v L) (t : ByteArray) (hx : a.eval x = .string t) (Z : List Int) (hZ : unums t = Z)
    (hbytes : L.length + Z.length ≤ 140737488355328) (hbase : base ≤ w.heap.size)
    (h : ∀ v' w', UOwn w' base v' (L ++ Z) → w.grownBy w' v.ownBlock → wpList Tryz.prog ops Q rest (a.put o.dst v') w') : wpList Tryz.prog ops Q (o :: rest) a w := by
  have hl : t.size = Z.length := by rw [← hZ, unums_len]
  have src : Src Tryz.prog 1 9 (.string t) Z.length (Z.map (Value.int .u8)) w := by
    have := Src.ofString (P := Tryz.prog) w Tryz.underlying9 t
    rw [← hl, ← hZ]
    unfold unums
    rw [List.map_map]
    exact this
  refine wpList_plain hgd fun K hK => ?_
  obtain ⟨v', w', hr, h2, h3⟩ := run_uapp (ty := o.type) w hown src (by omega) hbase
  unfold Oper.wp execOp
  simp only [ho, resolve, invoke, builtin, Sem.run_bind, Sem.run_pure, Result.andThen_ok, List.map_toArray, List.map_cons, List.map_nil, hs, hx, hr]
  exact hK _ _ (h v' w' h2 h3)
end
end Go.Proofs.YtibipnipeaeonaaGreatDoor
