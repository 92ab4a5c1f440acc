/-
  BYTES THAT ARE HANDED IN, and bytes that a callee made: what is known of them, later too; and as a text. No claim by itself.
-/
import Derived.Test.YtkjfhgoddhigmacDoorM09
import Derived.Test.YtkjfhgoddhigmacDoorM08
namespace Go.Proofs.YtkjfhgoddhigmacDoor
open Go.RowKit
/-- Bytes that are handed in: none, or a row. -/
def Arg (w : World) (a : Option Addr) (len cap : Nat) (Z : List Int) : Prop :=
  (len = 0 ∧ Z = []) ∨ ∃ g off, a = some ⟨g, off, none⟩ ∧ Row w g off len cap Z
theorem Arg.below {w w' : World} {a : Option Addr} {len cap : Nat} {Z : List Int} (h : Arg w a len cap Z) (hb : Below w.heap.size w w') : Arg w' a len cap Z := by
  rcases h with h | ⟨g, off, ha, hr⟩
  · exact Or.inl h
  · exact Or.inr ⟨g, off, ha, hr.below hb⟩
theorem arg_of {w : World} {x : Addr} {len cap : Nat} {zs : List Int} (hz : zs.length = cap) (hl : len ≤ cap) (hm : cap ≤ maxLen)
    (hcell : ∀ i, i < zs.length → w.cell? (x.add i) = some (.int .u8 (zs.getD i 0))) (hwz : ∀ n ∈ zs, (Lit.int .u8 n).wf = true) : Arg w (some x) len cap (zs.take len) := by
  by_cases h0 : len = 0
  · subst h0; exact Or.inl ⟨rfl, by simp⟩
  · have hc := hcell 0 (by omega)
    obtain ⟨g, off, spot⟩ := x
    have hspot : spot = none := by simpa [Addr.add] using World.cell?_spot hc
    subst hspot
    refine Or.inr ⟨g, off, rfl, by simp; omega, hl, hm, fun t ht => ?_, fun t => ?_⟩
    · have h1 := hcell t (by omega)
      have e : (zs.take len).getD t 0 = zs.getD t 0 := by simp [List.getD, ht]
      have hplain : (⟨g, off, none⟩ : Addr).add t = ⟨g, off + t, none⟩ := by unfold Addr.add; split <;> simp_all
      rw [e, ← hplain]
      exact h1
    · by_cases ht : t < len
      · have e : (zs.take len).getD t 0 = zs.getD t 0 := by simp [List.getD, ht]
        have hmem : zs.getD t 0 ∈ zs := by
          rw [List.getD, List.getElem?_eq_getElem (show t < zs.length by omega)]
          exact List.getElem_mem _
        have hw := hwz _ hmem
        rw [e]
        generalize zs.getD t 0 = y at *
        simp [Lit.wf, IntKind.min, IntKind.max, IntKind.bits, IntKind.signed] at hw
        omega
      · have e : (zs.take len).getD t 0 = 0 := by simp [List.getD, List.getElem?_take, ht]
        rw [e]; decide
theorem string_of_row {w w' : World} {g base l cap : Nat} {L : List Int} (hl : L.length = l) (h : w.ownsRow base 5 1 (.slice (some ⟨g, 0, none⟩) l cap) l (L.map (Value.int .u8))) (hb : Below (g + 1) w w') :
    (convert 29 9 (.slice (some ⟨g, 0, none⟩) l cap)).run Tryd.prog w' = .ok (.string (strOfNums L)) w' := by
  refine run_convert_bytes_arg w' 29 5 Tryd.underlying29 Tryd.underlying5 g 0 l cap L hl (fun i hi => ?_) 9 Tryd.underlying9
  have hc := h.cellAt i (by omega)
  rw [Nat.zero_add, hb.cell (p := ⟨g, i, none⟩) (Nat.lt_succ_self g), hc]
  simp [List.getElem?_eq_getElem (show i < L.length by omega)]
theorem row_lt {w : World} {base : Nat} {v : Value} {n : Nat} {xs : List Value} {g : Nat} {cap : Nat} (h : w.ownsRow base 5 1 v n xs) (hv : v = .slice (some ⟨g, 0, none⟩) n cap) : g < w.heap.size :=
  (h.lt g (by rw [hv]; rfl)).2
end Go.Proofs.YtkjfhgoddhigmacDoor
/-
  WHAT IS ASKED of the Go functions code.Encode, code.Bits and code.Decode, for as many bytes as any machine could hold: their contracts, as statements. No claim by itself.
-/
namespace Go.Proofs.YtkjfhgoddhigmacDoor
open Go.RowKit
/-- A text's bytes, as numbers. -/
def nums (s : ByteArray) : List Int := s.data.toList.map fun c => (c.toNat : Int)
/-- Bytes that a callee made: none, or a row of its own. -/
def Made (w : World) (base : Nat) (v : Value) (n : Nat) (L : List Int) : Prop :=
  L.length = n ∧ ((v = .slice none 0 0 ∧ n = 0) ∨ ∃ g cap, v = .slice (some ⟨g, 0, none⟩) n cap ∧ base ≤ g ∧ Row w g 0 n cap L)
theorem Made.below {w w' : World} {base n : Nat} {v : Value} {L : List Int} (h : Made w base v n L) (hb : Below w.heap.size w w') : Made w' base v n L := by
  obtain ⟨h1, h2 | ⟨g, cap, hv, hg, hr⟩⟩ := h
  · exact ⟨h1, Or.inl h2⟩
  · exact ⟨h1, Or.inr ⟨g, cap, hv, hg, hr.below hb⟩⟩
theorem slice_made {w : World} {base n : Nat} {v : Value} {L : List Int} (h : Made w base v n L) : ∃ a cap, v = .slice a n cap ∧ n ≤ cap ∧ cap ≤ maxLen := by
  obtain ⟨_, ⟨rfl, rfl⟩ | ⟨g, cap, rfl, _, hr⟩⟩ := h
  · exact ⟨none, 0, rfl, Nat.le_refl _, by decide⟩
  · exact ⟨_, cap, rfl, hr.hcap, hr.hmax⟩
theorem arg_made {w : World} {base n cap : Nat} {a : Option Addr} {L : List Int} (h : Made w base (.slice a n cap) n L) : Arg w a n cap L := by
  obtain ⟨h1, ⟨hv, h0⟩ | ⟨g, cp, hv, _, hr⟩⟩ := h
  · exact Or.inl ⟨h0, List.eq_nil_of_length_eq_zero (by omega)⟩
  · cases hv
    exact Or.inr ⟨g, 0, rfl, hr⟩
theorem string_made {w : World} {base n : Nat} {v : Value} {O : List Int} (h : Made w base v n O) :
    (convert 29 9 v).run Tryd.prog w = .ok (.string (strOfNums O)) w := by
  obtain ⟨h1, ⟨rfl, h0⟩ | ⟨g, cap, rfl, hb, hr⟩⟩ := h
  · have e : O = [] := List.eq_nil_of_length_eq_zero (by omega)
    rw [e, run_convert_bytes_nil (P := Tryd.prog) w 29 5 Tryd.underlying29 Tryd.underlying5 0 0 9 Tryd.underlying9]
    rfl
  · exact run_convert_bytes_arg w 29 5 Tryd.underlying29 Tryd.underlying5 g 0 n cap O h1 hr.hcell 9 Tryd.underlying9
def EncSaid : Prop := ∀ (s : ByteArray) (w : World), s.size ≤ 211106232532992 →
    Calls Tryd.prog 34 #[.string s] w fun e w' => ∃ v, e = .returned v ∧ Made w' w.heap.size v (codeL (nums s)).length (codeL (nums s)) ∧ Below w.heap.size w w'
def BitsSaid : Prop := ∀ (s : ByteArray) (w : World), s.size ≤ 281474976710656 →
    Calls Tryd.prog 44 #[.string s] w fun e w' => e = .returned (.int .i64 (bitsL (nums s)).length) ∧ Below w.heap.size w w'
/-- What a reading of bytes as a text gives: a text and nil, or an error. -/
def ToldDec (d : Option (List Int)) (st : ByteArray) (x : Value) : Prop :=
  (∃ t, d = some t ∧ x = .nilIface ∧ st = strOfNums t) ∨ (d = none ∧ x = .iface 49 (.int .i64 2) ∧ st = ⟨#[]⟩)
def DecSaid : Prop := ∀ (a : Option Addr) (len cap : Nat) (Z : List Int) (w : World), Arg w a len cap Z → len ≤ 158329674399744 →
    Calls Tryd.prog 61 #[.slice a len cap] w fun e w' => ∃ st x, e = .returned (.tuple #[.string st, x]) ∧ ToldDec (decF Z) st x ∧ Below w.heap.size w w'
end Go.Proofs.YtkjfhgoddhigmacDoor
