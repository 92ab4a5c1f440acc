/-
  WHAT IS ASKED of the Go functions code.Encode, code.Bits and code.Decode, for as many bytes as any machine could hold: their contracts, as statements. No claim by itself.
-/
import Derived.Test.YtdlaaollamgplagGreatDoorRow
import Derived.Test.YtdlaaollamgplagGreatDoorArg0
import Derived.Test.YtdlaaollamgplagGreatDoorCmath
namespace Go.Proofs.YtdlaaollamgplagGreatDoor
open Go.RowKit
/-- A text's bytes, as numbers. -/
def nums (s : ByteArray) : List Int := s.data.toList.map fun c => (c.toNat : Int)
/-- Bytes that a callee made: none, or a row of its own. -/
def Made (w : World) (base : Nat) (v : Value) (n : Nat) (L : List Int) : Prop :=
  L.length = n ∧ ((v = .slice none 0 0 ∧ n = 0) ∨ ∃ g cap, v = .slice (some ⟨g, 0, none⟩) n cap ∧ base ≤ g ∧ Row w g 0 n cap L)
theorem Made.below {w w' : World} {base n : Nat} {v : Value} {L : List Int} (h : Made w base v n L) (hb : Below w.heap.size w w') : Made w' base v n L := by
  obtain ⟨h1, h2 | ⟨g, cap, hv, hg, hr⟩⟩ := h
  · exact ⟨h1, Or.inl h2⟩
  · exact ⟨h1, Or.inr ⟨g, cap, hv, hg, hr.below hb⟩⟩
theorem slice_made {w : World} {base n : Nat} {v : Value} {L : List Int} (h : Made w base v n L) : ∃ a cap, v = .slice a n cap ∧ n ≤ cap ∧ cap ≤ maxLen := by
  obtain ⟨_, ⟨rfl, rfl⟩ | ⟨g, cap, rfl, _, hr⟩⟩ := h
  · exact ⟨none, 0, rfl, Nat.le_refl _, by decide⟩
  · exact ⟨_, cap, rfl, hr.hcap, hr.hmax⟩
theorem arg_made {w : World} {base n cap : Nat} {a : Option Addr} {L : List Int} (h : Made w base (.slice a n cap) n L) : Arg w a n cap L := by
  obtain ⟨h1, ⟨hv, h0⟩ | ⟨g, cp, hv, _, hr⟩⟩ := h
  · exact Or.inl ⟨h0, List.eq_nil_of_length_eq_zero (by omega)⟩
  · cases hv
    exact Or.inr ⟨g, 0, rfl, hr⟩
theorem string_made {w : World} {base n : Nat} {v : Value} {O : List Int} (h : Made w base v n O) :
    (convert 23 9 v).run Tryz.prog w = .ok (.string (strOfNums O)) w := by
  obtain ⟨h1, ⟨rfl, h0⟩ | ⟨g, cap, rfl, hb, hr⟩⟩ := h
  · have e : O = [] := List.eq_nil_of_length_eq_zero (by omega)
    rw [e, run_convert_bytes_nil (P := Tryz.prog) w 23 5 Tryz.underlying23 Tryz.underlying5 0 0 9 Tryz.underlying9]
    rfl
  · exact run_convert_bytes_arg w 23 5 Tryz.underlying23 Tryz.underlying5 g 0 n cap O h1 hr.hcell 9 Tryz.underlying9
def EncSaid : Prop := ∀ (s : ByteArray) (w : World), s.size ≤ 211106232532992 →
    Calls Tryz.prog 206 #[.string s] w fun e w' => ∃ v, e = .returned v ∧ Made w' w.heap.size v (codeL (nums s)).length (codeL (nums s)) ∧ Below w.heap.size w w'
def BitsSaid : Prop := ∀ (s : ByteArray) (w : World), s.size ≤ 281474976710656 →
    Calls Tryz.prog 242 #[.string s] w fun e w' => e = .returned (.int .i64 (bitsL (nums s)).length) ∧ Below w.heap.size w w'
/-- What a reading of bytes as a text gives: a text and nil, or an error. -/
def ToldDec (d : Option (List Int)) (st : ByteArray) (x : Value) : Prop :=
  (∃ t, d = some t ∧ x = .nilIface ∧ st = strOfNums t) ∨ (d = none ∧ x = .iface 88 (.int .i64 2) ∧ st = ⟨#[]⟩)
def DecSaid : Prop := ∀ (a : Option Addr) (len cap : Nat) (Z : List Int) (w : World), Arg w a len cap Z → len ≤ 158329674399744 →
    Calls Tryz.prog 291 #[.slice a len cap] w fun e w' => ∃ st x, e = .returned (.tuple #[.string st, x]) ∧ ToldDec (decF Z) st x ∧ Below w.heap.size w w'
end Go.Proofs.YtdlaaollamgplagGreatDoor
