/-
  WHAT IS ASKED of the Go functions code.Encode, code.Bits and code.Decode, for as many bytes as any machine could hold: their contracts, as statements. No claim by itself.
-/
import Derived.Test.YtdlaaollamgpladRow
import Derived.Test.YtdlaaollamgpladArg0
import Derived.Test.YtdlaaollamgpladCmath
namespace Go.Proofs.Ytdlaaollamgplad
open Go.RowKit
/-- A text's bytes, as numbers. -/
def nums (s : ByteArray) : List Int := s.data.toList.map fun c => (c.toNat : Int)
/-- Bytes that a callee made: none, or a row of its own. -/
def Made (w : World) (base : Nat) (v : Value) (n : Nat) (L : List Int) : Prop :=
  L.length = n ∧ ((v = .slice none 0 0 ∧ n = 0) ∨ ∃ g cap, v = .slice (some ⟨g, 0, none⟩) n cap ∧ base ≤ g ∧ Row w g 0 n cap L)
theorem Made.below {w w' : World} {base n : Nat} {v : Value} {L : List Int} (h : Made w base v n L) (hb : Below w.heap.size w w') : Made w' base v n L := by
  obtain ⟨h1, h2 | ⟨g, cap, hv, hg, hr⟩⟩ := h
  · exact ⟨h1, Or.inl h2⟩
  · exact ⟨h1, Or.inr ⟨g, cap, hv, hg, hr.below hb⟩⟩
theorem slice_made {w : World} {base n : Nat} {v : Value} {L : List Int} (h : Made w base v n L) : ∃ a cap, v = .slice a n cap ∧ n ≤ cap ∧ cap ≤ maxLen := by
  obtain ⟨_, ⟨rfl, rfl⟩ | ⟨g, cap, rfl, _, hr⟩⟩ := h
  · exact ⟨none, 0, rfl, Nat.le_refl _, by decide⟩
  · exact ⟨_, cap, rfl, hr.hcap, hr.hmax⟩
theorem arg_made {w : World} {base n cap : Nat} {a : Option Addr} {L : List Int} (h : Made w base (.slice a n cap) n L) : Arg w a n cap L := by
  obtain ⟨h1, ⟨hv, h0⟩ | ⟨g, cp, hv, _, hr⟩⟩ := h
  · exact Or.inl ⟨h0, List.eq_nil_of_length_eq_zero (by omega)⟩
  · cases hv
    exact Or.inr ⟨g, 0, rfl, hr⟩
theorem string_made {w : World} {base n : Nat} {v : Value} {O : List Int} (h : Made w base v n O) :
    (convert 23 9 v).run Try.prog w = .ok (.string (strOfNums O)) w := by
  obtain ⟨h1, ⟨rfl, h0⟩ | ⟨g, cap, rfl, hb, hr⟩⟩ := h
  · have e : O = [] := List.eq_nil_of_length_eq_zero (by omega)
    rw [e, run_convert_bytes_nil (P := Try.prog) w 23 5 Try.underlying23 Try.underlying5 0 0 9 Try.underlying9]
    rfl
  · exact run_convert_bytes_arg w 23 5 Try.underlying23 Try.underlying5 g 0 n cap O h1 hr.hcell 9 Try.underlying9
/-- What a reading of bytes as a text gives: a text and nil, or an error. -/
def ToldDec (d : Option (List Int)) (st : ByteArray) (x : Value) : Prop :=
  (∃ t, d = some t ∧ x = .nilIface ∧ st = strOfNums t) ∨ (d = none ∧ x = .iface 58 (.int .i64 2) ∧ st = ⟨#[]⟩)
end Go.Proofs.Ytdlaaollamgplad
