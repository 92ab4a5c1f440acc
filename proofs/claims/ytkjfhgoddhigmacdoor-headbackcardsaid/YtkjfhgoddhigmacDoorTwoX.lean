/-
  TWO CODERS SIDE BY SIDE; bytes and fields that one of them made. No claim by itself.
-/
import Derived.Test.YtkjfhgoddhigmacDoorM35
namespace Go.Proofs.YtkjfhgoddhigmacDoor
open Go.RowKit
set_option maxRecDepth 100000
/-- Two coders that share nothing. -/
structure Two (base : Nat) (w : World) (c1 : Nat) (s1 : CSt) (S1 : Nat → Prop) (c2 : Nat) (s2 : CSt) (S2 : Nat → Prop) : Prop where
  h1 : HCod w c1 s1 S1
  h2 : HCod w c2 s2 S2
  hd : ∀ k, S1 k → ¬ S2 k
  hb1 : ∀ k, S1 k → base ≤ k
  hb2 : ∀ k, S2 k → base ≤ k
  hbase : base ≤ w.heap.size
theorem Two.below {base : Nat} {w w' : World} {c1 c2 : Nat} {s1 s2 : CSt} {S1 S2 : Nat → Prop} (h : Two base w c1 s1 S1 c2 s2 S2) (hb : Below w.heap.size w w') : Two base w' c1 s1 S1 c2 s2 S2 :=
  ⟨h.h1.below hb, h.h2.below hb, h.hd, h.hb1, h.hb2, Nat.le_trans h.hbase hb.size⟩
theorem Two.left {base : Nat} {w w' : World} {c1 c2 : Nat} {s1 s2 s1' : CSt} {S1 S2 S1' : Nat → Prop} (h : Two base w c1 s1 S1 c2 s2 S2) (ho : Off S1 w w') (hc : HCod w' c1 s1' S1') (hS : ∀ k, S1' k → S1 k ∨ w.heap.size ≤ k) : Two base w' c1 s1' S1' c2 s2 S2 := by
  refine ⟨hc, h.h2.off ho (fun k h2 h1 => h.hd k h1 h2) h.h1.hal, fun k hk h2 => ?_, fun k hk => ?_, h.hb2, Nat.le_trans h.hbase ho.size⟩
  · rcases hS k hk with h1 | h1
    · exact h.hd k h1 h2
    · have := h.h2.hlt k h2; omega
  · rcases hS k hk with h1 | h1
    · exact h.hb1 k h1
    · have := h.hbase; omega
theorem Two.right {base : Nat} {w w' : World} {c1 c2 : Nat} {s1 s2 s2' : CSt} {S1 S2 S2' : Nat → Prop} (h : Two base w c1 s1 S1 c2 s2 S2) (ho : Off S2 w w') (hc : HCod w' c2 s2' S2') (hS : ∀ k, S2' k → S2 k ∨ w.heap.size ≤ k) : Two base w' c1 s1 S1 c2 s2' S2' := by
  refine ⟨h.h1.off ho (fun k h1 h2 => h.hd k h1 h2) h.h2.hal, hc, fun k hk h2 => ?_, h.hb1, fun k hk => ?_, Nat.le_trans h.hbase ho.size⟩
  · rcases hS k h2 with h1 | h1
    · exact h.hd k hk h1
    · have := h.h1.hlt k hk; omega
  · rcases hS k hk with h1 | h1
    · exact h.hb2 k h1
    · have := h.hbase; omega
theorem Two.belowL {base : Nat} {a w w' : World} {c1 c2 : Nat} {s1 s2 : CSt} {S1 S2 : Nat → Prop} (h : Two base w c1 s1 S1 c2 s2 S2) (hb : Below base a w) (ho : Off S1 w w') : Below base a w' := Below.off hb ho h.hbase h.hb1
theorem Two.belowR {base : Nat} {a w w' : World} {c1 c2 : Nat} {s1 s2 : CSt} {S1 S2 : Nat → Prop} (h : Two base w c1 s1 S1 c2 s2 S2) (hb : Below base a w) (ho : Off S2 w w') : Below base a w' := Below.off hb ho h.hbase h.hb2
theorem own_off {S : Nat → Prop} {w w' : World} {base e size n : Nat} {v : Value} {xs : List Value} (h : w.ownsRow base e size v n xs) (ho : Off S w w') (hn : ∀ k, v.ownBlock = some k → ¬ S k) : w'.ownsRow base e size v n xs :=
  own_kept h (fun k hk => ho.block k (h.lt k hk).2 (hn k hk))
/-- Bytes that were made: their value, and that they stay. -/
theorem argS_of {S : Nat → Prop} {w : World} {base n : Nat} {v : Value} {Z : List Int} (hl : Z.length = n) (h : w.ownsRow base 5 1 v n (Z.map (Value.int .u8))) (hb : ∀ x ∈ Z, 0 ≤ x ∧ x < 256) (hn : ∀ k, v.ownBlock = some k → ¬ S k) : ∃ a cap, v = .slice a n cap ∧ ArgS S w a n cap Z := by
  obtain ⟨_, a, cap, rfl, _⟩ := slen_own h
  refine ⟨a, cap, rfl, fun wx ho => ?_⟩
  have hx := own_off h ho hn
  by_cases h0 : n = 0
  · exact Or.inl ⟨h0, List.eq_nil_of_length_eq_zero (by omega)⟩
  · obtain ⟨g, cap', e⟩ := shape_n hx (by omega)
    cases e
    exact Or.inr ⟨g, 0, rfl, row_of hl hx hb⟩
theorem farg_of {w : World} {base n : Nat} {v : Value} {L : List (ByteArray × ByteArray)} (hl : L.length = n) (h : w.ownsRow base 33 2 v n (fcells L)) : ∃ a cap, v = .slice a n cap ∧ FArg w a n cap L := by
  obtain ⟨a, cap, rfl⟩ := dslen_own h
  refine ⟨a, cap, rfl, ?_⟩
  by_cases h0 : n = 0
  · exact Or.inl ⟨h0, List.eq_nil_of_length_eq_zero (by omega)⟩
  · obtain ⟨g, cap', e, _, _⟩ := World.ownsRow.form h (by omega)
    cases e
    exact Or.inr ⟨g, 0, rfl, dfrow_of hl h⟩
theorem HFit.new {max : Int} (h0 : 0 ≤ max) (h1 : max ≤ 4096) : HFit ⟨max, max, max, [], [], [], false⟩ := ⟨Fit.nil h0 h1, Fit.nil h0 h1, ⟨h0, h1⟩, fun x hx => by simp at hx, fun h => absurd rfl h⟩
theorem HFit.inn' {st : CSt} (h : HFit st) {mi : Int} {AI : List (ByteArray × ByteArray)} (hF : Fit mi AI) : HFit { st with mi := mi, AI := AI } := ⟨h.out, hF, h.hmost, h.hsz, h.hlast⟩
/-- Bytes that Encode wrote. -/
theorem enc_bytes {st : CSt} (h : HFit st) (L : List (ByteArray × ByteArray)) : ∀ x ∈ szL st.sz ++ (encL st.mo st.AO L).1, 0 ≤ x ∧ x < 256 := by
  intro x hx
  rcases List.mem_append.1 hx with h1 | h1
  · exact szL_byte st.sz h.hsz x h1
  · exact encL_byte L h.out x h1
theorem not_much {L : List (ByteArray × ByteArray)} (h : ¬ tooMuch L) : L.length ≤ 40 ∧ weight L ≤ 2000 ∧ ∀ f ∈ L, small f :=
  ⟨Nat.le_of_not_lt (fun h1 => h (Or.inl h1)), Nat.le_of_not_lt (fun h1 => h (Or.inr (Or.inl h1))), fun f hf => Classical.byContradiction (fun h1 => h (Or.inr (Or.inr ⟨f, hf, h1⟩)))⟩
end Go.Proofs.YtkjfhgoddhigmacDoor
