/-
  THE DOCUMENT'S CODER AND THE DEVELOPERS', side by side. No claim by itself.
-/
import Derived.Test.YtkjfhgoddhigmacGreatDoorM32
import Derived.Test.YtkjfhgoddhigmacGreatDoorM33
import Derived.Test.YtkjfhgoddhigmacGreatDoorM34
import Derived.Test.YtkjfhgoddhigmacGreatDoorBopenX
namespace Go.Proofs.YtkjfhgoddhigmacGreatDoor
open Go.RowKit
set_option maxRecDepth 100000
structure Both (w0 wr : World) (cd : Nat) (sd : CSt) (SD : Nat → Prop) (cr : Nat) (sr : CSt) (SR : Nat → Prop) : Prop where
  hD : HCod wr cd sd SD
  hR : CodR wr cr sr SR
  hdis : ∀ k, SD k → ¬ SR k
  hbD : ∀ k, SD k → w0.heap.size ≤ k
  hbR : ∀ k, SR k → w0.heap.size ≤ k
  hbel : Below w0.heap.size w0 wr
  hal : 1 < w0.heap.size
theorem Both.below {w0 wr wx : World} {cd cr : Nat} {sd sr : CSt} {SD SR : Nat → Prop} (h : Both w0 wr cd sd SD cr sr SR) (hb : Below wr.heap.size wr wx) : Both w0 wx cd sd SD cr sr SR :=
  ⟨h.hD.below hb, h.hR.below hb, h.hdis, h.hbD, h.hbR, h.hbel.trans (hb.mono h.hbel.size), h.hal⟩
theorem Both.dev {w0 wr wx : World} {cd cr : Nat} {sd sr sd' : CSt} {SD SR SD' : Nat → Prop} (h : Both w0 wr cd sd SD cr sr SR) (ho : Off SD wr wx) (hc : HCod wx cd sd' SD') (hS : ∀ k, SD' k → SD k ∨ wr.heap.size ≤ k) : Both w0 wx cd sd' SD' cr sr SR := by
  refine ⟨hc, h.hR.frame ho.size (fun k hk => ho.block k (h.hR.hlt k hk) (fun hd => h.hdis k hd hk)), fun k hk h2 => ?_, fun k hk => ?_, h.hbR, Below.off h.hbel ho h.hbel.size h.hbD, h.hal⟩
  · rcases hS k hk with h1 | h1
    · exact h.hdis k h1 h2
    · have := h.hR.hlt k h2; omega
  · rcases hS k hk with h1 | h1
    · exact h.hbD k h1
    · have := h.hbel.size; omega
theorem Both.doc {w0 wr wx : World} {cd cr : Nat} {sd sr sr' : CSt} {SD SR SR' : Nat → Prop} (h : Both w0 wr cd sd SD cr sr SR) (ho : Off SR wr wx) (hc : CodR wx cr sr' SR') (hS : ∀ k, SR' k → SR k ∨ wr.heap.size ≤ k) : Both w0 wx cd sd SD cr sr' SR' := by
  refine ⟨h.hD.off ho (fun k hd hr => h.hdis k hd hr) (fun hx => by have h1 := h.hbR _ hx; have h2 := h.hal; omega), hc, fun k hk h2 => ?_, h.hbD, fun k hk => ?_, Below.off h.hbel ho h.hbel.size h.hbR, h.hal⟩
  · rcases hS k h2 with h1 | h1
    · exact h.hdis k hk h1
    · have := h.hD.hlt k hk; omega
  · rcases hS k hk with h1 | h1
    · exact h.hbR k h1
    · have := h.hbel.size; omega
/-- Ahead of reading: what both hold. -/
def PA (max : Int) (w0 wr : World) (cd cr j : Nat) : Prop := ∃ mo AO sz SD SR, Both w0 wr cd ⟨mo, max, max, AO, [], sz, false⟩ SD cr ⟨mo, max, max, AO, [], sz, false⟩ SR ∧ HFit ⟨mo, max, max, AO, [], sz, false⟩ ∧ sz.length ≤ j
/-- While reading: what both hold. -/
def PB (max : Int) (w0 wr : World) (cd cr : Nat) : Prop := ∃ mo AO sz mi AI mi' AI' bad SD SR, Both w0 wr cd ⟨mo, mi, max, AO, AI, sz, bad⟩ SD cr ⟨mo, mi', max, AO, AI', sz, bad⟩ SR ∧ HFit ⟨mo, mi, max, AO, AI, sz, bad⟩ ∧ sz.length ≤ 20 ∧ (bad = false → mi' = mi ∧ AI' = AI)
theorem HFit.doc {st : CSt} (h : HFit st) (hl : st.sz.length ≤ 1048576) : CFit st := ⟨h.out, h.inn, h.hmost, h.hsz, hl⟩
theorem made_own {w : World} {base n : Nat} {v : Value} {L : List Int} (hl : L.length = n) (h : w.ownsRow base 5 1 v n (L.map (Value.int .u8))) (hb : ∀ x ∈ L, 0 ≤ x ∧ x < 256) : Made w base v n L := by
  refine ⟨hl, ?_⟩
  by_cases h0 : n = 0
  · subst h0
    have hL : L = [] := List.eq_nil_of_length_eq_zero hl
    subst hL
    obtain ⟨_, ⟨rfl, _⟩ | ⟨g, cap, cur, rfl, hg, hc, r⟩⟩ := h
    · exact Or.inl ⟨rfl, rfl⟩
    · exact Or.inr ⟨g, cap, rfl, hg, rfl, Nat.zero_le _, r.2.1, fun t ht => absurd ht (Nat.not_lt_zero _), fun t => by simp⟩
  · obtain ⟨g, cap, rfl⟩ := shape_n h (by omega)
    exact Or.inr ⟨g, cap, rfl, (h.lt g rfl).1, row_of hl h hb⟩
end Go.Proofs.YtkjfhgoddhigmacGreatDoor
