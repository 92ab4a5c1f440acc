/-
  READING A LIST OF FIELDS, piece by piece: mathematics; and bytes that are cut. No claim by itself.
-/
import Derived.Test.YtkjfhgoddhigmacDoorDcod11
namespace Go.Proofs.YtkjfhgoddhigmacDoor
open Go.RowKit
set_option maxRecDepth 100000
theorem always_small2 : ∀ f ∈ alwaysL, f.1.size + f.2.size ≤ 4096 := by decide +kernel
theorem num_small {mx : Int} (A : List (ByteArray × ByteArray)) (Z : List Int) (h : Fit mx A) : (numF A Z).1.1.size + (numF A Z).1.2.size ≤ 10000 := by
  have key : ∀ i, ((alwaysL ++ A).getD i fnone).1.size + ((alwaysL ++ A).getD i fnone).2.size ≤ 10000 := fun i => by
    by_cases hi : i < (alwaysL ++ A).length
    · have hm : (alwaysL ++ A).getD i fnone ∈ alwaysL ++ A := by rw [List.getD, List.getElem?_eq_getElem hi]; exact List.getElem_mem _
      rcases List.mem_append.1 hm with h1 | h1
      · have := always_small2 _ h1; omega
      · have := h.size _ h1; omega
    · rw [List.getD, List.getElem?_eq_none (by omega)]; decide
  unfold numF
  split
  · exact (by decide : fnone.1.size + fnone.2.size ≤ 10000)
  · split
    · exact key _
    · exact (by decide : fnone.1.size + fnone.2.size ≤ 10000)
theorem fld_small {mx : Int} (A : List (ByteArray × ByteArray)) (Z : List Int) (h : Fit mx A) (hk : (fldF mx A Z).1.2.2 = 0) : (fldF mx A Z).1.1.1.size + (fldF mx A Z).1.1.2.size ≤ 10000 := by
  unfold fldF at hk ⊢
  split
  · exact num_small A Z h
  · rename_i h1
    rw [if_neg h1] at hk
    split
    · rename_i h2
      rw [if_pos h2] at hk
      exact lit_small A Z 6 h hk
    · rename_i h2
      rw [if_neg h2] at hk
      exact lit_small A Z 4 h hk
theorem dc_nil (most : Int) (k : Nat) (mx : Int) (A acc : List (ByteArray × ByteArray)) (Z : List Int) (h : Z.length = 0) : dcF most k mx A acc Z = (acc, 0, mx, A) := by
  match k with
  | 0 => rfl
  | k + 1 => unfold dcF; rw [if_pos h]
theorem dc_sz_ok (most : Int) (k : Nat) (mx : Int) (A acc : List (ByteArray × ByteArray)) (Z : List Int) (h : 0 < Z.length) (hz : 31 < Z.getD 0 0 ∧ Z.getD 0 0 < 64) (h1 : (getF Z 5).2.2 = 0) (h2 : (getF Z 5).1 ≤ most) (h3 : acc.length = 0) :
    dcF most (k + 1) mx A acc Z = dcF most k (getF Z 5).1 (A.take (keepN A (getF Z 5).1 A.length)) acc (Z.drop (getF Z 5).2.1.toNat) := by
  rw [dcF, if_neg (by omega), if_pos hz, if_neg (by omega), if_neg (by omega), if_neg (by omega)]
theorem dc_sz_bad (most : Int) (k : Nat) (mx : Int) (A acc : List (ByteArray × ByteArray)) (Z : List Int) (h : 0 < Z.length) (hz : 31 < Z.getD 0 0 ∧ Z.getD 0 0 < 64) (hb : ¬ ((getF Z 5).2.2 = 0 ∧ (getF Z 5).1 ≤ most ∧ acc.length = 0)) :
    dcF most (k + 1) mx A acc Z = ([], if (getF Z 5).2.2 ≠ 0 then (getF Z 5).2.2 else if most < (getF Z 5).1 then 1 else 6, mx, A) := by
  rw [dcF, if_neg (by omega), if_pos hz]
  by_cases h1 : (getF Z 5).2.2 ≠ 0
  · rw [if_pos h1, if_pos h1]
  · rw [if_neg h1, if_neg h1]
    by_cases h2 : most < (getF Z 5).1
    · rw [if_pos h2, if_pos h2]
    · rw [if_neg h2, if_neg h2, if_pos]
      have h1' : (getF Z 5).2.2 = 0 := by simpa using h1
      by_cases h3 : acc.length = 0
      · exact absurd ⟨h1', by omega, h3⟩ hb
      · omega
theorem dc_fl_bad (most : Int) (k : Nat) (mx : Int) (A acc : List (ByteArray × ByteArray)) (Z : List Int) (h : 0 < Z.length) (hz : ¬ (31 < Z.getD 0 0 ∧ Z.getD 0 0 < 64)) (h1 : (fldF mx A Z).1.2.2 ≠ 0) :
    dcF most (k + 1) mx A acc Z = ([], (fldF mx A Z).1.2.2, mx, (fldF mx A Z).2) := by
  rw [dcF, if_neg (by omega), if_neg hz, if_pos h1]
theorem dc_fl_full (most : Int) (k : Nat) (mx : Int) (A acc : List (ByteArray × ByteArray)) (Z : List Int) (h : 0 < Z.length) (hz : ¬ (31 < Z.getD 0 0 ∧ Z.getD 0 0 < 64)) (h1 : (fldF mx A Z).1.2.2 = 0) (h2 : 40 < (acc ++ [(fldF mx A Z).1.1]).length ∨ 2000 < weight (acc ++ [(fldF mx A Z).1.1])) :
    dcF most (k + 1) mx A acc Z = ([], 4, mx, (fldF mx A Z).2) := by
  rw [dcF, if_neg (by omega), if_neg hz, if_neg (by omega), if_pos h2]
theorem dc_fl_ok (most : Int) (k : Nat) (mx : Int) (A acc : List (ByteArray × ByteArray)) (Z : List Int) (h : 0 < Z.length) (hz : ¬ (31 < Z.getD 0 0 ∧ Z.getD 0 0 < 64)) (h1 : (fldF mx A Z).1.2.2 = 0) (h2 : ¬ (40 < (acc ++ [(fldF mx A Z).1.1]).length ∨ 2000 < weight (acc ++ [(fldF mx A Z).1.1]))) :
    dcF most (k + 1) mx A acc Z = dcF most k mx (fldF mx A Z).2 (acc ++ [(fldF mx A Z).1.1]) (Z.drop (fldF mx A Z).1.2.1.toNat) := by
  rw [dcF, if_neg (by omega), if_neg hz, if_neg (by omega), if_neg h2]
theorem dfrow_of {w : World} {base g n cap : Nat} {L : List (ByteArray × ByteArray)} (hl : L.length = n) (h : w.ownsRow base 33 2 (.slice (some ⟨g, 0, none⟩) n cap) n (fcells L)) : FRow w g 0 n cap L := by
  have hcap : n ≤ cap ∧ cap ≤ maxLen := by
    obtain ⟨_, ⟨hv, _⟩ | ⟨g', cap', cur, hv, _, _, hc, hm, _⟩⟩ := h
    · cases hv
    · cases hv; exact ⟨hc, hm⟩
  refine ⟨hl, hcap.1, hcap.2, fun t ht => ?_, fun t ht => ?_⟩
  · have hc := h.cellAt (2 * t) (by omega)
    rw [show 0 + t * 2 = 2 * t from by omega, hc, (fcells_at L t (by omega)).1]
  · have hc := h.cellAt (2 * t + 1) (by omega)
    rw [show 0 + t * 2 + 1 = 2 * t + 1 from by omega, hc, (fcells_at L t (by omega)).2]
theorem dslen_own {w : World} {base n : Nat} {v : Value} {xs : List Value} (h : w.ownsRow base 33 2 v n xs) : ∃ a cap, v = .slice a n cap := by
  obtain ⟨_, ⟨rfl, rfl⟩ | ⟨g, cap, cur, rfl, _⟩⟩ := h
  · exact ⟨_, _, rfl⟩
  · exact ⟨_, _, rfl⟩
/-- Bytes that stay as they are while a coder turns; cut, they do so too. -/
def ArgS (S : Nat → Prop) (w : World) (a : Option Addr) (len cap : Nat) (Z : List Int) : Prop := ∀ wx, Off S w wx → Arg wx a len cap Z
theorem ArgS.cut {S : Nat → Prop} {w : World} {g off len cap : Nat} {Z : List Int} (h : ArgS S w (some ⟨g, off, none⟩) len cap Z) (u : Nat) (hu : u ≤ len) (hl : 0 < len) :
    ∃ o, (if cap = u then some (⟨g, off, none⟩ : Addr) else some ⟨g, off + u, none⟩) = some ⟨g, o, none⟩ ∧ ArgS S w (some ⟨g, o, none⟩) (len - u) (cap - u) (Z.drop u) := by
  have row : ∀ wx, Off S w wx → Row wx g off len cap Z := fun wx ho => by
    rcases h wx ho with ⟨h0, _⟩ | ⟨g', off', e, hr⟩
    · omega
    · cases e; exact hr
  obtain ⟨o, ho, _⟩ := tail_row (row w (Off.of_below (Below.refl _ _))) u hu
  refine ⟨o, ho, fun wx hx => ?_⟩
  obtain ⟨o', ho', hr'⟩ := tail_row (row wx hx) u hu
  have e := ho.symm.trans ho'
  cases e
  exact Or.inr ⟨g, o, rfl, hr'⟩
end Go.Proofs.YtkjfhgoddhigmacDoor
