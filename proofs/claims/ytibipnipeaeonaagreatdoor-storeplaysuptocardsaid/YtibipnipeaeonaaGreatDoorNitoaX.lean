/-
  CONTRACT of the Go function strconv.Itoa at numbers that are not great. No claim by itself.
-/
import Derived.Test.YtibipnipeaeonaaGreatDoorML
import Derived.Test.YtibipnipeaeonaaGreatDoorWh1X
import Derived.Test.YtibipnipeaeonaaGreatDoorItoa0
namespace Go.Proofs.YtibipnipeaeonaaGreatDoor
open Go Go.RowKit Go.Shelf
set_option maxRecDepth 100000
/-- What is known of the library's tables. -/
def NLaid (w : World) : Prop := ULaid w ∧ Lib.TabIs Tryz.prog w "internal/strconv.uint64pow10" .u64 Lib.pow10Tab
theorem NLaid.below {w w' : World} (h : NLaid w) (hb : Below w.heap.size w w') : NLaid w' := by
  refine ⟨h.1.below hb, ?_⟩
  have h := h.2
  have hgn : Tryz.prog.globalNamed "internal/strconv.uint64pow10" = some 4 := by kernel_rfl
  unfold Lib.TabIs World.var? at h ⊢
  rw [hgn] at h ⊢
  simp only [Option.bind_some] at h ⊢
  have hlt : 4 < w.heap.size := by
    rcases Nat.lt_or_ge 4 w.heap.size with h' | h'
    · exact h'
    · rw [Array.getElem?_eq_none h'] at h; cases h
  rw [hb.block 4 hlt]
  exact h
def nld : NLd := ⟨NLaid, fun h hb => h.below hb⟩
theorem dec_digits : ∀ n : Nat, (Lib.decDigits n).map (fun c => (c.toNat : Int)) = decL n := by
  intro n
  induction n using Nat.strongRecOn with
  | _ n ih =>
    by_cases h : n < 10
    · rw [Lib.decDigits, dif_pos h, decL_one h]
      simp [dc]
      omega
    · rw [Lib.decDigits, dif_neg h, decL_more h, List.map_append, ih (n / 10) (by omega)]
      simp [dc]
      omega
theorem below_grow (w : World) (k : Nat) (os : Array Obj) : Below w.heap.size w (Sort.grow (w.drewN k) os) := by
  have h := drewN_below (Below.refl w.heap.size w) k
  refine ⟨h.os, h.tape, h.output, ?_, fun i hi => ?_⟩
  · have := h.size
    simp [Sort.grow]
  · have := h.size
    rw [show (Sort.grow (w.drewN k) os).heap = (w.drewN k).heap ++ os from rfl, Array.getElem?_append_left (by omega)]
    exact h.block i hi
theorem nitoa_any (n : Nat) (hn : n ≤ 4194304) (w : World) (hT : NLaid w) : Calls Tryz.prog 31 #[.int .i64 (n : Int)] w fun e w' => ∃ s : ByteArray, e = .returned (.string s) ∧ unums s = decL n ∧ Below w.heap.size w w' := by
  refine (show Calls Tryz.prog 31 #[.int .i64 (n : Int)] w _ from Any.strconv_Itoa Tryz.laysItoa (n : Int) (by omega) (by omega) w hT.2).mono ?_
  rintro e w' ⟨rfl, k, os, rfl⟩
  refine ⟨_, rfl, ?_, below_grow w k os⟩
  unfold unums Lib.itoa
  rw [if_neg (by omega), Int.toNat_natCast, ← dec_digits n]
end Go.Proofs.YtibipnipeaeonaaGreatDoor
