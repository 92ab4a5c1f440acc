/-
  LOGSUMS: how often a path stands in a row of entries (the law's closure). No claim by itself.
-/
import Derived.Test.YteohgkgahkkjlaaGreatDoorJ8X
import Derived.Test.YteohgkgahkkjlaaGreatDoorTold
namespace Go.Proofs.YteohgkgahkkjlaaGreatDoor
open Go Go.RowKit
set_option maxRecDepth 100000
theorem jerr_any (er : Int) (w : World) (hg : Laid w) : Calls Tryz.prog 8 #[errW er, .int .i64 er] w fun e w' => e = .returned (.bool true) ∧ Below w.heap.size w w' := by
  by_cases h : er = 0
  · subst h
    rw [gerr_zero]
    refine (error_nil 0 w).mono ?_
    rintro e w' ⟨rfl, rfl⟩
    exact ⟨rfl, Below.refl _ _⟩
  · rw [gerr_pos h]
    refine (error_hit er er w hg).mono ?_
    rintro e w' ⟨rfl, hb⟩
    exact ⟨by simp, hb⟩
theorem txt_eq {a b : ByteArray} : (a.toList == b.toList) = decide (a.data.toList = b.data.toList) := by
  rw [Lib.toList_data, Lib.toList_data]
  by_cases h : a.data.toList = b.data.toList
  · rw [h]; simp
  · rw [decide_eq_false h]; exact beq_eq_false_iff_ne.2 h
set_option maxHeartbeats 4000000 in
theorem gcount_any (bx : Nat) (x : Option Addr) (len cap : Nat) (L : List Et) (p : ByteArray) (w : World) (hb : w.cell? ⟨bx, 0, none⟩ = some (.slice x len cap)) (hA : EtArg w x len cap L) (hln : len ≤ 1000) :
    Calls Tryz.prog 15 #[.string p, .pointer (some ⟨bx, 0, none⟩)] w fun e w' => e = .returned (.int .i64 (cnt (pthL L) p.data.toList : Nat)) ∧ Below w.heap.size w w' := by
  have HX := vl hb
  have HFA := vl hA
  have HLN := vl hA.len
  clear hb hA
  go_enter Tryz.func15, Tryz.ntmps15
  go_wp2_with fail
  go_loopw [4, 5] (fun n i wr => ∃ (k c : Nat), n = .int .i64 c ∧ i = .int .i64 k ∧ k ≤ len ∧ c ≤ 1000 ∧ Vl (c ≤ k) ∧ Vl (c = cnt (pthL (L.take k)) p.data.toList) ∧ Vl (Below w.heap.size w wr)) (fun _ i _ => len - (intOf i).toNat)
  case atStart => exact ⟨0, 0, rfl, rfl, by omega, by omega, vl (Nat.le_refl _), vl rfl, vl (Below.refl _ _)⟩
  case round =>
    obtain ⟨k, c, rfl, rfl, hk, hc, HCK, HC, HB⟩ := hrel
    have hx : wr.cell? ⟨bx, 0, none⟩ = some (.slice x len cap) := (HB.out.cell (p := ⟨bx, 0, none⟩) (eblk_of_cell HX.out)).trans HX.out
    by_cases hlt : k < len
    · have hlt' : (k : Int) < (len : Int) := by omega
      rcases HFA.out.below HB.out with ⟨h, _⟩ | ⟨g, off, rfl, hr2⟩
      · omega
      have c5 := hr2.h5 k hlt
      have hcap := hr2.hcap
      have hmax := hr2.hmax
      unfold maxLen at hmax
      have HN : Vl (cnt (pthL (L.take (k + 1))) p.data.toList = c + if (L.getD k etn).p.data.toList = p.data.toList then 1 else 0) := vl (by
        rw [pthL_more (by rw [HLN.out]; exact hlt), cnt_snoc, ← HC.out]
        rfl)
      have hck := HCK.out
      clear hr2 HC
      generalize (L.getD k etn).p = m at *
      by_cases q : m.data.toList = p.data.toList
      · have q' : (m.toList == p.toList) = true := by rw [txt_eq]; exact decide_eq_true q
        have HN2 : Vl (c + 1 = cnt (pthL (L.take (k + 1))) p.data.toList) := vl (by rw [HN.out, if_pos q])
        have q2 : m.toList = p.toList := by simpa using q'
        clear HN q
        go_wp2_with fail
        go_roundw
        case rel => exact ⟨k + 1, c + 1, by go_num, by go_num, by omega, by omega, vl (by omega), HN2, HB⟩
        case measure => simp [intOf]; omega
      · have q' : (m.toList == p.toList) = false := by rw [txt_eq]; exact decide_eq_false q
        have HN2 : Vl (c = cnt (pthL (L.take (k + 1))) p.data.toList) := vl (by rw [HN.out, if_neg q]; rfl)
        have q2 : ¬ m.toList = p.toList := by simpa using q'
        clear HN q
        go_wp2_with fail
        go_roundw
        case rel => exact ⟨k + 1, c, rfl, by go_num, by omega, hc, vl (by omega), HN2, HB⟩
        case measure => simp [intOf]; omega
    · have hlt' : ¬ (k : Int) < (len : Int) := by omega
      obtain rfl : k = len := by omega
      have HQ : Vl (Ending.returned (Value.int .i64 (c : Nat)) = .returned (.int .i64 (cnt (pthL L) p.data.toList : Nat))) := vl (by
        have := HC.out
        rw [← HLN.out, pthL_all] at this
        rw [this])
      clear HC
      go_wp2_with fail
      go_ret
      exact ⟨HQ.out, HB.out⟩
end Go.Proofs.YteohgkgahkkjlaaGreatDoor
