/-
  WHAT IS ASKED of package head's Text and ReadText. No claim by itself.
-/
import Derived.Test.YtkjfhgoddhigmacDoorM09
import Derived.Test.YtkjfhgoddhigmacDoorM10
import Derived.Test.YtkjfhgoddhigmacDoorM19
import Derived.Test.YtkjfhgoddhigmacDoorM21
import Derived.Test.YtkjfhgoddhigmacDoorM16
import Derived.Test.YtkjfhgoddhigmacDoorM24
namespace Go.Proofs.YtkjfhgoddhigmacDoor
open Go.RowKit
/-- An error as the program tells it: nil, or an Errno. -/
def Err (k : Int) (x : Value) : Prop := (k = 0 ∧ x = .nilIface) ∨ (k ≠ 0 ∧ x = .iface 49 (.int .i64 k))
def HReadSaid : Prop := ∀ (a : Option Addr) (len cap : Nat) (Z : List Int) (w : World), Arg w a len cap Z → len ≤ 140737488351232 →
    Calls Tryd.prog 50 #[.slice a len cap] w fun e w' => Below w.heap.size w w' ∧ ∃ x, e = .returned (.tuple #[.string (strOfNums (rtF Z).1), .int .i64 (rtF Z).2.1, x]) ∧ Err (rtF Z).2.2 x
end Go.Proofs.YtkjfhgoddhigmacDoor
/-
  CONTRACTS of the Go functions head.put, head.tooLong, head.text and head.Text. No claim by itself.
-/
namespace Go.Proofs.YtkjfhgoddhigmacDoor
open Go.RowKit
set_option maxRecDepth 100000
theorem hput_any (n b f : Int) (w : World) (hok : putOk n b f) :
    Calls Tryd.prog 23 #[.int .i64 n, .int .i64 b, .int .i64 f] w fun e w' => ∃ g cap, e = .returned (.slice (some ⟨g, 0, none⟩) (putL n b f).length cap) ∧ w'.ownsRow w.heap.size 5 1 (.slice (some ⟨g, 0, none⟩) (putL n b f).length cap) (putL n b f).length ((putL n b f).map (Value.int .u8)) ∧ Below w.heap.size w w' := by
  have hp := put_yes n b f w hok
  have hl := putL_len n b f
  generalize putL n b f = P at *
  go_enter Tryd.func23, Tryd.ntmps23
  go_wp2_with fail
  refine hp.mono ?_
  rintro e w1 ⟨g, cap, rfl, hown, hb⟩
  have HO := hide hown
  clear hown hp
  go_wp2
  go_ret
  exact ⟨g, cap, rfl, HO.out, hb⟩
theorem htoo_any (s : ByteArray) (w : World) : Calls Tryd.prog 22 #[.string s] w fun e w' => e = .returned (.bool (decide (400 < (s.size : Int)))) ∧ w = w' := by
  go_enter Tryd.func22, Tryd.ntmps22
  go_wp2
  go_ret
  exact ⟨rfl, rfl⟩
set_option maxHeartbeats 4000000 in
theorem htxt_any (s : ByteArray) (w : World) (hle : s.size ≤ 400) :
    Calls Tryd.prog 26 #[.string s] w fun e w' => ∃ g cap, e = .returned (.slice (some ⟨g, 0, none⟩) (txtL (nums s)).length cap) ∧ w'.ownsRow w.heap.size 5 1 (.slice (some ⟨g, 0, none⟩) (txtL (nums s)).length cap) (txtL (nums s)).length ((txtL (nums s)).map (Value.int .u8)) ∧ Below w.heap.size w w' := by
  obtain ⟨i0, hi, hz0, hz1, hz2⟩ := info_parts info5
  have hn := nums_len s
  have hTl := (txt_len (nums s) (by omega)).1
  obtain ⟨cap0, w0, hcv, hb0, hl0, hrow0⟩ := conv_bytes s w (by omega)
  have s0 := hb0.size
  have henc := enc_any s w0 (by omega)
  have HR0 := hide hrow0
  clear hrow0
  by_cases hlt : (codeL (nums s)).length < s.size
  · have hT : Hid (txtL (nums s) = putL (codeL (nums s)).length 7 128 ++ codeL (nums s)) := by
      show txtL (nums s) = _
      unfold txtL; rw [if_pos (by omega)]
    have hd : decide (((codeL (nums s)).length : Int) < (s.size : Int)) = true := by simp; omega
    have hC1 : 1 ≤ (codeL (nums s)).length := by
      have h1 := code_len (nums s)
      have h2 := (bitsL_len (nums s)).1
      omega
    generalize txtL (nums s) = T at *
    have hpl := putL_len ((codeL (nums s)).length : Int) 7 128
    have hok : putOk ((codeL (nums s)).length : Int) 7 128 := ⟨by omega, by omega, by decide, by decide, by decide, by decide, by decide⟩
    generalize codeL (nums s) = C at *
    go_enter Tryd.func26, Tryd.ntmps26
    go_wp2_with fail
    refine henc.mono ?_
    rintro e w1 ⟨v, rfl, hm, hb1⟩
    obtain ⟨a1, cap1, rfl, hc1, hx1⟩ := slice_made hm
    have s1 := hb1.size
    have HM := hide hm
    clear hm henc
    go_wp2_with fail
    refine (hput_any (C.length : Int) 7 128 w1 hok).mono ?_
    rintro e w2 ⟨g2, cap2, rfl, hown2, hb2⟩
    have HM2 := hide (HM.out.below hb2)
    have s2 := hb2.size
    have hB := (hb0.trans (hb1.mono s0)).trans (hb2.mono (by omega))
    have HO2 := hide (own_mono (base' := w.heap.size) hown2 (by omega))
    clear hown2
    generalize putL (C.length : Int) 7 128 = P at *
    obtain ⟨g1, rfl, hr1⟩ : ∃ g1, a1 = some ⟨g1, 0, none⟩ ∧ Row w2 g1 0 C.length cap1 C := by
      obtain ⟨_, ⟨_, h2⟩ | ⟨g1, c1, h1, _, h2⟩⟩ := HM2.out
      · omega
      · cases h1; exact ⟨g1, rfl, h2⟩
    have HR1 := hide hr1
    clear hr1
    go_wp2_with (at_builtin; refine wpList_append_own _ rfl _ _ 29 rfl w.heap.size 5 i0 _ 1 1 Tryd.underlying29 hi hz0 hz1 hz2 rfl (by decide) _ _ _ rfl HO2.out ⟨g1, 0, none⟩ C.length cap1 (C.map (Value.int .u8)) rfl (by simp) (row_news HR1.out) (one_bytes C) ?c3 ?c4 ?c5 ?_)
    case c3 => unfold maxLen; omega
    case c4 => omega
    case c5 => omega
    intro v' w3 hown' hgrow _
    have hb3 : Below w.heap.size w w3 := hB.grown hgrow (by omega) (fun k hk => (HO2.out.lt k hk).1)
    have hown2 : w3.ownsRow w.heap.size 5 1 v' T.length (T.map (Value.int .u8)) := by
      rw [hT.out, List.length_append, List.map_append]; exact hown'
    obtain ⟨g, cap, rfl⟩ := shape_n hown2 hTl
    have H3 := hide hown2
    clear hown' hown2 hgrow
    go_wp2
    go_ret
    exact ⟨g, cap, rfl, H3.out, hb3⟩
  · have hT : Hid (txtL (nums s) = putL s.size 7 0 ++ nums s) := by
      show txtL (nums s) = _
      unfold txtL; rw [if_neg (by omega), hn]
    have hd : decide (((codeL (nums s)).length : Int) < (s.size : Int)) = false := by simp; omega
    generalize txtL (nums s) = T at *
    have hpl := putL_len (s.size : Int) 7 0
    have hok : putOk (s.size : Int) 7 0 := ⟨by omega, by omega, by decide, by decide, by decide, by decide, by decide⟩
    generalize codeL (nums s) = C at *
    go_enter Tryd.func26, Tryd.ntmps26
    go_wp2_with fail
    refine henc.mono ?_
    rintro e w1 ⟨v, rfl, hm, hb1⟩
    obtain ⟨a1, cap1, rfl, hc1, hx1⟩ := slice_made hm
    have s1 := hb1.size
    have HR1 := hide (HR0.out.below hb1)
    clear hm henc HR0
    go_wp2_with fail
    refine (hput_any (s.size : Int) 7 0 w1 hok).mono ?_
    rintro e w2 ⟨g2, cap2, rfl, hown2, hb2⟩
    have HR2 := hide (HR1.out.below hb2)
    have s2 := hb2.size
    have hB := (hb0.trans (hb1.mono s0)).trans (hb2.mono (by omega))
    have HO2 := hide (own_mono (base' := w.heap.size) hown2 (by omega))
    clear hown2
    generalize putL (s.size : Int) 7 0 = P at *
    go_wp2_with (at_builtin; refine wpList_append_own _ rfl _ _ 29 rfl w.heap.size 5 i0 _ 1 1 Tryd.underlying29 hi hz0 hz1 hz2 rfl (by decide) _ _ _ rfl HO2.out ⟨w.heap.size, 0, none⟩ s.size cap0 ((nums s).map (Value.int .u8)) rfl (by simp [nums_len]) (row_news HR2.out) (one_bytes (nums s)) ?c3 ?c4 ?c5 ?_)
    case c3 => unfold maxLen; omega
    case c4 => omega
    case c5 => omega
    intro v' w3 hown' hgrow _
    have hb3 : Below w.heap.size w w3 := hB.grown hgrow (by omega) (fun k hk => (HO2.out.lt k hk).1)
    have hown2 : w3.ownsRow w.heap.size 5 1 v' T.length (T.map (Value.int .u8)) := by
      rw [hT.out, List.length_append, List.map_append, hn]; exact hown'
    obtain ⟨g, cap, rfl⟩ := shape_n hown2 hTl
    have H3 := hide hown2
    clear hown' hown2 hgrow
    go_wp2
    go_ret
    exact ⟨g, cap, rfl, H3.out, hb3⟩
end Go.Proofs.YtkjfhgoddhigmacDoor
