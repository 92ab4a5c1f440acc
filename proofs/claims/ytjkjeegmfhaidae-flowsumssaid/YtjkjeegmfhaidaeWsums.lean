/-
  THE WALK of the law FlowSums, over whatever a window's memory looks like. No claim by itself.
-/
import Derived.Test.YtjkjeegmfhaidaeWspec
import Derived.Test.YtjkjeegmfhaidaeNopen
namespace Go.Proofs.Ytjkjeegmfhaidae
open Go.RowKit
set_option maxRecDepth 100000
set_option maxHeartbeats 8000000 in
theorem sums_ok {D : WinD} (K : WinKeeps D) (hNew : WNewSaid D) (hTake : WTakeSaid D) (hGive : WGiveSaid D) (hLeft : WLeftSaid D)
    (n0 : Int) (a : Option Addr) (len cap : Nat) (Z : List Int) (w : World) (hA : NArg w a len cap Z) :
    Calls Try.prog 4 #[.int .i64 n0, .slice a len cap] w fun e w' => e = .returned (.bool true) ∧ Below w.heap.size w w' := by
  have HA : Vl (∀ wx, Below w.heap.size w wx → NArg wx a len cap Z) := fun wx hb => hA.below hb
  have HN := vl (hNew n0 w)
  have HT := vl hTake
  have HV := vl hGive
  have HL := vl hLeft
  have HK := vl K
  clear hA hNew hTake hGive hLeft K
  go_enter Try.func4, Try.ntmps4
  go_wp2_with fail
  refine HN.out.mono ?_
  rintro e w1 ⟨hb1, ⟨n1, n2, wb, S, rfl, hD, hS⟩ | ⟨hn, v, rfl⟩⟩
  case inr =>
    have HB := vl hb1
    have hc : n0 < 0 ∨ (0 ≤ n0 ∧ 2147483647 < n0) := by omega
    clear hn hb1 HN
    rcases hc with q1 | ⟨q1, q2⟩
    all_goals
      go_wp2
      go_ret
      exact ⟨rfl, HB.out⟩
  have HB1 := vl hb1
  have HD1 := vl hD
  have HSS := vl hS
  have HM0 := vl (And.intro n1 n2)
  unfold wptr
  clear hb1 hD hS HN
  go_wp2
  go_loopw [7, 8] (fun sv i wr => ∃ (k : Nat) (sum : Int), i = .int .i64 k ∧ sv = .int .i64 sum ∧ k ≤ 60 ∧ 0 ≤ sum ∧ sum ≤ 2147483647 ∧ Vl (D wr wb sum S) ∧ Vl (Below w.heap.size w wr)) (fun _ i _ => 60 - (intOf i).toNat)
  case atStart => exact ⟨0, n0, rfl, rfl, by omega, n1, n2, HD1.out, HB1.out⟩
  case round =>
    obtain ⟨k, sum, rfl, rfl, hk, l1, l2, HD, HB⟩ := hrel
    clear HD1 HB1 HM0 n1 n2
    by_cases h1 : k < len
    case neg =>
      have p1 : ¬ ((k : Int) < (len : Int)) := by omega
      clear h1
      go_wp2
      go_ret
      exact ⟨rfl, HB.out⟩
    have p1 : (k : Int) < (len : Int) := by omega
    by_cases h2 : k < 60
    case neg =>
      have p2 : ¬ ((k : Int) < 60) := by omega
      clear h1 h2
      go_wp2
      go_ret
      exact ⟨rfl, HB.out⟩
    have p2 : (k : Int) < 60 := by omega
    obtain ⟨g, off, rfl, c1, c2, hc⟩ : ∃ g off, a = some ⟨g, off, none⟩ ∧ len ≤ cap ∧ cap ≤ maxLen ∧ wr.cell? ⟨g, off + k, none⟩ = some (.int .i64 (Z.getD k 0)) := by
      rcases HA.out wr HB.out with h | ⟨g, off, ha, c1, c2, hc⟩
      · omega
      · exact ⟨g, off, ha, c1, c2, hc k h1⟩
    generalize Z.getD k 0 = x at *
    by_cases x1 : x < -100000
    · go_wp2
      go_roundw
      case rel => exact ⟨k + 1, sum, by go_num, rfl, by omega, l1, l2, HD.out, HB.out⟩
      case measure => simp [intOf]; omega
    by_cases x2 : 100000 < x
    · go_wp2
      go_roundw
      case rel => exact ⟨k + 1, sum, by go_num, rfl, by omega, l1, l2, HD.out, HB.out⟩
      case measure => simp [intOf]; omega
    have HM : Vl (Mild sum) := ⟨by omega, l2⟩
    by_cases x3 : x < 0
    · have HC := vl (HT.out wb sum S (-x) wr HD.out HM.out)
      unfold wptr at HC
      by_cases c3 : sum < -x
      · rw [show takeF sum (-x) = (9, sum) by unfold takeF; rw [if_neg (by omega), if_pos c3]] at HC
        simp only [errW, show ¬ ((9 : Int) = 0) by decide, if_false] at HC
        go_wp2_with fail
        refine HC.out.mono ?_
        rintro e w3 ⟨rfl, hD3, hT3⟩
        have B3 := vl (Tn.below HB.out hT3 HB.out.size (fun i hi => HSS.out i hi))
        have D3 := vl hD3
        have HLf := vl (HL.out wb sum S w3 hD3)
        unfold wptr at HLf
        clear hD3 hT3 HC hc
        go_wp2_with fail
        refine HLf.out.mono ?_
        rintro e w4 ⟨rfl, rfl⟩
        clear HLf
        go_wp2
        go_roundw
        case rel => exact ⟨k + 1, sum, by go_num, rfl, by omega, l1, l2, D3.out, B3.out⟩
        case measure => simp [intOf]; omega
      · rw [show takeF sum (-x) = (0, sum + x) by unfold takeF; rw [if_neg (by omega), if_neg c3]; congr 1; omega] at HC
        simp only [errW, if_true] at HC
        go_wp2_with fail
        refine HC.out.mono ?_
        rintro e w3 ⟨rfl, hD3, hT3⟩
        have B3 := vl (Tn.below HB.out hT3 HB.out.size (fun i hi => HSS.out i hi))
        have D3 := vl hD3
        have HLf := vl (HL.out wb (sum + x) S w3 hD3)
        unfold wptr at HLf
        have s0 : 0 ≤ sum + x := by omega
        clear hD3 hT3 HC hc
        go_wp2_with fail
        refine HLf.out.mono ?_
        rintro e w4 ⟨rfl, rfl⟩
        clear HLf
        go_wp2
        go_roundw
        case rel => exact ⟨k + 1, sum + x, by go_num, rfl, by omega, s0, by omega, D3.out, B3.out⟩
        case measure => simp [intOf]; omega
    · have HC := vl (HV.out wb sum S x wr HD.out HM.out)
      unfold wptr at HC
      by_cases c3 : x < 1
      · rw [show giveF sum x = (1, sum) by unfold giveF; rw [if_pos (Or.inl c3)]] at HC
        simp only [errW, show ¬ ((1 : Int) = 0) by decide, if_false] at HC
        go_wp2_with fail
        refine HC.out.mono ?_
        rintro e w3 ⟨rfl, hD3, hT3⟩
        have B3 := vl (Tn.below HB.out hT3 HB.out.size (fun i hi => HSS.out i hi))
        have D3 := vl hD3
        have HLf := vl (HL.out wb sum S w3 hD3)
        unfold wptr at HLf
        clear hD3 hT3 HC hc
        go_wp2_with fail
        refine HLf.out.mono ?_
        rintro e w4 ⟨rfl, rfl⟩
        clear HLf
        go_wp2
        go_roundw
        case rel => exact ⟨k + 1, sum, by go_num, rfl, by omega, l1, l2, D3.out, B3.out⟩
        case measure => simp [intOf]; omega
      by_cases c4 : 2147483647 < sum + x
      · rw [show giveF sum x = (10, sum) by unfold giveF; rw [if_neg (by omega), if_pos c4]] at HC
        simp only [errW, show ¬ ((10 : Int) = 0) by decide, if_false] at HC
        go_wp2_with fail
        refine HC.out.mono ?_
        rintro e w3 ⟨rfl, hD3, hT3⟩
        have B3 := vl (Tn.below HB.out hT3 HB.out.size (fun i hi => HSS.out i hi))
        have D3 := vl hD3
        have HLf := vl (HL.out wb sum S w3 hD3)
        unfold wptr at HLf
        clear hD3 hT3 HC hc
        go_wp2_with fail
        refine HLf.out.mono ?_
        rintro e w4 ⟨rfl, rfl⟩
        clear HLf
        go_wp2
        go_roundw
        case rel => exact ⟨k + 1, sum, by go_num, rfl, by omega, l1, l2, D3.out, B3.out⟩
        case measure => simp [intOf]; omega
      · rw [show giveF sum x = (0, sum + x) by unfold giveF; rw [if_neg (by omega), if_neg c4]] at HC
        simp only [errW, if_true] at HC
        go_wp2_with fail
        refine HC.out.mono ?_
        rintro e w3 ⟨rfl, hD3, hT3⟩
        have B3 := vl (Tn.below HB.out hT3 HB.out.size (fun i hi => HSS.out i hi))
        have D3 := vl hD3
        have HLf := vl (HL.out wb (sum + x) S w3 hD3)
        unfold wptr at HLf
        have s0 : 0 ≤ sum + x := by omega
        clear hD3 hT3 HC hc
        go_wp2_with fail
        refine HLf.out.mono ?_
        rintro e w4 ⟨rfl, rfl⟩
        clear HLf
        go_wp2
        go_roundw
        case rel => exact ⟨k + 1, sum + x, by go_num, rfl, by omega, s0, by omega, D3.out, B3.out⟩
        case measure => simp [intOf]; omega
end Go.Proofs.Ytjkjeegmfhaidae
