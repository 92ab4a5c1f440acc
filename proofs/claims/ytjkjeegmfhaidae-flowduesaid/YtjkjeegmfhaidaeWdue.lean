/-
  THE WALK of the law FlowDue. No claim by itself.
-/
import Derived.Test.YtjkjeegmfhaidaeWspec
namespace Go.Proofs.Ytjkjeegmfhaidae
open Go.RowKit
set_option maxRecDepth 100000
def dueF (l f : Int) : Int := if l < f / 2 then f - l else 0
def WDueSaid : Prop := ∀ (l f : Int) (w : World), 0 ≤ l → l ≤ f → f ≤ 2147483647 → Calls Try.prog 5 #[.int .i64 l, .int .i64 f] w fun e w' => e = .returned (.int .i64 (dueF l f)) ∧ Below w.heap.size w w'
set_option maxHeartbeats 4000000 in
theorem due_ok (hDue : WDueSaid) (l f : Int) (w : World) :
    Calls Try.prog 3 #[.int .i64 l, .int .i64 f] w fun e w' => e = .returned (.bool true) ∧ Below w.heap.size w w' := by
  have H0 := vl (hDue 10 100 w (by decide) (by decide) (by decide))
  rw [show dueF 10 100 = 90 by decide] at H0
  have HD := vl hDue
  clear hDue
  go_enter Try.func3, Try.ntmps3
  go_wp2_with fail
  refine H0.out.mono ?_
  rintro e w1 ⟨rfl, hb1⟩
  have B1 := vl hb1
  clear hb1 H0
  by_cases c1 : l < 0
  · go_wp2
    go_ret
    exact ⟨rfl, B1.out⟩
  by_cases c2 : f < 0
  · go_wp2
    go_ret
    exact ⟨rfl, B1.out⟩
  by_cases c3 : f < l
  · go_wp2
    go_ret
    exact ⟨rfl, B1.out⟩
  by_cases c4 : 2147483647 < f
  · go_wp2
    go_ret
    exact ⟨rfl, B1.out⟩
  have f0 : 0 ≤ f := by omega
  have l0 : 0 ≤ l := by omega
  have H1 := vl (HD.out l f w1 (by omega) (by omega) (by omega))
  unfold dueF at H1
  by_cases h : l < f / 2
  · rw [if_pos h] at H1
    have h0 : (f - l == 0) = false := beq_eq_false_iff_ne.2 (by omega)
    have h2 : l + (f - l) = f := by omega
    go_wp2_with fail
    refine H1.out.mono ?_
    rintro e w2 ⟨rfl, hb2⟩
    have B2 := vl (B1.out.trans (hb2.mono B1.out.size))
    clear hb2 H1
    go_wp2
    go_ret
    exact ⟨rfl, B2.out⟩
  · rw [if_neg h] at H1
    have h' : f / 2 ≤ l := by omega
    go_wp2_with fail
    refine H1.out.mono ?_
    rintro e w2 ⟨rfl, hb2⟩
    have B2 := vl (B1.out.trans (hb2.mono B1.out.size))
    clear hb2 H1 h
    go_wp2
    go_ret
    exact ⟨by simp, B2.out⟩
end Go.Proofs.Ytjkjeegmfhaidae
