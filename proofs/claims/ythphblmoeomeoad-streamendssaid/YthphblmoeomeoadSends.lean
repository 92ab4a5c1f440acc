/-
  THE WALK of the law StreamEnds. No claim by itself.
-/
import Derived.Test.YthphblmoeomeoadSst1
import Derived.Test.YthphblmoeomeoadNopen
import Derived.Deep.DeepCutAuto
import Derived.Deep.CutBlock
namespace Go.Proofs.Ythphblmoeomeoad
open Go.RowKit
set_option maxRecDepth 100000
/-- The two sides' states of one stream. -/
def Mir (u t : Int) : Prop := (u = 1 ∧ t = 1) ∨ (u = 2 ∧ t = 3) ∨ (u = 3 ∧ t = 2) ∨ (u = 4 ∧ t = 4)
theorem Mir.symm {u t : Int} (h : Mir u t) : Mir t u := by
  rcases h with ⟨rfl, rfl⟩ | ⟨rfl, rfl⟩ | ⟨rfl, rfl⟩ | ⟨rfl, rfl⟩ <;> simp [Mir]
theorem mir_step (u t k : Int) (e : Bool) (h : Mir u t) : (∃ n m, sayF u k e = (n, 0) ∧ hearF t k e = (m, 0, false) ∧ Mir n m) ∨ sayF u k e = (0, 6) := by
  by_cases hk : k = 0 ∨ k = 1
  · rcases h with ⟨rfl, rfl⟩ | ⟨rfl, rfl⟩ | ⟨rfl, rfl⟩ | ⟨rfl, rfl⟩ <;> rcases hk with rfl | rfl <;> cases e <;> simp [sayF, hearF, Mir, begunF]
  · by_cases k3 : k = 3
    · subst k3
      rcases h with ⟨rfl, rfl⟩ | ⟨rfl, rfl⟩ | ⟨rfl, rfl⟩ | ⟨rfl, rfl⟩ <;> simp [sayF, hearF, Mir, begunF]
    · by_cases k7 : k = 7
      · subst k7
        rcases h with ⟨rfl, rfl⟩ | ⟨rfl, rfl⟩ | ⟨rfl, rfl⟩ | ⟨rfl, rfl⟩ <;> simp [sayF, hearF, Mir, begunF]
      · right
        unfold sayF
        rw [if_neg (fun h => hk h.1), if_neg (fun h => hk h.1), if_neg (fun h => k3 h.1), if_neg (fun h => k7 h.1)]
theorem turn_any (u t k : Int) (e : Bool) (w : World) (h : Mir u t) :
    (∃ n m, Vl (Calls Try.prog 21 #[.int .i64 u, .int .i64 k, .bool e] w fun r w' => r = .returned (.tuple #[.int .i64 n, .nilIface]) ∧ w = w') ∧
      Vl (Calls Try.prog 20 #[.int .i64 t, .int .i64 k, .bool e] w fun r w' => r = .returned (.tuple #[.int .i64 m, .int .i64 0, .bool false]) ∧ w = w') ∧ Vl (Mir n m)) ∨
    Vl (Calls Try.prog 21 #[.int .i64 u, .int .i64 k, .bool e] w fun r w' => r = .returned (.tuple #[.int .i64 0, .iface 58 (.int .i64 6)]) ∧ w = w') := by
  have hs := say_any u k e w
  have hh := hear_any t k e w
  rcases mir_step u t k e h with ⟨n, m, h1, h2, h3⟩ | h1
  · rw [h1] at hs
    rw [h2] at hh
    exact Or.inl ⟨n, m, hs, hh, h3⟩
  · rw [h1] at hs
    exact Or.inr hs
set_option maxHeartbeats 4000000 in
theorem ends_ok (ka : Option Addr) (kl kc : Nat) (Z : List Int) (ea : Option Addr) (el ec : Nat) (E : Nat → Bool) (wa : Option Addr) (wl wc : Nat) (B : Nat → Bool) (w : World)
    (hK : NArg w ka kl kc Z) (hE : TArg w ea el ec E) (hO : TArg w wa wl wc B) :
    Calls Try.prog 5 #[.slice ka kl kc, .slice ea el ec, .slice wa wl wc] w fun e w' => e = .returned (.bool true) ∧ Below w.heap.size w w' := by
  have H1 := vl (hear_any 0 1 true w)
  have H2 := vl (hear_any 2 0 false w)
  rw [show hearF 0 1 true = (2, 0, false) by simp [hearF]] at H1
  rw [show hearF 2 0 false = (4, 5, false) by simp [hearF]] at H2
  have HK := vl hK
  have HE := vl hE
  have HO := vl hO
  clear hK hE hO
  go_enter Try.func5, Try.ntmps5
  go_wp2_with fail
  refine H1.out.mono ?_
  rintro r w' ⟨rfl, rfl⟩
  go_wp2_with fail
  refine H2.out.mono ?_
  rintro r w' ⟨rfl, rfl⟩
  clear H1 H2
  go_wp2
  go_loopw [13, 14, 15] (fun us them i wr => ∃ (k : Nat) (u t : Int), i = .int .i64 k ∧ us = .int .i64 u ∧ them = .int .i64 t ∧ Mir u t ∧ k ≤ 60 ∧ w = wr) (fun _ _ i _ => 60 - (intOf i).toNat)
  case atStart => exact ⟨0, 1, 1, rfl, rfl, rfl, Or.inl ⟨rfl, rfl⟩, by omega, rfl⟩
  case round =>
    obtain ⟨k, u, t, rfl, rfl, rfl, hm, hk, rfl⟩ := hrel
    by_cases h1 : k < kl
    case neg =>
      have p1 : ¬ ((k : Int) < (kl : Int)) := by omega
      clear h1 hm
      go_wp2
      go_ret
      exact ⟨rfl, Below.refl _ _⟩
    by_cases h2 : k < el
    case neg =>
      have p1 : (k : Int) < (kl : Int) := by omega
      have p2 : ¬ ((k : Int) < (el : Int)) := by omega
      clear h1 h2 hm
      go_wp2
      go_ret
      exact ⟨rfl, Below.refl _ _⟩
    by_cases h3 : k < wl
    case neg =>
      have p1 : (k : Int) < (kl : Int) := by omega
      have p2 : (k : Int) < (el : Int) := by omega
      have p3 : ¬ ((k : Int) < (wl : Int)) := by omega
      clear h1 h2 h3 hm
      go_wp2
      go_ret
      exact ⟨rfl, Below.refl _ _⟩
    have p1 : (k : Int) < (kl : Int) := by omega
    have p2 : (k : Int) < (el : Int) := by omega
    have p3 : (k : Int) < (wl : Int) := by omega
    by_cases h4 : k < 60
    case neg =>
      have p4 : ¬ ((k : Int) < 60) := by omega
      clear h1 h2 h3 h4 hm
      go_wp2
      go_ret
      exact ⟨rfl, Below.refl _ _⟩
    have p4 : (k : Int) < 60 := by omega
    obtain ⟨kg, ko, rfl, kc1, kc2, kcell⟩ : ∃ g off, ka = some ⟨g, off, none⟩ ∧ kl ≤ kc ∧ kc ≤ maxLen ∧ w.cell? ⟨g, off + k, none⟩ = some (.int .i64 (Z.getD k 0)) := by
      rcases HK.out with h | ⟨g, off, ha, c1, c2, hc⟩
      · omega
      · exact ⟨g, off, ha, c1, c2, hc k h1⟩
    obtain ⟨eg, eo, rfl, ec1, ec2, ecell⟩ : ∃ g off, ea = some ⟨g, off, none⟩ ∧ el ≤ ec ∧ ec ≤ maxLen ∧ w.cell? ⟨g, off + k, none⟩ = some (.bool (E k)) := by
      rcases HE.out with h | ⟨g, off, ha, c1, c2, hc⟩
      · omega
      · exact ⟨g, off, ha, c1, c2, hc k h2⟩
    obtain ⟨og, oo, rfl, oc1, oc2, ocell⟩ : ∃ g off, wa = some ⟨g, off, none⟩ ∧ wl ≤ wc ∧ wc ≤ maxLen ∧ w.cell? ⟨g, off + k, none⟩ = some (.bool (B k)) := by
      rcases HO.out with h | ⟨g, off, ha, c1, c2, hc⟩
      · omega
      · exact ⟨g, off, ha, c1, c2, hc k h3⟩
    generalize Z.getD k 0 = z at kcell
    generalize E k = b at ecell
    generalize B k = o at ocell
    have HMM := vl hm
    clear hm
    go_upto_region 11 with fail
    go_cut [17] (fun c wx => (∃ en : Bool, c = .bool en) ∧ w = wx)
    case first =>
      obtain ⟨c3, d3⟩ : ∃ c, (z != 3) = c := ⟨_, rfl⟩
      cases b <;> cases c3 <;> go_wp2
      all_goals (go_meet; exact ⟨⟨_, rfl⟩, rfl⟩)
    case rest =>
    obtain ⟨⟨en, rfl⟩, rfl⟩ := hcut
    clear ecell
    cases o with
    | true =>
      rcases turn_any u t z en w HMM.out with ⟨n, m, HS, HH, HM⟩ | HS
      · go_wp2_with fail
        refine HS.out.mono ?_
        rintro r w' ⟨rfl, rfl⟩
        clear HS
        go_wp2_with fail
        refine HH.out.mono ?_
        rintro r w' ⟨rfl, rfl⟩
        clear HH
        have HM2 := vl HM.out
        rcases HM.out with ⟨rfl, rfl⟩ | ⟨rfl, rfl⟩ | ⟨rfl, rfl⟩ | ⟨rfl, rfl⟩
        all_goals
          clear HM
          go_wp2
          go_roundw
          case rel => exact ⟨k + 1, _, _, by go_num, rfl, rfl, HM2.out, by omega, trivial⟩
          case measure => simp [intOf]; omega
      · go_wp2_with fail
        refine HS.out.mono ?_
        rintro r w' ⟨rfl, rfl⟩
        clear HS
        go_wp2
        go_roundw
        case rel => exact ⟨k + 1, u, t, by go_num, rfl, rfl, HMM.out, by omega, trivial⟩
        case measure => simp [intOf]; omega
    | false =>
      rcases turn_any t u z en w HMM.out.symm with ⟨n, m, HS, HH, HM⟩ | HS
      · go_wp2_with fail
        refine HS.out.mono ?_
        rintro r w' ⟨rfl, rfl⟩
        clear HS
        go_wp2_with fail
        refine HH.out.mono ?_
        rintro r w' ⟨rfl, rfl⟩
        clear HH
        have HM2 := vl HM.out.symm
        rcases HM.out with ⟨rfl, rfl⟩ | ⟨rfl, rfl⟩ | ⟨rfl, rfl⟩ | ⟨rfl, rfl⟩
        all_goals
          clear HM
          go_wp2
          go_roundw
          case rel => exact ⟨k + 1, _, _, by go_num, rfl, rfl, HM2.out, by omega, trivial⟩
          case measure => simp [intOf]; omega
      · go_wp2_with fail
        refine HS.out.mono ?_
        rintro r w' ⟨rfl, rfl⟩
        clear HS
        go_wp2
        go_roundw
        case rel => exact ⟨k + 1, u, t, by go_num, rfl, rfl, HMM.out, by omega, trivial⟩
        case measure => simp [intOf]; omega
end Go.Proofs.Ythphblmoeomeoad
