/-
  THE WALK of the Go function tolllaw5.TableFinds, its callees by their contracts. No claim by itself.
-/
import Derived.Test.YtkjfhgoddhigmabDoorTspec
import Derived.Deep.QuietTactic
import Derived.BigQuiet
namespace Go.Proofs.YtkjfhgoddhigmabDoor
open Go.RowKit
set_option maxRecDepth 100000 in
set_option maxHeartbeats 8000000 in
theorem tfinds_ok {D : TabD} (T : TabKeeps D) (hNew : TNewSaid D) (hAdd : TAddSaid D) (hGet : TGetSaid D) (hFind : TFindSaid D) (hLen : TLenSaid D)
    (max : Int) (a : Option Addr) (len cap : Nat) (L : List (ByteArray × ByteArray)) (w : World) (hal : Alw w) (hA : FArg w a len cap L) (hl : len ≤ 4611686018427387904) (hL : ∀ t, (L.getD t fnone).1.size + (L.getD t fnone).2.size ≤ 1152921504606846976) :
    Calls Tryd.prog 5 #[.int .i64 max, .slice a len cap] w fun e w' => e = .returned (.bool true) ∧ Below w.heap.size w w' := by
  have heq : ∀ (a b : ByteArray) (w : World), (binOp .neq 36 (.agg #[.string a, .string b]) (.agg #[.string a, .string b])).run Tryd.prog w = .ok (.bool false) w := fun a b w => by rw [run_neqF]; simp
  have hgd := eqGuardF
  have HA : Hid (∀ wx, Below w.heap.size w wx → FArg wx a len cap L) := fun wx hb => hA.below hb
  have HL : Hid (∀ t, (L.getD t fnone).1.size + (L.getD t fnone).2.size ≤ 1152921504606846976) := hL
  have HAL : Hid (Alw w) := hal
  clear hA hL hal
  go_enter Tryd.func5, Tryd.ntmps5
  go_wp2_with fail
  refine (hNew max w HAL.out).mono ?_
  rintro e w1 ⟨hb1, ⟨m0, m1, tb, S, rfl, hD, hS⟩ | ⟨hm, v, rfl⟩⟩
  · have hF0 : Fit max [] := Fit.nil m0 m1
    unfold tval
    go_wp2_with fail
    refine (hGet tb max [] S 1 w1 hD hF0).mono ?_
    rintro e w2 ⟨v, rfl, hv, hb2⟩
    have hv2 : v = .tuple #[.agg #[.string ⟨#[58, 109, 101, 116, 104, 111, 100]⟩, .string ⟨#[71, 69, 84]⟩], .nilIface] := by
      rcases hv with ⟨_, _, rfl⟩ | ⟨hn, _⟩
      · rfl
      · exact absurd (by decide) hn
    subst hv2
    clear hv
    have hs1 := hb1.size
    have hs2 := hb2.size
    go_wp2_with fail
    refine (hLen tb max [] S _ (T.below (T.below hD hb2) ((Below.refl _ w2).alloc (Nat.le_refl _) _)) hF0).mono ?_
    rintro e w3 ⟨rfl, hb3⟩
    have hD3 := T.below (T.below (T.below hD hb2) ((Below.refl _ w2).alloc (Nat.le_refl _) _)) hb3
    have hB3 : Below w.heap.size w w3 := ((hb1.trans (hb2.mono hs1)).alloc (by omega) _).trans (hb3.mono (by simp; omega))
    clear hD hb1 hb2 hb3 hs1 hs2
    go_wp2_with fail
    go_loopw [9] (fun i wr => ∃ (k : Nat) (A : List (ByteArray × ByteArray)) (S : Nat → Prop), i = .int .i64 k ∧ k ≤ len ∧ D wr tb max A S ∧ Fit max A ∧ (∀ q, S q → w.heap.size ≤ q) ∧ Below w.heap.size w wr) (fun i _ => len - (intOf i).toNat)
    case atStart => exact ⟨0, [], S, rfl, by omega, hD3, hF0, hS, hB3⟩
    case round =>
      clear hD3 hB3 hS S
      obtain ⟨k, A, S, rfl, hk, hD, hF, hS, hbel⟩ := hrel
      have hsz := hbel.size
      by_cases hlt : k < len ∧ k < 40
      · obtain ⟨hl1, hl2⟩ := hlt
        rcases HA.out wr hbel with ⟨hx, _⟩ | ⟨g, off, rfl, hr⟩
        · omega
        have c1 := hr.hname k hl1
        have c2 := hr.hvalue k hl1
        have hcap := hr.hcap
        have hmx := hr.hmax
        unfold maxLen at hmx
        have hnv := HL.out k
        generalize L.getD k fnone = f at *
        obtain ⟨n, v⟩ := f
        have d1 : decide ((k : Int) < (len : Int)) = true := by simp; omega
        have d2 : decide ((k : Int) < 40) = true := by simp; omega
        have hadd := hAdd tb max A S n v wr hD hF hnv
        unfold tval at hadd
        clear hr hD
        go_wp2_with fail
        refine hadd.mono ?_
        rintro e w4 ⟨rfl, hoff, S', hD', hS'⟩
        have hB4 := Below.off hbel hoff hsz hS
        clear hadd
        go_wp2
        go_roundw
        case rel => exact ⟨k + 1, _, S', by go_num, by omega, hD', hF.add (n, v), fun q hq => by rcases hS' q hq with h | h; exact hS q h; omega, hB4⟩
        case measure => simp [intOf]; omega
      · have hcase : (len : Int) ≤ (k : Int) ∨ ((k : Int) < (len : Int) ∧ 40 ≤ (k : Int)) := by omega
        have hAl := hF.len
        clear hlt
        rcases hcase with d1 | ⟨d1, d2⟩
        all_goals
          go_wp2_with fail
          go_loopw [10] (fun i wq => ∃ (j : Nat), i = .int .i64 j ∧ 1 ≤ j ∧ j ≤ 13 + A.length ∧ Below wr.heap.size wr wq) (fun i _ => 13 + A.length - (intOf i).toNat)
          case atStart => exact ⟨1, rfl, by omega, by omega, Below.refl _ _⟩
          case round =>
            obtain ⟨j, rfl, hj1, hj2, hbq⟩ := hrel
            have hsq := hbq.size
            have hDq := T.below hD hbq
            have hBq : Below w.heap.size w wr := hbel.trans (hbq.mono hsz)
            have hlen := hLen tb max A S wr hDq hF
            unfold tval at hlen
            go_wp2_with fail
            refine hlen.mono ?_
            rintro e w5 ⟨rfl, hb5⟩
            have hD5 := T.below hDq hb5
            have hs5 := hb5.size
            clear hlen
            by_cases hjl : j ≤ 12 + A.length
            · have hji : (j : Int) ≤ ((12 + A.length : Nat) : Int) := by omega
              have hfa := finds_at A (j - 1) (by omega)
              simp only at hfa
              have hg1 := hGet tb max A S j w5 hD5 hF
              have hE : ((j : Int) - 1).toNat = j - 1 := by omega
              have hLl : (alwaysL ++ A).length = 12 + A.length := by rw [List.length_append, always_len]
              have hfind := fun W (h : D W tb max A S) => hFind tb max A S ((alwaysL ++ A).getD (j - 1) fnone).1 ((alwaysL ++ A).getD (j - 1) fnone).2 W h hF
              have hga : ∀ v, GotAt (alwaysL ++ A) j v → v = .tuple #[fval ((alwaysL ++ A).getD (j - 1) fnone), .nilIface] := by
                rintro v (⟨_, _, rfl⟩ | ⟨hn, _⟩)
                · rw [hE]
                · exact absurd ⟨by omega, by rw [hLl]; omega⟩ hn
              have hgb : ∀ v, GotAt (alwaysL ++ A) (fnd (isF ((alwaysL ++ A).getD (j - 1) fnone).1 ((alwaysL ++ A).getD (j - 1) fnone).2) (alwaysL ++ A) 0 : Nat) v → v = .tuple #[fval ((alwaysL ++ A).getD (j - 1) fnone), .nilIface] := by
                rintro v (⟨_, _, rfl⟩ | ⟨hn, _⟩)
                · rw [show (((fnd (isF ((alwaysL ++ A).getD (j - 1) fnone).1 ((alwaysL ++ A).getD (j - 1) fnone).2) (alwaysL ++ A) 0 : Nat) : Int) - 1).toNat = fnd (isF ((alwaysL ++ A).getD (j - 1) fnone).1 ((alwaysL ++ A).getD (j - 1) fnone).2) (alwaysL ++ A) 0 - 1 from by omega, hfa.2.2.1]
                · exact absurd ⟨by omega, by rw [hLl]; omega⟩ hn
              obtain ⟨f1, f2, _, f4, f5⟩ := hfa
              have hg2 := fun W (h : D W tb max A S) => hGet tb max A S (fnd (isF ((alwaysL ++ A).getD (j - 1) fnone).1 ((alwaysL ++ A).getD (j - 1) fnone).2) (alwaysL ++ A) 0 : Nat) W h hF
              generalize fnd (isF ((alwaysL ++ A).getD (j - 1) fnone).1 ((alwaysL ++ A).getD (j - 1) fnone).2) (alwaysL ++ A) 0 = x at *
              generalize fnd (isN ((alwaysL ++ A).getD (j - 1) fnone).1) (alwaysL ++ A) 0 = y at *
              generalize (alwaysL ++ A).getD (j - 1) fnone = f at *
              obtain ⟨n, v⟩ := f
              unfold tval at hg1 hg2 hfind
              have x1 : (x : Int) ≤ (j : Int) := by omega
              have y1 : (y : Int) ≤ (x : Int) := by omega
              go_wp2_with fail
              refine hg1.mono ?_
              rintro e w6 ⟨v6, rfl, hv6, hb6⟩
              obtain rfl := hga v6 hv6
              have hs6 := hb6.size
              have hD6 := T.below (T.below hD5 hb6) ((Below.refl _ w6).alloc (Nat.le_refl _) (.cells #[.string n, .string v] 36))
              clear hv6 hga hg1
              unfold fval
              go_wp2_with fail
              refine (hfind _ hD6).mono ?_
              rintro e w7 ⟨rfl, hb7⟩
              have hD7 := T.below hD6 hb7
              have hs7 := hb7.size
              have hs7b : w6.heap.size < w7.heap.size := by simp at hs7; omega
              have k1 : w7.cell? ⟨w6.heap.size, 0, none⟩ = some (.string n) := by rw [hb7.cell (p := ⟨w6.heap.size, 0, none⟩) (by simp)]; simp
              have k2 : w7.cell? ⟨w6.heap.size, 1, none⟩ = some (.string v) := by rw [hb7.cell (p := ⟨w6.heap.size, 1, none⟩) (by simp)]; simp
              go_wp2_with fail
              refine (hg2 _ hD7).mono ?_
              rintro e w8 ⟨v8, rfl, hv8, hb8⟩
              obtain rfl := hgb v8 hv8
              have hs8 := hb8.size
              have k3 : w8.cell? ⟨w6.heap.size, 0, none⟩ = some (.string n) := by rw [hb8.cell (p := ⟨w6.heap.size, 0, none⟩) (by omega)]; exact k1
              have k4 : w8.cell? ⟨w6.heap.size, 1, none⟩ = some (.string v) := by rw [hb8.cell (p := ⟨w6.heap.size, 1, none⟩) (by omega)]; exact k2
              have hlt8 : w6.heap.size < w8.heap.size := by omega
              have hBN : Below wr.heap.size wr (w8.alloc (.cells #[.string n, .string v] 36)) := by
                refine Below.alloc ?_ (by omega) _
                exact (((hb5.trans (hb6.mono hs5)).alloc (by omega) _).trans (hb7.mono (by simp; omega))).trans (hb8.mono (by omega))
              clear hv8 hgb hg2 hfind k1 k2
              unfold fval
              by_cases hj12 : j ≤ 12
              · have hxj : x = j := by have := f5 (by omega); omega
                subst hxj
                have hj12i : (x : Int) ≤ 12 := by omega
                go_wp2
                go_roundw
                case rel => exact ⟨x + 1, by go_num, by omega, by omega, hbq.trans (hBN.mono hsq)⟩
                case measure => simp [intOf]; omega
              · have hj12i : 12 < (j : Int) := by omega
                go_wp2
                go_roundw
                case rel => exact ⟨j + 1, by go_num, by omega, by omega, hbq.trans (hBN.mono hsq)⟩
                case measure => simp [intOf]; omega
            · have hjj : ((12 + A.length : Nat) : Int) < (j : Int) := by omega
              have hLl : (alwaysL ++ A).length = 12 + A.length := by rw [List.length_append, always_len]
              have hl2 := hLen tb max A S w5 hD5 hF
              unfold tval at hl2
              go_wp2_with fail
              refine hl2.mono ?_
              rintro e w6 ⟨rfl, hb6⟩
              have hs6 := hb6.size
              have hg := hGet tb max A S (((12 + A.length : Nat) : Int) + 1) w6 (T.below hD5 hb6) hF
              unfold tval at hg
              go_wp2_with fail
              refine hg.mono ?_
              rintro e w7 ⟨v7, rfl, hv7, hb7⟩
              have hv8 : v7 = .tuple #[fval fnone, .iface 61 (.int .i64 5)] := by
                rcases hv7 with ⟨_, h2, _⟩ | ⟨_, rfl⟩
                · rw [hLl] at h2; omega
                · rfl
              subst hv8
              unfold fval fnone
              have hBE : Below w.heap.size w w7 := ((hBq.trans (hb5.mono (by omega))).trans (hb6.mono (by omega))).trans (hb7.mono (by omega))
              have hs7 := hb7.size
              go_wp2
              go_ret
              exact ⟨rfl, hBE.alloc (by omega) _⟩
  · have hcase : (decide (max < 0) = true) ∨ (decide (max < 0) = false ∧ decide (4096 < max) = true) := by
      by_cases h1 : max < 0
      · left; simp; omega
      · right; exact ⟨by simp; omega, by simp; omega⟩
    rcases hcase with d1 | ⟨d1, d2⟩
    all_goals
      go_wp2
      go_ret
      exact ⟨rfl, hb1⟩
end Go.Proofs.YtkjfhgoddhigmabDoor
