/-
  FROM THE ONE TO THE OTHER: the developers' readCode. No claim by itself.
-/
import Derived.Test.YtglmppadhlkkgagGreatDoorYteX
import Derived.Test.YtglmppadhlkkgagGreatDoorAtoi0
namespace Go.Proofs.YtglmppadhlkkgagGreatDoor
open Go Go.RowKit Go.Maps
set_option maxRecDepth 100000
theorem pu_one {acc : Nat} {c : UInt8} {r : List UInt8} (hacc : acc < 1000) : Lib.parseUint10 acc (c :: r) = if 48 ≤ c.toNat ∧ c.toNat ≤ 57 then Lib.parseUint10 (acc * 10 + (c.toNat - 48)) r else .syntax := by
  rw [Lib.parseUint10]
  split
  · rename_i h
    rw [if_neg (by omega), if_neg (by omega)]
  · rfl
theorem pu_two {b c : UInt8} {u : Nat} (h : Lib.parseUint10 0 [b, c] = .ok u) : u ≤ 99 := by
  rw [pu_one (by omega)] at h
  split at h
  · rw [pu_one (by omega)] at h
    split at h
    · rw [Lib.parseUint10] at h
      injection h with h
      omega
    · cases h
  · cases h
theorem pu_three {a b c : UInt8} {u : Nat} (h : Lib.parseUint10 0 [a, b, c] = .ok u) : 48 ≤ a.toNat ∧ a.toNat ≤ 57 ∧ 48 ≤ b.toNat ∧ b.toNat ≤ 57 ∧ 48 ≤ c.toNat ∧ c.toNat ≤ 57 ∧ u = ((a.toNat - 48) * 10 + (b.toNat - 48)) * 10 + (c.toNat - 48) := by
  rw [pu_one (by omega)] at h
  split at h
  · rw [pu_one (by omega)] at h
    split at h
    · rw [pu_one (by omega)] at h
      split at h
      · rw [Lib.parseUint10] at h
        injection h with h
        omega
      · cases h
    · cases h
  · cases h
theorem pu_three' {a b c : UInt8} (h1 : 48 ≤ a.toNat ∧ a.toNat ≤ 57) (h2 : 48 ≤ b.toNat ∧ b.toNat ≤ 57) (h3 : 48 ≤ c.toNat ∧ c.toNat ≤ 57) : Lib.parseUint10 0 [a, b, c] = .ok (((a.toNat - 48) * 10 + (b.toNat - 48)) * 10 + (c.toNat - 48)) := by
  rw [pu_one (by omega), if_pos h1, pu_one (by omega), if_pos h2, pu_one (by omega), if_pos h3, Lib.parseUint10]
  congr 1
  omega
theorem code_yes {l : List UInt8} {c : Int} (h : code3 (numsU l) = some c) : l.length = 3 ∧ 100 ≤ c ∧ c ≤ 599 ∧ Lib.atoiAll l = .ok c := by
  match l, h with
  | [x, y, z], h =>
    show _ ∧ _
    simp only [numsU, List.map_cons, List.map_nil, code3] at h
    split at h
    · rename_i hx
      have hc : ((x.toNat : Int) - 48) * 100 + ((y.toNat : Int) - 48) * 10 + ((z.toNat : Int) - 48) = c := Option.some.inj h
      refine ⟨rfl, by omega, by omega, ?_⟩
      unfold Lib.atoiAll
      simp only
      rw [if_neg (by omega)]
      unfold Lib.parseMag
      rw [pu_three' (by omega) (by omega) (by omega)]
      have e45 : ¬ x.toNat = 45 := by omega
      simp only [List.cons_ne_nil, if_false, e45, not_false_eq_true, true_and, false_and]
      rw [if_neg (by omega)]
      congr 1
      omega
    · cases h
  | [], h => cases h
  | [_], h => cases h
  | [_, _], h => cases h
  | _ :: _ :: _ :: _ :: _, h => cases h
theorem code_no {l : List UInt8} {v : Int} (h : code3 (numsU l) = none) (hv : Lib.atoiAll l = .ok v) : ¬ (l.length = 3 ∧ 100 ≤ v ∧ v ≤ 599) := by
  rintro ⟨hl, h1, h2⟩
  match l, hl with
  | [x, y, z], _ =>
    simp only [numsU, List.map_cons, List.map_nil, code3] at h
    split at h
    · cases h
    · rename_i hx
      unfold Lib.atoiAll at hv
      simp only at hv
      by_cases hs : x.toNat = 43 ∨ x.toNat = 45
      · rw [if_pos hs] at hv
        unfold Lib.parseMag at hv
        cases hp : Lib.parseUint10 0 [y, z] with
        | ok u =>
          have := pu_two hp
          rw [hp] at hv
          simp at hv
          split at hv
          · cases hv
          · split at hv
            · cases hv
            · injection hv with hv
              split at hv <;> omega
        | «syntax» => rw [hp] at hv; simp at hv
        | range => rw [hp] at hv; simp at hv
      · rw [if_neg hs] at hv
        unfold Lib.parseMag at hv
        cases hp : Lib.parseUint10 0 [x, y, z] with
        | ok u =>
          have := pu_three hp
          rw [hp] at hv
          simp at hv
          split at hv
          · cases hv
          · split at hv
            · cases hv
            · injection hv with hv
              split at hv <;> omega
        | «syntax» => rw [hp] at hv; simp at hv
        | range => rw [hp] at hv; simp at hv
/-- What is known of the library's two errors. -/
def erP (w : World) : Prop := (∃ t p, w.cell? ⟨3, 0, none⟩ = some (.iface t p)) ∧ ∃ t p, w.cell? ⟨4, 0, none⟩ = some (.iface t p)
theorem erP.below {w w' : World} (h : erP w) (hb : Below w.heap.size w w') : erP w' := by
  obtain ⟨⟨t, p, h1⟩, ⟨t2, p2, h2⟩⟩ := h
  have lt : ∀ g v, w.cell? ⟨g, 0, none⟩ = some v → g < w.heap.size := fun g v hc => by
    rcases Nat.lt_or_ge g w.heap.size with h | h
    · exact h
    · simp [World.cell?, Array.getElem?_eq_none h] at hc
  exact ⟨⟨t, p, (hb.cell (p := ⟨3, 0, none⟩) (lt _ _ h1)).trans h1⟩, ⟨t2, p2, (hb.cell (p := ⟨4, 0, none⟩) (lt _ _ h2)).trans h2⟩⟩
set_option maxHeartbeats 1000000 in
theorem xatoi_any (s : ByteArray) (hs : s.size ≤ 140737488351232) (w : World) (he : erP w) : Calls Tryz.prog 118 #[.string s] w fun e w' => ∃ v err, e = .returned (.tuple #[.int .i64 v, err]) ∧ Below w.heap.size w w' ∧ ((err = .nilIface ∧ Lib.atoiAll s.data.toList = .ok v) ∨ ((∃ t p, err = .iface t p) ∧ ∀ x, Lib.atoiAll s.data.toList ≠ .ok x)) := by
  obtain ⟨⟨t, p, h1⟩, ⟨t2, p2, h2⟩⟩ := he
  cases ha : Lib.atoiAll s.data.toList with
  | ok v =>
    refine (show Calls Tryz.prog 118 #[.string s] w _ from Any.strconv_Atoi_ok Tryz.laysAtoi s (by omega) v ha w).mono ?_
    rintro e w' ⟨rfl, hw⟩
    refine ⟨v, .nilIface, rfl, ?_, Or.inl ⟨rfl, rfl⟩⟩
    rcases hw with rfl | ⟨t, rfl⟩
    · exact Below.refl _ _
    · exact Lib.bytesWorld_below _ _ _
  | «syntax» =>
    refine (show Calls Tryz.prog 118 #[.string s] w _ from Any.strconv_Atoi_syntax Tryz.laysAtoi s (by omega) ha (.iface t p) w (show w.cell? ⟨3, 0, none⟩ = _ from h1) (Or.inr ⟨t, p, rfl⟩)).mono ?_
    rintro e w' ⟨N, rfl, _, _, hb⟩
    exact ⟨_, _, rfl, hb, Or.inr ⟨⟨_, _, rfl⟩, fun x hx => by cases hx⟩⟩
  | range =>
    refine (show Calls Tryz.prog 118 #[.string s] w _ from Any.strconv_Atoi_range Tryz.laysAtoi s (by omega) ha (.iface t2 p2) w (show w.cell? ⟨4, 0, none⟩ = _ from h2) (Or.inr ⟨t2, p2, rfl⟩)).mono ?_
    rintro e w' ⟨N, rfl, _, _, hb⟩
    exact ⟨_, _, rfl, hb, Or.inr ⟨⟨_, _, rfl⟩, fun x hx => by cases hx⟩⟩
def RcE (s : ByteArray) (w : World) (e : Ending) (w' : World) : Prop := ∃ v b, e = .returned (.tuple #[.int .i64 v, .bool b]) ∧ Below w.heap.size w w' ∧ ((b = true ∧ code3 (unums s) = some v) ∨ (b = false ∧ code3 (unums s) = none))
set_option maxHeartbeats 1000000 in
theorem xrc_any (s : ByteArray) (hs : s.size ≤ 140737488351232) (w : World) (he : erP w) : Calls Tryz.prog 57 #[.string s] w fun e w' => RcE s w e w' := by
  have HA := vl (xatoi_any s hs w he)
  have hsl : s.data.toList.length = s.size := by rw [Array.length_toList]; rfl
  have HSL := vl hsl
  clear hsl he
  go_enter Tryz.func57, Tryz.ntmps57
  go_wp2_with fail
  refine HA.out.mono ?_
  rintro e w1 ⟨v, err, rfl, hb, hc⟩
  have HB := vl hb
  clear HA hb
  rcases hc with ⟨rfl, hok⟩ | ⟨⟨t, p, rfl⟩, hno⟩
  · cases hcode : code3 (unums s) with
    | some c =>
      obtain ⟨h3, h100, h599, h4⟩ := code_yes (l := s.data.toList) hcode
      have hvc : v = c := by rw [hok] at h4; injection h4
      subst hvc
      have HCS := vl hcode
      have e3 : (s.size : Int) = 3 := by have := HSL.out; omega
      clear hok h4 h3 hcode
      go_wp2_with fail
      go_returns
      exact ⟨_, _, rfl, HB.out, Or.inl ⟨by simp [*], HCS.out⟩⟩
    | none =>
      have hn := code_no (l := s.data.toList) hcode hok
      have HCN := vl hcode
      have HN : Vl (¬ (s.size = 3 ∧ 100 ≤ v ∧ v ≤ 599)) := vl (by rw [HSL.out] at hn; exact hn)
      clear hn hok hcode
      by_cases e3 : s.size = 3
      · have e3' : (s.size : Int) = 3 := by omega
        by_cases e4 : 100 ≤ v
        · have e5 : ¬ v ≤ 599 := fun h => HN.out ⟨e3, e4, h⟩
          go_wp2_with fail
          go_returns
          exact ⟨_, _, rfl, HB.out, Or.inr ⟨by simp [*], HCN.out⟩⟩
        · go_wp2_with fail
          go_returns
          exact ⟨_, _, rfl, HB.out, Or.inr ⟨by simp, HCN.out⟩⟩
      · have e3' : ((s.size : Int) == 3) = false := by simp; omega
        go_wp2_with fail
        go_returns
        exact ⟨_, _, rfl, HB.out, Or.inr ⟨by simp [*], HCN.out⟩⟩
  · have HC : Vl (code3 (unums s) = none) := vl (by
      cases hcode : code3 (unums s) with
      | some c => exact absurd (code_yes (l := s.data.toList) hcode).2.2.2 (hno c)
      | none => rfl)
    clear hno
    go_wp2_with fail
    go_returns
    exact ⟨_, _, rfl, HB.out, Or.inr ⟨rfl, HC.out⟩⟩
end Go.Proofs.YtglmppadhlkkgagGreatDoor
