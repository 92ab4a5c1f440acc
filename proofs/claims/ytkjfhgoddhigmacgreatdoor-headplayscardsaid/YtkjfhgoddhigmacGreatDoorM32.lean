/-
  CONTRACT of the method Decode of tollref1.C. No claim by itself.
-/
import Derived.Test.YtkjfhgoddhigmacGreatDoorM31
import Derived.Test.YtkjfhgoddhigmacGreatDoorM29
import Derived.Test.YtkjfhgoddhigmacGreatDoorM30
namespace Go.Proofs.YtkjfhgoddhigmacGreatDoor
open Go.RowKit
set_option maxRecDepth 100000
theorem CodR.shut {w : World} {cb : Nat} {st : CSt} {S : Nat → Prop} (h : CodR w cb st S) : CodR (w.setCell ⟨cb, 6, none⟩ (.bool true)) cb { st with bad := true } S := by
  obtain ⟨h1, h2, h3, h4, h5, v, h6, h7, h8, h9, h10⟩ := h
  have hs : (w.setCell ⟨cb, 6, none⟩ (.bool true)).heap.size = w.heap.size := by simp
  have hc : ∀ i, i ≠ 6 → (w.setCell ⟨cb, 6, none⟩ (.bool true)).cell? ⟨cb, i, none⟩ = w.cell? ⟨cb, i, none⟩ := fun i hi => World.cell?_setCell_other w ⟨cb, 6, none⟩ ⟨cb, i, none⟩ _ (by intro e; cases e; exact hi rfl)
  have hf : ∀ i, (w.setCell ⟨cb, 6, none⟩ (.bool true)).frozen? ⟨cb, i, none⟩ = w.frozen? ⟨cb, i, none⟩ := fun i => by rw [World.frozen?_setCell]
  have hk : ∀ k, k ≠ cb → (w.setCell ⟨cb, 6, none⟩ (.bool true)).heap[k]? = w.heap[k]? := fun k hn => Below.heap_setCell w ⟨cb, 6, none⟩ _ k hn
  refine ⟨h1, fun k hk' => by rw [hs]; exact h2 k hk', (hc 4 (by decide)).trans h3, World.cell?_setCell_same w _ _ h4, ⟨(hf 5).trans h5.1, (hf 6).trans h5.2⟩, v, (hc 5 (by decide)).trans h6, own_kept h7 (fun k e => hk k (h8 k e).2), h8, ?_, ?_⟩
  · exact h9.same (fun i hi => hc i (by omega)) (fun i _ => hf i) (fun k _ hn _ => hk k hn)
  · exact h10.same (fun i hi => hc i (by omega)) (fun i _ => hf i) (fun k _ hn _ => hk k hn)
/-- What the document's Decode gives. -/
def RDecTold (cb : Nat) (st : CSt) (R : List (ByteArray × ByteArray) × Int × Int × List (ByteArray × ByteArray)) (w : World) (e : Ending) (w' : World) (T : Nat → Prop) : Prop :=
  (st.bad = true ∧ e = .returned (.tuple #[.slice none 0 0, .int .i64 6]) ∧ CodR w' cb st T) ∨
  (st.bad = false ∧ R.2.1 = 0 ∧ ∃ v, e = .returned (.tuple #[v, .int .i64 0]) ∧ w'.ownsRow w.heap.size 60 2 v R.1.length (fcells R.1) ∧ (∀ k, v.ownBlock = some k → ¬ T k) ∧ CodR w' cb { st with mi := R.2.2.1, AI := R.2.2.2 } T ∧ Fit R.2.2.1 R.2.2.2) ∨
  (st.bad = false ∧ R.2.1 ≠ 0 ∧ e = .returned (.tuple #[.slice none 0 0, .int .i64 R.2.1]) ∧ ∃ mi AI, CodR w' cb { st with mi := mi, AI := AI, bad := true } T)
set_option maxHeartbeats 4000000 in
theorem rcdecode_any (cb : Nat) (st : CSt) (S : Nat → Prop) (a : Option Addr) (len cap : Nat) (Z : List Int) (w : World) (hC : CodR w cb st S) (hF : st.bad = false → CFit st) (hA : ArgS S w a len cap Z) (hZ : Z.length = len) (hlm : len ≤ 140737488351232) :
    Calls Tryz.prog 13 #[.pointer (some ⟨cb, 0, none⟩), .slice a len cap] w fun e w' => ∃ T, RDecTold cb st (dcF st.most (len + 1) st.mi st.AI [] Z) w e w' T ∧ Off S w w' ∧ ∀ k, T k → S k ∨ w.heap.size ≤ k := by
  have HC := hide hC
  have c6 := hC.hbad
  rcases Bool.eq_false_or_eq_true st.bad with hb | hb
  · rw [hb] at c6
    have HB := hide hb
    clear hb hC hF hA
    go_enter Tryz.func13, Tryz.ntmps13
    go_wp2
    go_ret2
    exact ⟨S, Or.inl ⟨HB.out, rfl, HC.out⟩, Off.of_below (Below.refl _ _), fun k hk => Or.inl hk⟩
  · have hl := rlist_any cb st S a len cap Z w hC (hF hb) hA hZ hlm
    rw [hb] at c6
    have HB := hide hb
    generalize dcF st.most (len + 1) st.mi st.AI [] Z = R at *
    clear hb hC hF hA
    go_enter Tryz.func13, Tryz.ntmps13
    go_wp2_with fail
    refine hl.mono ?_
    rintro e w1 ⟨T, hT, ho, hS⟩
    have HO := hide ho
    have HS := hide hS
    have HT := hide hT
    clear hl hT ho hS
    rcases HT.out with ⟨r0, v, rfl, r1, r2, r3, r4⟩ | ⟨r0, rfl, mi, AI, r1⟩
    · have Q := hide (And.intro r0 (And.intro r1 (And.intro r2 (And.intro r3 r4))))
      clear HT r0 r1 r2 r3 r4
      go_wp2
      go_ret2
      obtain ⟨r0, r1, r2, r3, r4⟩ := Q.out
      exact ⟨T, Or.inr (Or.inl ⟨HB.out, r0, v, rfl, r1, r2, r3, r4⟩), HO.out, HS.out⟩
    · have k6 := r1.hbad
      have f6 := r1.hfz.2
      simp only at k6
      have R1 := hide r1
      have R0 := hide r0
      have d0 : (R.2.1 != 0) = true := by simpa using r0
      clear HT r0 r1
      go_wp2
      go_ret2
      exact ⟨T, Or.inr (Or.inr ⟨HB.out, R0.out, rfl, mi, AI, R1.out.shut⟩), HO.out.trans2 ((Off.of_below (S := T) (Below.refl _ w1)).setCell cb 6 R1.out.hcb _) HS.out, HS.out⟩
end Go.Proofs.YtkjfhgoddhigmacGreatDoor
/-
  CONTRACT of the method Encode of tollref1.C, where something is too much. No claim by itself.
-/
namespace Go.Proofs.YtkjfhgoddhigmacGreatDoor
open Go.RowKit
set_option maxRecDepth 100000
theorem weight_most : ∀ (L : List (ByteArray × ByteArray)), (∀ f ∈ L, f.1.size + f.2.size ≤ 281474976710656) → weight L ≤ 281474976710688 * L.length
  | [], _ => by simp [weight]
  | f :: L, h => by
    have ih := weight_most L (fun g hg => h g (List.mem_cons_of_mem _ hg))
    have h1 := h f List.mem_cons_self
    rw [weight_cons, List.length_cons]
    unfold fsize
    omega
set_option maxHeartbeats 4000000 in
theorem rcenc_no (cb : Nat) (a : Option Addr) (len cap : Nat) (L : List (ByteArray × ByteArray)) (w : World) (hA : FArg w a len cap L) (hlen : L.length = len) (hlm : len ≤ 4611686018427387904) (hL : ∀ f ∈ L, f.1.size + f.2.size ≤ 281474976710656) (hbad : tooMuch L) :
    Calls Tryz.prog 9 #[.pointer (some ⟨cb, 0, none⟩), .slice a len cap] w fun e w' => e = .returned (.tuple #[.slice none 0 0, .int .i64 4]) ∧ Below w.heap.size w w' := by
  have hlm' := hlm
  clear hlm
  by_cases h40 : 40 < len
  · have d40 : decide ((40 : Int) < (len : Int)) = true := by simp; omega
    clear hA hL hbad
    go_enter Tryz.func9, Tryz.ntmps9
    go_wp2
    go_ret2
    exact ⟨rfl, Below.refl _ _⟩
  · have d40 : decide ((40 : Int) < (len : Int)) = false := by simp; omega
    have hwm := weight_most L hL
    have hw0 := rweight_arg a len cap L w hA (by rw [hlen] at hwm; omega)
    by_cases h20 : 2000 < weight L
    · have d20 : decide ((2000 : Int) < (weight L : Int)) = true := by simp; omega
      generalize weight L = wl at *
      clear hA hL hbad
      go_enter Tryz.func9, Tryz.ntmps9
      go_wp2_with fail
      refine hw0.mono ?_
      rintro e w1 ⟨rfl, hb1⟩
      clear hw0
      go_wp2
      go_ret2
      exact ⟨rfl, hb1⟩
    · have d20 : decide ((2000 : Int) < (weight L : Int)) = false := by simp; omega
      obtain ⟨f0, hf0, hns⟩ : ∃ f ∈ L, ¬ small f := by
        rcases hbad with h | h | h
        · omega
        · omega
        · exact h
      generalize weight L = wl at *
      have HA := hide hA
      clear hA hL
      go_enter Tryz.func9, Tryz.ntmps9
      go_wp2_with fail
      refine hw0.mono ?_
      rintro e w1 ⟨rfl, hb1⟩
      have HB1 := hide hb1
      have HA1 := hide (HA.out.below hb1)
      clear hw0 hb1
      go_wp2_with fail
      go_loopw [6] (fun i wr => ∃ k : Nat, i = .int .i64 k ∧ k ≤ len ∧ Hid (∀ t, t < k → small (L.getD t fnone)) ∧ w1 = wr) (fun i _ => len - (intOf i).toNat)
      case atStart => exact ⟨0, rfl, by omega, fun t ht => by omega, rfl⟩
      case round =>
        obtain ⟨k, rfl, hk, HK, rfl⟩ := hrel
        by_cases hlt : k < len
        · rcases HA1.out with ⟨h0, _⟩ | ⟨g, off, rfl, hr⟩
          · omega
          have c1 := hr.hname k hlt
          have c2 := hr.hvalue k hlt
          have hcap := hr.hcap
          have hmx := hr.hmax
          unfold maxLen at hmx
          have hki : (k : Int) < (len : Int) := by omega
          have HKS : Hid (small (L.getD k fnone) → ∀ t, t < k + 1 → small (L.getD t fnone)) := fun hs t ht => by
            rcases Nat.lt_or_ge t k with h | h
            · exact HK.out t h
            · obtain rfl : t = k := by omega
              exact hs
          generalize L.getD k fnone = f at *
          obtain ⟨n, v⟩ := f
          clear hr
          by_cases q1 : 400 < n.size
          · have e1 : decide ((400 : Int) < (n.size : Int)) = true := by simp; omega
            go_wp2
            go_ret2
            exact ⟨rfl, HB1.out⟩
          · have e1 : decide ((400 : Int) < (n.size : Int)) = false := by simp; omega
            by_cases q2 : 400 < v.size
            · have e2 : decide ((400 : Int) < (v.size : Int)) = true := by simp; omega
              go_wp2
              go_ret2
              exact ⟨rfl, HB1.out⟩
            · have e2 : decide ((400 : Int) < (v.size : Int)) = false := by simp; omega
              go_wp2
              go_roundw
              case rel => exact ⟨k + 1, by go_num, by omega, HKS.out ⟨by show n.size ≤ 400; omega, by show v.size ≤ 400; omega⟩, trivial⟩
              case measure => simp [intOf]; omega
        · exfalso
          obtain ⟨i, hi, rfl⟩ := List.getElem_of_mem hf0
          have := HK.out i (by omega)
          rw [List.getD, List.getElem?_eq_getElem hi] at this
          exact hns this
end Go.Proofs.YtkjfhgoddhigmacGreatDoor
/-
  CONTRACT of the method Decode of head.Coder. No claim by itself.
-/
namespace Go.Proofs.YtkjfhgoddhigmacGreatDoor
open Go.RowKit
set_option maxRecDepth 100000
/-- A coder that reads no more. -/
theorem HCod.shut {w : World} {cb : Nat} {st : CSt} {S : Nat → Prop} (h : HCod w cb st S) (mi : Int) (AI : List (ByteArray × ByteArray)) : HCod (w.setCell ⟨cb, 3, none⟩ (.pointer none)) cb { st with mi := mi, AI := AI, bad := true } S := by
  obtain ⟨h1, h2, h3, h4, tO, SO, vi, h5, h6, h7, _⟩ := h
  have hs : (w.setCell ⟨cb, 3, none⟩ (.pointer none)).heap.size = w.heap.size := by simp
  have hk : ∀ k, k ≠ cb → (w.setCell ⟨cb, 3, none⟩ (.pointer none)).heap[k]? = w.heap[k]? := fun k hk => Below.heap_setCell w ⟨cb, 3, none⟩ _ k hk
  have hA := hk 1 (fun e => h4 (e ▸ h2))
  refine ⟨h1.kept hA, h2, fun k hk' => by rw [hs]; exact h3 k hk', h4, tO, SO, .pointer none, ?_, tabKeeps.frame h6 (by omega) (fun k hk' => hk k (h7 k hk').2) hA, h7, Or.inl ⟨rfl, rfl⟩⟩
  rw [heap_set h5]; rfl
theorem HCod.cell3 {w : World} {cb : Nat} {st : CSt} {S : Nat → Prop} (h : HCod w cb st S) : (∃ v, w.cell? ⟨cb, 3, none⟩ = some v) ∧ w.frozen? ⟨cb, 3, none⟩ = false := by
  obtain ⟨tO, SO, vi, hh, _⟩ := h.cells
  exact ⟨⟨vi, (cell_at hh 3).trans rfl⟩, frozen_at hh 3⟩
/-- What Decode gives. -/
def DecTold (cb : Nat) (st : CSt) (R : List (ByteArray × ByteArray) × Int × Int × List (ByteArray × ByteArray)) (w : World) (e : Ending) (w' : World) (T : Nat → Prop) : Prop :=
  (st.bad = true ∧ e = .returned (.tuple #[.slice none 0 0, .iface 53 (.int .i64 6)]) ∧ HCod w' cb st T) ∨
  (st.bad = false ∧ R.2.1 = 0 ∧ ∃ v, e = .returned (.tuple #[v, .nilIface]) ∧ w'.ownsRow w.heap.size 60 2 v R.1.length (fcells R.1) ∧ (∀ k, v.ownBlock = some k → ¬ T k) ∧ HCod w' cb { st with mi := R.2.2.1, AI := R.2.2.2 } T ∧ Fit R.2.2.1 R.2.2.2) ∨
  (st.bad = false ∧ R.2.1 ≠ 0 ∧ e = .returned (.tuple #[.slice none 0 0, .iface 53 (.int .i64 R.2.1)]) ∧ HCod w' cb { st with bad := true } T)
set_option maxHeartbeats 4000000 in
theorem hdecode_any (cb : Nat) (st : CSt) (S : Nat → Prop) (a : Option Addr) (len cap : Nat) (Z : List Int) (w : World) (hC : HCod w cb st S) (hF : HFit st) (hA : ArgS S w a len cap Z) (hZ : Z.length = len) (hlm : len ≤ 140737488351232) :
    Calls Tryz.prog 14 #[.pointer (some ⟨cb, 0, none⟩), .slice a len cap] w fun e w' => ∃ T, DecTold cb st (dcF st.most (len + 1) st.mi st.AI [] Z) w e w' T ∧ Off S w w' ∧ ∀ k, T k → S k ∨ w.heap.size ≤ k := by
  have HC := hide hC
  rcases Bool.eq_false_or_eq_true st.bad with hb | hb
  · obtain ⟨tO, SO, vi, hh, _, _, ⟨_, rfl⟩ | ⟨h, _⟩⟩ := hC.cells
    · have c3 : w.cell? ⟨cb, 3, none⟩ = some (.pointer none) := (cell_at hh 3).trans rfl
      have HB := hide hb
      clear hb hC hF hA hh
      go_enter Tryz.func14, Tryz.ntmps14
      go_wp2
      go_ret2
      exact ⟨S, Or.inl ⟨HB.out, rfl, HC.out⟩, Off.of_below (Below.refl _ _), fun k hk => Or.inl hk⟩
    · rw [hb] at h; cases h
  · have hl := hlist_any cb st S a len cap Z w hC hF hb hA hZ hlm
    obtain ⟨ti, SI, c3, _, _⟩ := hC.inn hb
    have HB := hide hb
    generalize dcF st.most (len + 1) st.mi st.AI [] Z = R at *
    clear hb hC hF hA
    go_enter Tryz.func14, Tryz.ntmps14
    go_wp2_with fail
    refine hl.mono ?_
    rintro e w1 ⟨T, hT, ho, hS⟩
    have HO := hide ho
    have HS := hide hS
    have HT := hide hT
    clear hl hT ho hS
    rcases HT.out with ⟨r0, v, rfl, r1, r2, r3, r4⟩ | ⟨r0, rfl, mi, AI, r1⟩
    · have Q := hide (And.intro r0 (And.intro r1 (And.intro r2 (And.intro r3 r4))))
      clear HT r0 r1 r2 r3 r4
      go_wp2
      go_ret2
      obtain ⟨r0, r1, r2, r3, r4⟩ := Q.out
      exact ⟨T, Or.inr (Or.inl ⟨HB.out, r0, v, rfl, r1, r2, r3, r4⟩), HO.out, HS.out⟩
    · obtain ⟨⟨v3, k3⟩, f3⟩ := r1.cell3
      have R1 := hide r1
      have R0 := hide r0
      clear HT r0 r1
      go_wp2
      go_ret2
      exact ⟨T, Or.inr (Or.inr ⟨HB.out, R0.out, rfl, R1.out.shut st.mi st.AI⟩), HO.out.trans2 ((Off.of_below (S := T) (Below.refl _ w1)).setCell cb 3 R1.out.hcb _) HS.out, HS.out⟩
end Go.Proofs.YtkjfhgoddhigmacGreatDoor
