/-
  WHAT WAS DONE: slices.Collect and slices.Sorted of numbers in a row; Rank. No claim by itself.
-/
import Derived.Test.YteohgkgahkkjlaaGreatDoorG1
import Derived.Test.YteohgkgahkkjlaaGreatDoorIsr0
import Derived.Shelf.SortM.Plain
import Derived.Lib.SlKeysI
namespace Go.Proofs.YteohgkgahkkjlaaGreatDoor
open Go Go.RowKit Go.Sort Go.Shelf
set_option maxRecDepth 100000
def sortL (L : List Int) : List Int := L.mergeSort fun x y => decide (x ≤ y)
theorem sortL_len (L : List Int) : (sortL L).length = L.length := by unfold sortL; simp
theorem own_cell {w : World} {base g n c : Nat} {L : List Int} (h : w.ownsRow base 3 1 (.slice (some ⟨g, 0, none⟩) n c) n (L.map (Value.int .i64))) (hL : L.length = n) {t : Nat} (ht : t < n) : w.cell? ⟨g, t, none⟩ = some (.int .i64 (L.getD t 0)) := by
  rcases h.2 with ⟨e, _⟩ | ⟨g', cap, cur, e, _, hgb, r1, _, r3, r4⟩
  · cases e
  · injection e with e1 e2 e3
    injection e1 with e1
    injection e1 with e1
    subst e1
    have hcur : cur.toList[t]? = some (.int .i64 (L.getD t 0)) := by
      have h1 : (cur.toList.take (n * 1))[t]? = cur.toList[t]? := by rw [List.getElem?_take]; simp; omega
      rw [← h1, r4, List.getElem?_map, List.getElem?_eq_getElem (by omega)]
      simp [List.getD, List.getElem?_eq_getElem (show t < L.length by omega)]
    simp only [World.cell?, hgb]
    rw [← Array.getElem?_toList]
    exact hcur
theorem icoll_in (g off len cap : Nat) (Z : List Int) (b : Nat) (w : World) (hbx : Boxed w b 37 (.slice (some ⟨g, off, none⟩) len cap)) (hl : len ≤ 1000) (hcell : ∀ t, t < len → w.cell? ⟨g, off + t, none⟩ = some (.int .i64 (Z.getD t 0))) (hg : g < w.heap.size) :
    Calls Tryz.prog 49 #[.func (.func 51) #[] #[.pointer (some ⟨b, 0, none⟩)]] w fun e w' => ∃ v, e = .returned v ∧ w'.ownsRow w.heap.size 3 1 v len ((zl len Z).map (Value.int .i64)) ∧ Below w.heap.size w w' := by
  have H := vl (callsIn_wide.1 (iapps_in g off len cap Z b w hbx hl hcell hg))
  clear hbx hcell
  go_enter Tryz.func49, Tryz.ntmps49
  go_wp2_with fail
  refine H.out.mono ?_
  rintro e w' ⟨v, rfl, h1, h2⟩
  have HF := vl (And.intro h1 h2)
  clear h1 h2
  go_wp2_with fail
  go_ret
  exact ⟨v, rfl, HF.out⟩
theorem isorted_any (g off len cap : Nat) (Z : List Int) (b : Nat) (w : World) (hbx : Boxed w b 37 (.slice (some ⟨g, off, none⟩) len cap)) (hl : len ≤ 1000) (h0 : 0 < len) (hcell : ∀ t, t < len → w.cell? ⟨g, off + t, none⟩ = some (.int .i64 (Z.getD t 0))) (hg : g < w.heap.size) :
    Calls Tryz.prog 30 #[.func (.func 51) #[] #[.pointer (some ⟨b, 0, none⟩)]] w fun e w' => ∃ g' cap', e = .returned (.slice (some ⟨g', 0, none⟩) len cap') ∧ len ≤ cap' ∧ (∀ t, t < len → w'.cell? ⟨g', t, none⟩ = some (.int .i64 ((sortL (zl len Z)).getD t 0))) ∧ Below w.heap.size w w' := by
  have H := vl (icoll_in g off len cap Z b w hbx hl hcell hg)
  clear hbx hcell
  go_enter Tryz.func30, Tryz.ntmps30
  go_wp2_with fail
  refine H.out.mono ?_
  rintro e w2 ⟨v, rfl, h1, h2⟩
  rcases h1.2 with ⟨_, hz⟩ | ⟨gb, c, cur, hv, hbase, hgb, r1, r2, r3, r4⟩
  · omega
  subst hv
  have hH : Holds (Value.int .i64) w2 gb 0 (zl len Z).toArray := holds_of_block_i hgb (by rw [zl_len]; simpa using r4)
  have hgl : gb < w2.heap.size := (Array.getElem?_eq_some_iff.1 hgb).1
  have cS := vl (AnyM.slices_Sort_int Tryz.isort gb 0 c (zl len Z) w2 hH hgl (by rw [zl_len]; omega))
  rw [zl_len] at cS
  have HF : Vl (∀ nn os, len ≤ c ∧ (∀ t, t < len → (grow (putRow (Value.int .i64) (Sort.ahead w2 nn) gb 0 ((zl len Z).mergeSort fun x y => decide (x ≤ y)).toArray) os).cell? ⟨gb, t, none⟩ = some (.int .i64 ((sortL (zl len Z)).getD t 0))) ∧ Below w.heap.size w (grow (putRow (Value.int .i64) (Sort.ahead w2 nn) gb 0 ((zl len Z).mergeSort fun x y => decide (x ≤ y)).toArray) os)) := vl (fun nn os => by
    have hr := ownsRow_sorted_i (n := nn) (os := os) (ss := zl len Z) (ts := sortL (zl len Z)) (w := w2) (g := gb) (base := w.heap.size) (cap := c) (cur := cur) (e := 3) (sortL_len _) hbase hgb (by rw [zl_len]; exact r1) r2 r3
    refine ⟨r1, fun t ht => ?_, h2.grown (grownBy_sorted_i _) h2.size (fun j hj => by cases hj; exact hbase)⟩
    rw [zl_len] at hr
    exact own_cell hr (by rw [sortL_len, zl_len]) ht)
  clear h1 h2 hgb hH r4
  go_wp2_with fail
  refine cS.out.mono ?_
  rintro e w' ⟨rfl, nn, os, rfl⟩
  obtain ⟨q1, q2, q3⟩ := HF.out nn os
  have Q2 := vl q2
  have Q3 := vl q3
  clear q2 q3
  generalize grow (putRow (Value.int .i64) (Sort.ahead w2 nn) gb 0 ((zl len Z).mergeSort fun x y => decide (x ≤ y)).toArray) os = w3 at *
  go_wp2_with fail
  go_ret
  exact ⟨gb, c, rfl, q1, Q2.out, Q3.out⟩
/- Rank -/
def rkE (L : List Int) (p : Int) : Int := if ¬ (1 ≤ p ∧ p ≤ 100) then 1 else if L.length = 0 then 5 else if 1000 < L.length then 4 else 0
def rkP (n : Nat) (p : Int) : Int := (p * (n : Int) + 99) / 100
def rkV (L : List Int) (p : Int) : Int := if rkE L p = 0 then (sortL L).getD ((rkP L.length p).toNat - 1) 0 else 0
theorem rk_place {n : Nat} {p : Int} (h0 : 0 < n) (h1 : n ≤ 1000) (hp : 1 ≤ p) (hq : p ≤ 100) : 1 ≤ rkP n p ∧ rkP n p ≤ n := by
  unfold rkP
  have a1 : (n : Int) ≤ p * (n : Int) := by have := Int.mul_le_mul_of_nonneg_right hp (show (0 : Int) ≤ (n : Int) by omega); omega
  have a2 : p * (n : Int) ≤ 100 * (n : Int) := Int.mul_le_mul_of_nonneg_right hq (by omega)
  omega
theorem gwith2_any (n lo hi : Int) (w : World) : Calls Tryz.prog 29 #[.int .i64 n, .int .i64 lo, .int .i64 hi] w fun e w' => e = .returned (.bool (decide (lo ≤ n ∧ n ≤ hi))) ∧ w = w' := by
  by_cases h1 : lo ≤ n
  · by_cases h2 : n ≤ hi
    · go_enter Tryz.func29, Tryz.ntmps29
      go_wp2
      go_ret
      simp [h1, h2]
    · go_enter Tryz.func29, Tryz.ntmps29
      go_wp2
      go_ret
      simp [h2]
  · go_enter Tryz.func29, Tryz.ntmps29
    go_wp2
    go_ret
    simp
    omega
set_option maxHeartbeats 2000000 in
theorem grank_any (a : Option Addr) (len cap : Nat) (Z : List Int) (p : Int) (w : World) (hA : NArg w a len cap Z) (hlm : len ≤ 4611686018427387904) :
    Calls Tryz.prog 13 #[.slice a len cap, .int .i64 p] w fun e w' => e = .returned (.tuple #[.int .i64 (rkV (zl len Z) p), errW (rkE (zl len Z) p)]) ∧ Below w.heap.size w w' := by
  have HW := vl (gwith2_any p 1 100)
  have HE : Vl (rkE (zl len Z) p = if ¬ (1 ≤ p ∧ p ≤ 100) then 1 else if len = 0 then 5 else if 1000 < len then 4 else 0) := vl (by unfold rkE; rw [zl_len])
  obtain ⟨E, hE⟩ : ∃ E, rkE (zl len Z) p = E := ⟨_, rfl⟩
  obtain ⟨V, hV⟩ : ∃ V, rkV (zl len Z) p = V := ⟨_, rfl⟩
  have HV := vl hV
  have HVE : Vl (V = if E = 0 then (sortL (zl len Z)).getD ((rkP len p).toNat - 1) 0 else 0) := vl (by rw [← hV, ← hE]; unfold rkV; rw [zl_len])
  rw [hV, hE]
  rw [hE] at HE
  clear hV hE HV
  by_cases hp : 1 ≤ p ∧ p ≤ 100
  · have hd : decide ((1 : Int) ≤ p ∧ p ≤ 100) = true := by simpa using hp
    rw [hd] at HW
    by_cases h0 : len = 0
    · subst h0
      obtain rfl : E = 5 := by rw [HE.out, if_neg (fun h => h hp), if_pos rfl]
      obtain rfl : V = 0 := by rw [HVE.out]; rfl
      clear HE HVE hd
      go_enter Tryz.func13, Tryz.ntmps13
      go_wp2_with (go_at_call 29; refine (HW.out _).mono ?_; rintro e w' ⟨rfl, rfl⟩)
      go_ret2
      exact ⟨rfl, Below.refl _ _⟩
    · obtain ⟨g, off, ha, hlc, hcm, hcell⟩ := hA.resolve_left h0
      subst ha
      by_cases h1 : 1000 < len
      · obtain rfl : E = 4 := by rw [HE.out, if_neg (fun h => h hp), if_neg h0, if_pos h1]
        obtain rfl : V = 0 := by rw [HVE.out]; rfl
        have h0' : ((len : Int) == 0) = false := by simp; omega
        have h1' : (1000 : Int) < (len : Int) := by omega
        clear HE HVE hd hcell
        go_enter Tryz.func13, Tryz.ntmps13
        go_wp2_with (go_at_call 29; refine (HW.out _).mono ?_; rintro e w' ⟨rfl, rfl⟩)
        go_ret2
        exact ⟨rfl, Below.refl _ _⟩
      · obtain rfl : E = 0 := by rw [HE.out, if_neg (fun h => h hp), if_neg h0, if_neg h1]
        have HVV : Vl (V = (sortL (zl len Z)).getD ((rkP len p).toNat - 1) 0) := vl (by rw [HVE.out, if_pos rfl])
        have h0' : ((len : Int) == 0) = false := by simp; omega
        have h1' : ¬ (1000 : Int) < (len : Int) := by omega
        have hpl := rk_place (n := len) (by omega) (by omega) hp.1 hp.2
        obtain ⟨k, hk⟩ : ∃ k : Nat, rkP len p = (k : Int) + 1 := ⟨(rkP len p).toNat - 1, by omega⟩
        have HKK : Vl ((rkP len p).toNat - 1 = k) := vl (by rw [hk]; omega)
        rw [HKK.out] at HVV
        have hm1 : p * (len : Int) ≤ 100000 := by
          have := Int.mul_le_mul_of_nonneg_right hp.2 (show (0 : Int) ≤ (len : Int) by omega); omega
        have hm0 : (0 : Int) ≤ p * (len : Int) := Int.mul_nonneg (by omega) (by omega)
        have hklt : k < len := by omega
        have hk' : ((p * (len : Int) + 99) / 100 : Int) = (k : Int) + 1 := hk
        have HNA := vl (And.intro hlc hcell)
        clear HE HVE hd hcell hpl hk HKK
        obtain ⟨m, hm⟩ : ∃ m, p * (len : Int) = m := ⟨_, rfl⟩
        rw [hm] at hk' hm1 hm0
        have hq : (m + 100 - 1) / 100 = (k : Int) + 1 := by rw [← hk']; congr 1; omega
        have k0 : (0 : Int) ≤ (k : Int) := by omega
        have k1 : (k : Int) < (len : Int) := by omega
        have HVA := vl (ivals_any (.slice (some ⟨g, off, none⟩) len cap) w ⟨_, _, _, rfl⟩)
        have hgw : g < w.heap.size := lt_of_cell (HNA.out.2 0 (by omega))
        have HSR := vl (isorted_any g off len cap Z w.heap.size (w.alloc (.cells #[.slice (some ⟨g, off, none⟩) len cap] 37)) (Boxed.new _ _ _) (by omega) (by omega) (fun t ht => ((Below.refl _ w).alloc (Nat.le_refl _) (.cells #[.slice (some ⟨g, off, none⟩) len cap] 37)).cell (p := ⟨g, off + t, none⟩) hgw |>.trans (HNA.out.2 t ht)) (by simp; omega))
        have HB1 := vl ((Below.refl _ w).alloc (Nat.le_refl _) (.cells #[.slice (some ⟨g, off, none⟩) len cap] 37))
        clear hk' HNA
        obtain ⟨W1, hW1⟩ : ∃ W1, w.alloc (.cells #[.slice (some ⟨g, off, none⟩) len cap] 37) = W1 := ⟨_, rfl⟩
        rw [hW1] at HVA HSR HB1
        have hs1 : Vl (W1.heap.size = w.heap.size + 1) := vl (by rw [← hW1]; simp)
        clear hW1
        go_enter Tryz.func13, Tryz.ntmps13
        go_wp2_with (first
          | (go_at_call 29; refine (HW.out _).mono ?_; rintro e w' ⟨rfl, rfl⟩)
          | (go_at_call 31; refine HVA.out.mono ?_; rintro e w' ⟨rfl, rfl⟩))
        refine HSR.out.mono ?_
        rintro e w3 ⟨g', cap', rfl, hc3, hce3, hb3⟩
        have c3 := hce3 k hklt
        have HB3 : Vl (Below w.heap.size w w3) := vl (HB1.out.trans (hb3.mono HB1.out.size))
        rw [← HVV.out] at c3
        clear hce3 hb3
        go_wp2_with fail
        go_ret2
        exact ⟨rfl, HB3.out⟩
  · have hd : decide ((1 : Int) ≤ p ∧ p ≤ 100) = false := by simpa using hp
    rw [hd] at HW
    obtain rfl : E = 1 := by rw [HE.out, if_pos hp]
    obtain rfl : V = 0 := by rw [HVE.out]; rfl
    clear HE HVE hd hA
    go_enter Tryz.func13, Tryz.ntmps13
    go_wp2_with (go_at_call 29; refine (HW.out _).mono ?_; rintro e w' ⟨rfl, rfl⟩)
    go_ret2
    exact ⟨rfl, Below.refl _ _⟩
end Go.Proofs.YteohgkgahkkjlaaGreatDoor
