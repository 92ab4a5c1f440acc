/-
  LOGORDER: a rank is one of them. The law's mathematics and walk. No claim by itself.
-/
import Derived.Test.YtajdlnpaiicclaaG2
import Derived.Deep.LoopGhost
import Derived.OwnWalk
namespace Go.Proofs.Ytajdlnpaiicclaa
open Go Go.RowKit
set_option maxRecDepth 100000
theorem sortL_perm (L : List Int) : (sortL L).Perm L := List.mergeSort_perm L _
theorem sortL_pair (L : List Int) : (sortL L).Pairwise (fun x y => x ≤ y) := by
  have h := List.pairwise_mergeSort (le := fun (x y : Int) => decide (x ≤ y)) (by intro a b c; simp; omega) (by intro a b; simp; omega) L
  exact h.imp (fun h => by simpa using h)
theorem sortL_of {L M : List Int} (h : L.Perm M) : sortL L = sortL M := by
  refine List.Perm.eq_of_pairwise (le := fun x y => x ≤ y) (fun a b _ _ h1 h2 => by omega) (sortL_pair L) (sortL_pair M) ?_
  exact ((sortL_perm L).trans h).trans (sortL_perm M).symm
theorem sortL_mono {L : List Int} {i j : Nat} (h : i ≤ j) (hj : j < L.length) : (sortL L).getD i 0 ≤ (sortL L).getD j 0 := by
  have hl := sortL_len L
  by_cases e : i = j
  · rw [e]; exact Int.le_refl _
  · have := List.pairwise_iff_getElem.1 (sortL_pair L) i j (by omega) (by omega) (by omega)
    simp only [List.getD, List.getElem?_eq_getElem (show i < (sortL L).length by omega), List.getElem?_eq_getElem (show j < (sortL L).length by omega)]
    exact this
theorem sortL_mem {L : List Int} {i : Nat} (h : i < L.length) : (sortL L).getD i 0 ∈ L := by
  have hl := sortL_len L
  rw [← (sortL_perm L).mem_iff]
  simp only [List.getD, List.getElem?_eq_getElem (show i < (sortL L).length by omega)]
  exact List.getElem_mem _
theorem rkE_ok {L : List Int} {p : Int} (h : rkE L p = 0) : (1 ≤ p ∧ p ≤ 100) ∧ 0 < L.length ∧ L.length ≤ 1000 := by
  unfold rkE at h
  split at h
  · omega
  · split at h
    · omega
    · split at h
      · omega
      · refine ⟨?_, by omega, by omega⟩
        omega
theorem rkE_of {L : List Int} {p : Int} (h : (1 ≤ p ∧ p ≤ 100) ∧ 0 < L.length ∧ L.length ≤ 1000) : rkE L p = 0 := by
  unfold rkE
  rw [if_neg (fun k => k h.1), if_neg (by omega), if_neg (by omega)]
theorem rkV_ok {L : List Int} {p : Int} (h : rkE L p = 0) : rkV L p = (sortL L).getD ((rkP L.length p).toNat - 1) 0 ∧ (rkP L.length p).toNat - 1 < L.length := by
  have h1 := rkE_ok h
  have h2 := rk_place h1.2.1 h1.2.2 h1.1.1 h1.1.2
  exact ⟨by unfold rkV; rw [if_pos h], by omega⟩
theorem rkV_mem {L : List Int} {p : Int} (h : rkE L p = 0) : rkV L p ∈ L := by
  rw [(rkV_ok h).1]; exact sortL_mem (rkV_ok h).2
theorem rkV_perm {L M : List Int} {p : Int} (h : L.Perm M) : rkV L p = rkV M p ∧ rkE L p = rkE M p := by
  have e : rkE L p = rkE M p := by unfold rkE; rw [h.length_eq]
  refine ⟨?_, e⟩
  unfold rkV
  rw [e, sortL_of h, h.length_eq]
theorem rkV_mono {L : List Int} {p q : Int} (hp : rkE L p = 0) (hq : rkE L q = 0) (h : p ≤ q) : rkV L p ≤ rkV L q := by
  rw [(rkV_ok hp).1, (rkV_ok hq).1]
  refine sortL_mono ?_ (rkV_ok hq).2
  have : rkP L.length p ≤ rkP L.length q := by
    unfold rkP
    have := Int.mul_le_mul_of_nonneg_right h (show (0 : Int) ≤ (L.length : Int) by omega)
    omega
  omega
theorem rk_fact : rkV [3, 1, 2] 50 = 2 ∧ rkE [3, 1, 2] 50 = 0 := by
  have h : sortL [3, 1, 2] = [1, 2, 3] := List.Perm.eq_of_pairwise (le := fun x y => x ≤ y) (fun a b _ _ h1 h2 => by omega) (sortL_pair _) (by decide) ((sortL_perm _).trans (by decide))
  have h0 : rkE [3, 1, 2] 50 = 0 := by decide
  refine ⟨?_, h0⟩
  unfold rkV
  rw [if_pos h0, h]
  decide
/-- The last j ones, the last one first. -/
def bkL (L : List Int) (j : Nat) : List Int := L.reverse.take j
theorem bkL_len {L : List Int} {j : Nat} (h : j ≤ L.length) : (bkL L j).length = j := by simp [bkL]; omega
theorem bkL_all (L : List Int) : bkL L L.length = L.reverse := by unfold bkL; rw [← List.length_reverse, List.take_length]
theorem bkL_snoc {L : List Int} {j i : Nat} (h : i + j + 1 = L.length) : bkL L (j + 1) = bkL L j ++ [L.getD i 0] := by
  unfold bkL
  rw [List.take_add_one, List.getElem?_reverse (by omega), show L.length - 1 - j = i by omega, List.getElem?_eq_getElem (by omega)]
  simp [List.getD, List.getElem?_eq_getElem (show i < L.length by omega)]
theorem narg_of {w : World} {base : Nat} {v : Value} {L : List Int} (h : w.ownsRow base 3 1 v L.length (L.map (Value.int .i64))) : ∃ a c, v = .slice a L.length c ∧ NArg w a L.length c L := by
  rcases h.2 with ⟨e, h0⟩ | ⟨g, cap, cur, e, _, _, r1, r2, _⟩
  · exact ⟨none, 0, by rw [e, h0], Or.inl h0⟩
  · subst e
    refine ⟨_, _, rfl, Or.inr ⟨g, 0, rfl, r1, r2, fun t ht => ?_⟩⟩
    rw [Nat.zero_add]
    exact own_cell h rfl ht
set_option maxHeartbeats 4000000 in
theorem order_ok (a : Option Addr) (len cap : Nat) (Z : List Int) (p q : Int) (w : World) (hA : NArg w a len cap Z) (hlm : len ≤ 4611686018427387904) :
    Calls Try.prog 3 #[.slice a len cap, .int .i64 p, .int .i64 q] w fun e w' => e = .returned (.bool true) ∧ Below w.heap.size w w' := by
  obtain ⟨W1, hW1⟩ : ∃ W1, w.alloc (.cells #[.int .i64 3, .int .i64 1, .int .i64 2] 3) = W1 := ⟨_, rfl⟩
  have hB1 : Below w.heap.size w W1 := by rw [← hW1]; exact (Below.refl _ w).alloc (Nat.le_refl _) _
  have H1 : Vl (Calls Try.prog 4 #[.slice (some ⟨w.heap.size, 0, none⟩) 3 3, .int .i64 50] W1 fun e w' => e = .returned (.tuple #[.int .i64 2, .nilIface]) ∧ Below W1.heap.size W1 w') := vl (by
    have hh : W1.heap[w.heap.size]? = some (.cells #[.int .i64 3, .int .i64 1, .int .i64 2] 3 (0, 0)) := by rw [← hW1]; exact heap_alloc_new w _
    have h := grank_any (some ⟨w.heap.size, 0, none⟩) 3 3 [3, 1, 2] 50 W1 (Or.inr ⟨_, _, rfl, by omega, by unfold maxLen; omega, fun t ht => by
      match t, ht with
      | 0, _ => simp [World.cell?, hh]
      | 1, _ => simp [World.cell?, hh]
      | 2, _ => simp [World.cell?, hh]⟩) (by omega)
    rw [show zl 3 [3, 1, 2] = [3, 1, 2] from rfl, rk_fact.1, rk_fact.2] at h
    exact h)
  have HR := vl (fun W (hb : Below w.heap.size w W) r => grank_any a len cap Z r W (hA.below hb) hlm)
  obtain ⟨L, hL⟩ : ∃ L, zl len Z = L := ⟨_, rfl⟩
  have hLl : L.length = len := by rw [← hL, zl_len]
  rw [hL] at HR
  have HLL := vl hLl
  have HCL : Vl (∀ t, t < len → ∃ g off, a = some ⟨g, off, none⟩ ∧ len ≤ cap ∧ ∀ W, Below w.heap.size w W → W.cell? ⟨g, off + t, none⟩ = some (.int .i64 (L.getD t 0))) := vl (fun t ht => by
    obtain ⟨g, off, ha, hlc, _, hcell⟩ := hA.resolve_left (by omega)
    refine ⟨g, off, ha, hlc, fun W hb => (hb.cell (p := ⟨g, off + t, none⟩) (lt_of_cell (hcell t ht))).trans ?_⟩
    rw [hcell t ht, ← hL, zl_at Z ht])
  clear hL hLl hA
  have HB1 := vl hB1
  obtain ⟨X, hX⟩ : ∃ X, rkV L p = X := ⟨_, rfl⟩
  obtain ⟨Y, hY⟩ : ∃ Y, rkV L q = Y := ⟨_, rfl⟩
  have HX := vl hX
  have HY := vl hY
  go_enter Try.func3, Try.ntmps3
  go_wp2_with fail
  clear hB1 hW1
  refine H1.out.mono ?_
  rintro e w2 ⟨rfl, hb2⟩
  have HB2 : Vl (Below w.heap.size w w2) := vl (HB1.out.trans (hb2.mono HB1.out.size))
  clear hb2 H1 HB1
  go_wp2_with fail
  refine (HR.out w2 HB2.out p).mono ?_
  rintro e w3 ⟨rfl, hb3⟩
  have HB3 : Vl (Below w.heap.size w w3) := vl (HB2.out.trans (hb3.mono HB2.out.size))
  rw [hX]
  clear hb3 HB2 hX
  obtain ⟨E, hE⟩ : ∃ E, rkE L p = E := ⟨_, rfl⟩
  rw [hE]
  have HE := vl hE
  clear hE
  go_wp2_with fail
  refine (HR.out w3 HB3.out q).mono ?_
  rintro e w4 ⟨rfl, hb4⟩
  have HB4 : Vl (Below w.heap.size w w4) := vl (HB3.out.trans (hb4.mono HB3.out.size))
  rw [hY]
  clear hb4 HB3 hY
  obtain ⟨F, hF⟩ : ∃ F, rkE L q = F := ⟨_, rfl⟩
  rw [hF]
  have HF := vl hF
  clear hF
  by_cases hE0 : E = 0
  · subst hE0
    rw [show errW 0 = Value.nilIface from rfl]
    by_cases hF0 : F = 0
    · subst hF0
      rw [show errW 0 = Value.nilIface from rfl]
      have hok := rkE_ok HE.out
      have hlen : len ≤ 1000 := by have := hok.2.2; rw [HLL.out] at this; exact this
      have hlen0 : 0 < len := by have := hok.2.1; rw [HLL.out] at this; exact this
      have HOK := vl hok
      clear hok
      go_wp2_with fail
      obtain ⟨i0, hi0, hz0, hz1, hz2⟩ := info_parts i_info
      have HI := vl hi0
      clear hi0
      go_loopw [13, 14, 15] (fun b v i wr => ∃ j : Nat, i = .int .i64 ((len : Int) - 1 - (j : Int)) ∧ j ≤ len ∧ b = .bool (decide (X ∈ bkL L j)) ∧ Vl (wr.ownsRow w.heap.size 3 1 v j ((bkL L j).map (Value.int .i64))) ∧ Vl (Below w.heap.size w wr)) (fun _ _ i _ => (intOf i + 1).toNat)
      case atStart => exact ⟨0, by simp, Nat.zero_le _, by simp [bkL], ⟨rfl, .inl ⟨rfl, rfl⟩⟩, HB4⟩
      case round =>
        obtain ⟨j, rfl, hj, rfl, HO, HB⟩ := hrel
        have hsw := HB.out.size
        by_cases hlt : j < len
        · obtain ⟨i, hi⟩ : ∃ i, i + j + 1 = len := ⟨len - 1 - j, by omega⟩
          have ei : (len : Int) - 1 - (j : Int) = (i : Int) := by omega
          rw [ei]
          have HII := vl hi
          have hge : (0 : Int) ≤ (i : Int) := by omega
          have hil : (i : Int) < (len : Int) := by omega
          obtain ⟨g, off, ha, hlc, hcell⟩ := HCL.out i (by omega)
          subst ha
          have c0 := hcell wr HB.out
          have HSN := vl (bkL_snoc (L := L) (j := j) (i := i) (by rw [HLL.out]; exact hi))
          obtain ⟨x0, hx0⟩ : ∃ x0, L.getD i 0 = x0 := ⟨_, rfl⟩
          rw [hx0] at c0 HSN
          obtain ⟨va, vc, hv⟩ : ∃ a c, u14 = .slice a j c := by
            rcases HO.out.2 with ⟨e, h0⟩ | ⟨g, cap, cur, e, _⟩
            · exact ⟨none, 0, by rw [e, h0]⟩
            · exact ⟨_, _, e⟩
          subst hv
          have HDD : Vl (decide (X ∈ bkL L (j + 1)) = (decide (X ∈ bkL L j) || (x0 == X))) := vl (by
            rw [HSN.out]
            by_cases h1 : X ∈ bkL L j <;> by_cases h2 : x0 = X
            · simp [h1]
            · simp [h1]
            · subst h2; simp
            · have h3 : ¬ X = x0 := fun e => h2 e.symm
              simp [h1, h2, h3])
          clear hcell hx0 ei hi
          generalize decide (X ∈ bkL L j) = bb at *
          cases bb with
          | true =>
            go_wp2_with (at_builtin; refine wpList_append_own _ rfl _ _ 22 rfl w.heap.size 3 i0 (.int .i64 0) 1 8 Try.underlying22 HI.out hz0 hz1 hz2 rfl (by decide) (.slice va j vc) j _ rfl (HO.out.alloc _) ⟨wr.heap.size, 0, none⟩ 1 1 [.int .i64 x0] rfl rfl (by exact cell_one_new _ _ _) (by simp [Value.oneCell']) (by unfold maxLen; omega) (by omega) (by simp; omega) ?_)
            intro v3 w5 hown5 hg5 _
            have HB5 : Vl (Below w.heap.size w w5) := vl ((HB.out.alloc HB.out.size _).grown hg5 (by simp; omega) (fun k e => (HO.out.lt k e).1))
            have HO5 : Vl (w5.ownsRow w.heap.size 3 1 v3 (j + 1) ((bkL L (j + 1)).map (Value.int .i64))) := vl (by rw [HSN.out, List.map_append]; exact hown5)
            clear hown5 hg5 c0
            go_wp2_with fail
            go_roundw
            case rel => exact ⟨j + 1, by have := HII.out; congr 1; omega, by omega, by rw [HDD.out]; try rfl, HO5, HB5⟩
            case measure => simp [intOf]
          | false =>
            by_cases hx : x0 = X
            · subst hx
              rw [show (x0 == x0) = true by simp] at HDD
              go_wp2_with (at_builtin; refine wpList_append_own _ rfl _ _ 22 rfl w.heap.size 3 i0 (.int .i64 0) 1 8 Try.underlying22 HI.out hz0 hz1 hz2 rfl (by decide) (.slice va j vc) j _ rfl (HO.out.alloc _) ⟨wr.heap.size, 0, none⟩ 1 1 [.int .i64 x0] rfl rfl (by exact cell_one_new _ _ _) (by simp [Value.oneCell']) (by unfold maxLen; omega) (by omega) (by simp; omega) ?_)
              intro v3 w5 hown5 hg5 _
              have HB5 : Vl (Below w.heap.size w w5) := vl ((HB.out.alloc HB.out.size _).grown hg5 (by simp; omega) (fun k e => (HO.out.lt k e).1))
              have HO5 : Vl (w5.ownsRow w.heap.size 3 1 v3 (j + 1) ((bkL L (j + 1)).map (Value.int .i64))) := vl (by rw [HSN.out, List.map_append]; exact hown5)
              clear hown5 hg5 c0
              go_wp2_with fail
              go_roundw
              case rel => exact ⟨j + 1, by have := HII.out; congr 1; omega, by omega, by rw [HDD.out]; try rfl, HO5, HB5⟩
              case measure => simp [intOf]
            · have hx1 : (x0 == X) = false := by simpa using hx
              rw [hx1] at HDD
              go_wp2_with (at_builtin; refine wpList_append_own _ rfl _ _ 22 rfl w.heap.size 3 i0 (.int .i64 0) 1 8 Try.underlying22 HI.out hz0 hz1 hz2 rfl (by decide) (.slice va j vc) j _ rfl (HO.out.alloc _) ⟨wr.heap.size, 0, none⟩ 1 1 [.int .i64 x0] rfl rfl (by exact cell_one_new _ _ _) (by simp [Value.oneCell']) (by unfold maxLen; omega) (by omega) (by simp; omega) ?_)
              intro v3 w5 hown5 hg5 _
              have HB5 : Vl (Below w.heap.size w w5) := vl ((HB.out.alloc HB.out.size _).grown hg5 (by simp; omega) (fun k e => (HO.out.lt k e).1))
              have HO5 : Vl (w5.ownsRow w.heap.size 3 1 v3 (j + 1) ((bkL L (j + 1)).map (Value.int .i64))) := vl (by rw [HSN.out, List.map_append]; exact hown5)
              clear hown5 hg5 c0
              go_wp2_with fail
              go_roundw
              case rel => exact ⟨j + 1, by have := HII.out; congr 1; omega, by omega, by rw [HDD.out]; try rfl, HO5, HB5⟩
              case measure => simp [intOf]
        · have hje : j = len := by omega
          subst hje
          have ei : (j : Int) - 1 - (j : Int) = -1 := by omega
          rw [ei]
          have HMEM : Vl (X ∈ L) := vl (by rw [← HX.out]; exact rkV_mem HE.out)
          have hmem : decide (X ∈ bkL L j) = true := by
            rw [← HLL.out, bkL_all]; simpa using HMEM.out
          rw [hmem]
          have hRO := HO.out
          rw [← HLL.out] at hRO
          obtain ⟨va, vc, hv, hNA⟩ := narg_of (L := bkL L j) (by rw [bkL_len (by rw [HLL.out]; omega)]; exact HO.out)
          rw [bkL_len (by rw [HLL.out]; omega)] at hv hNA
          subst hv
          have HZR : Vl (zl j (bkL L j) = L.reverse) := vl (by
            have := zl_self (bkL L j)
            rw [bkL_len (by rw [HLL.out]; omega)] at this
            rw [this, ← HLL.out, bkL_all])
          have HRB := vl (grank_any va j vc (bkL L j) p wr hNA (by omega))
          rw [HZR.out, (rkV_perm (p := p) (List.reverse_perm L)).1, (rkV_perm (p := p) (List.reverse_perm L)).2, HX.out, HE.out] at HRB
          have HMO : Vl (p ≤ q → X ≤ Y) := vl (fun h => by rw [← HX.out, ← HY.out]; exact rkV_mono HE.out HF.out h)
          clear hRO hmem ei hNA HZR
          go_wp2_with fail
          refine HRB.out.mono ?_
          rintro e w6 ⟨rfl, hb6⟩
          have HB6 : Vl (Below w.heap.size w w6) := vl (HB.out.trans (hb6.mono HB.out.size))
          rw [show errW 0 = Value.nilIface from rfl]
          clear hb6 HRB
          by_cases hpq : q < p
          · go_wp2_with fail
            go_ret
            exact ⟨rfl, HB6.out⟩
          · have hxy : X ≤ Y := HMO.out (by omega)
            go_wp2_with fail
            go_ret
            exact ⟨rfl, HB6.out⟩
    · have hne : ∃ t v, errW F = .iface t v := ⟨_, _, by unfold errW; rw [if_neg hF0]⟩
      obtain ⟨t, v, hne⟩ := hne
      rw [hne]
      go_wp2_with fail
      go_ret
      exact ⟨rfl, HB4.out⟩
  · have hne : ∃ t v, errW E = .iface t v := ⟨_, _, by unfold errW; rw [if_neg hE0]⟩
    obtain ⟨t, v, hne⟩ := hne
    rw [hne]
    go_wp2_with fail
    go_ret
    exact ⟨rfl, HB4.out⟩
end Go.Proofs.Ytajdlnpaiicclaa
