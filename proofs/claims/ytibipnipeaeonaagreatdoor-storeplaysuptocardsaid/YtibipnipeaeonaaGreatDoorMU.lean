/-
  WHAT WAS ANSWERED, as the document's answer has it: mathematics; first and Life. No claim by itself.
-/
import Derived.BigQuiet
import Derived.Deep.QuietTactic
import Derived.Deep.CutBlock
import Derived.Deep.DeepCutAuto
import Derived.Test.YtibipnipeaeonaaGreatDoorMD
namespace Go.Proofs.YtibipnipeaeonaaGreatDoor
open Go Go.RowKit
set_option maxRecDepth 100000
theorem hdec_len : ∀ (j n : Nat), n < 10 ^ (j + 1) → (decL n).length ≤ j + 1
  | 0, n, h => by rw [decL_one (by simpa using h)]; simp
  | j + 1, n, h => by
    by_cases h1 : n < 10
    · rw [decL_one h1]; simp
    · rw [decL_more h1, List.length_append]
      have := hdec_len j (n / 10) (by rw [Nat.pow_succ] at h; omega)
      simp
      omega
theorem hdec_first : ∀ n : Nat, 1 ≤ n → (decL n).getD 0 0 ≠ 48 := by
  intro n
  induction n using Nat.strongRecOn with
  | _ n ih =>
    intro h1
    by_cases h : n < 10
    · rw [decL_one h, dc_at h]
      simp
      omega
    · rw [decL_more h]
      have hp := decL_pos (n / 10)
      have e : (decL (n / 10) ++ [dc (n % 10)]).getD 0 0 = (decL (n / 10)).getD 0 0 := by
        rw [List.getD, List.getElem?_append_left (by omega)]
        rfl
      rw [e]
      exact ih (n / 10) (by omega) (by omega)
theorem hdec_step {n d : Nat} (hn : 1 ≤ n) (hd : d < 10) : decL (n * 10 + d) = decL n ++ [dc d] := by
  rw [decL_more (by omega), show (n * 10 + d) / 10 = n by omega, show (n * 10 + d) % 10 = d by omega]
/-- What the document's number says of a text. -/
def NumQ (v : Int) (Z : List Int) : Prop := (∃ n : Nat, n < 10000000 ∧ Z = decL n ∧ v = (n : Int)) ∨ (v = -1 ∧ ∀ n : Nat, n < 10000000 → Z ≠ decL n)
/-- How far it has read. -/
def NQ (Z : List Int) (k m : Nat) : Prop := m < 10 ^ k ∧ (k = 0 ∨ Z.take k = decL m) ∧ (1 ≤ k → 1 < Z.length → 1 ≤ m)
theorem nq_zero (Z : List Int) : NQ Z 0 0 := ⟨by simp, Or.inl rfl, fun h => by omega⟩
theorem take_more {Z : List Int} {k : Nat} (h : k < Z.length) : Z.take (k + 1) = Z.take k ++ [Z.getD k 0] := by
  rw [List.take_add_one, List.getD, List.getElem?_eq_getElem h]
  rfl
theorem nq_step {Z : List Int} {k m d : Nat} (h : NQ Z k m) (hk : k < Z.length) (hz : Z.getD k 0 = 48 + (d : Int)) (hd : d < 10) (hf : 1 < Z.length → Z.getD 0 0 ≠ 48) : NQ Z (k + 1) (m * 10 + d) := by
  obtain ⟨h1, h2, h3⟩ := h
  refine ⟨by rw [Nat.pow_succ]; omega, Or.inr ?_, fun _ hl => ?_⟩
  · rw [take_more hk, hz, ← dc_at hd]
    rcases h2 with rfl | h2
    · have : m = 0 := by simpa using h1
      subst this
      rw [Nat.zero_mul, Nat.zero_add, decL_one hd]
      rfl
    · by_cases hm : 1 ≤ m
      · rw [h2, hdec_step hm hd]
      · exfalso
        have hk0 : k ≠ 0 := fun e => by
          subst e
          have := decL_pos m
          rw [← h2] at this
          simp at this
        exact hm (h3 (by omega) (by omega))
  · by_cases hk0 : k = 0
    · subst hk0
      have := hf hl
      rw [hz] at this
      omega
    · have := h3 (by omega) hl
      omega
theorem nq_end {Z : List Int} {m : Nat} (h : NQ Z Z.length m) (h0 : Z ≠ []) (h7 : Z.length ≤ 7) : NumQ (m : Int) Z := by
  obtain ⟨h1, h2, _⟩ := h
  refine Or.inl ⟨m, ?_, ?_, rfl⟩
  · have := Nat.pow_le_pow_right (n := 10) (by omega) h7
    omega
  · rcases h2 with h2 | h2
    · exact absurd (List.length_eq_zero_iff.1 h2) h0
    · rw [List.take_length] at h2
      exact h2
theorem nq_no {Z : List Int} {k : Nat} (hk : k < Z.length) (hd : Z.getD k 0 < 48 ∨ 57 < Z.getD k 0) : NumQ (-1) Z := by
  refine Or.inr ⟨rfl, fun n _ e => ?_⟩
  have hm : Z.getD k 0 ∈ Z := by
    rw [List.getD, List.getElem?_eq_getElem hk]
    exact List.getElem_mem _
  rw [e] at hm
  have := decL_ge n _ hm
  rw [e] at hd
  omega
theorem nq_bad {Z : List Int} (h : Z = [] ∨ 7 < Z.length ∨ (1 < Z.length ∧ Z.getD 0 0 = 48)) : NumQ (-1) Z := by
  refine Or.inr ⟨rfl, fun n hn e => ?_⟩
  rw [e] at h
  rcases h with h | h | ⟨h, h'⟩
  · have := decL_pos n
    rw [h] at this
    simp at this
  · have := hdec_len 6 n (by omega)
    omega
  · by_cases h1 : 1 ≤ n
    · exact hdec_first n h1 h'
    · obtain rfl : n = 0 := by omega
      rw [decL_one (by omega)] at h
      simp at h
theorem rfst_at {L : List FB} {nm : List Int} {k : Nat} (hk : k < L.length) (hb : ∀ t, t < k → unums (L.getD t fnone).1 ≠ nm) (he : unums (L.getD k fnone).1 = nm) : fstV (fdsOf L) nm = unums (L.getD k fnone).2 ∧ (fdsOf L).any (isNm nm) = true := by
  induction L generalizing k with
  | nil => cases hk
  | cons x r ih =>
    unfold fstV fdsOf at *
    cases k with
    | zero =>
      have he' : unums x.1 = nm := he
      simp [isNm, he']
    | succ k =>
      have h0 : unums x.1 ≠ nm := hb 0 (by omega)
      have := ih (k := k) (by simpa using hk) (fun t ht => hb (t + 1) (by omega)) he
      simp only [List.map_cons, List.any_cons, isNm]
      rw [List.find?_cons_of_neg (by simpa using h0), decide_eq_false h0, Bool.false_or]
      exact this
theorem rfst_no {L : List FB} {nm : List Int} (hb : ∀ t, t < L.length → unums (L.getD t fnone).1 ≠ nm) : fstV (fdsOf L) nm = [] ∧ (fdsOf L).any (isNm nm) = false := by
  induction L with
  | nil => exact ⟨rfl, rfl⟩
  | cons x r ih =>
    have h0 : unums x.1 ≠ nm := hb 0 (by simp)
    have := ih (fun t ht => hb (t + 1) (by simpa using ht))
    unfold fstV fdsOf at *
    simp only [List.map_cons, List.any_cons, isNm]
    rw [List.find?_cons_of_neg (by simpa using h0), decide_eq_false h0, Bool.false_or]
    exact this
def FstE (L : List FB) (nm : List Int) (w : World) (e : Ending) (w' : World) : Prop := (∃ v : ByteArray, e = .returned (.tuple #[.string v, .bool ((fdsOf L).any (isNm nm))]) ∧ unums v = fstV (fdsOf L) nm ∧ v.size ≤ 140737488351232) ∧ w = w'
set_option maxHeartbeats 2000000 in
theorem rfirst_any (a : Option Addr) (n c : Nat) (L : List FB) (nm : ByteArray) (w : World) (hA : FArg w a n c L) (hl : n ≤ 4398046511104) (hs : ∀ t, (L.getD t fnone).2.size ≤ 140737488351232) :
    Calls Tryz.prog 32 #[.slice a n c, .string nm] w (FstE L (unums nm) w) := by
  have HLn : Vl (L.length = n) := vl (by
    rcases hA with ⟨rfl, rfl⟩ | ⟨g, off, _, hr⟩
    · rfl
    · exact hr.hlen)
  have HA := vl hA
  have HS := vl hs
  clear hA hs
  go_enter Tryz.func32, Tryz.ntmps32
  go_wp2_with fail
  go_loopw [6] (fun iv wr => ∃ i : Nat, iv = .int .i64 i ∧ i ≤ n ∧ Vl (∀ t, t < i → unums (L.getD t fnone).1 ≠ unums nm) ∧ wr = w) (fun iv _ => n - (intOf iv).toNat)
  case atStart => exact ⟨0, rfl, Nat.zero_le _, vl (fun t ht => by omega), rfl⟩
  case round =>
    obtain ⟨i, rfl, hi, HB, rfl⟩ := hrel
    by_cases hlt : i < n
    case neg =>
      have p1 : ¬ ((i : Int) < (n : Int)) := by omega
      have HN := vl (rfst_no (L := L) (nm := unums nm) (fun t ht => HB.out t (by have := HLn.out; omega)))
      clear HB
      go_wp2
      go_ret2
      exact ⟨⟨⟨#[]⟩, by rw [HN.out.2]; rfl, by rw [HN.out.1]; rfl, by decide⟩, rfl⟩
    have p1 : (i : Int) < (n : Int) := by omega
    rcases HA.out with ⟨h0, _⟩ | ⟨g, off, rfl, hr⟩
    · omega
    have d1 := hr.hname i hlt
    have d2 := hr.hvalue i hlt
    have hcap := hr.hcap
    have hmax := hr.hmax
    unfold maxLen at hmax
    have i0 : (0 : Int) ≤ (i : Int) := by omega
    obtain ⟨x, hx⟩ : ∃ x, L.getD i fnone = x := ⟨_, rfl⟩
    rw [hx] at d1 d2
    have HX := vl hx
    clear hr hx
    by_cases he : unums x.1 = unums nm
    · have hq : (x.1.toList == nm.toList) = true := by rw [un_beq, decide_eq_true he]
      have HF := vl (rfst_at (L := L) (nm := unums nm) (by have := HLn.out; omega) HB.out (by rw [HX.out]; exact he))
      have hsz := HS.out i
      rw [HX.out] at hsz
      clear he
      go_wp2
      go_ret2
      exact ⟨⟨x.2, by rw [HF.out.2]; rfl, by rw [HF.out.1, HX.out], hsz⟩, rfl⟩
    · have hq : (x.1.toList == nm.toList) = false := by rw [un_beq, decide_eq_false he]
      have HB2 : Vl (∀ t, t < i + 1 → unums (L.getD t fnone).1 ≠ unums nm) := vl (fun t ht => by
        by_cases e : t = i
        · subst e; rw [HX.out]; exact he
        · exact HB.out t (by omega))
      clear he HB
      go_wp2
      go_roundw
      case rel => exact ⟨i + 1, by go_num, by omega, HB2, trivial⟩
      case measure => simp [intOf]; omega
end Go.Proofs.YtibipnipeaeonaaGreatDoor
/-
  WHAT WAS ANSWERED, as the document's answer has it: Life. No claim by itself.
-/
namespace Go.Proofs.YtibipnipeaeonaaGreatDoor
open Go Go.RowKit
set_option maxRecDepth 100000
theorem rlife_no {V : List Int} (h : V.length < 5 ∨ V.take 4 ≠ maxP ∨ 11 < V.length) : lifeV V = 0 := by
  refine life_no fun k hk e => ?_
  subst e
  rcases h with h | h | h
  · have := decL_pos k
    rw [List.length_append] at h
    simp [maxP] at h
    omega
  · exact h rfl
  · have := hdec_len 6 k (by omega)
    rw [List.length_append] at h
    simp [maxP] at h
    omega
theorem rlife_drop {V : List Int} (h : V.take 4 = maxP) : V = maxP ++ V.drop 4 := by rw [← h, List.take_append_drop]
theorem rlife_bad {V : List Int} (_h : V.take 4 = maxP) (hb : NumQ (-1) (V.drop 4)) : lifeV V = 0 := by
  refine life_no fun k hk e => ?_
  rw [e] at hb
  rcases hb with ⟨n, _, _, hn⟩ | ⟨_, hb⟩
  · omega
  · exact hb k (by omega) rfl
theorem rlife_zero {V : List Int} (h : V.take 4 = maxP) (h5 : 5 ≤ V.length) (h0 : (V.drop 4).getD 0 0 = 48) : lifeV V = 0 := by
  by_cases h1 : (V.drop 4).length ≤ 1
  · have e : V.drop 4 = decL 0 := by
      rw [decL_one (by omega)]
      have hl : (V.drop 4).length = V.length - 4 := List.length_drop
      obtain ⟨x, hx⟩ := List.length_eq_one_iff.1 (show (V.drop 4).length = 1 by omega)
      rw [hx] at h0 ⊢
      simp at h0
      subst h0
      rfl
    exact life_yes (k := 0) (by omega) (by rw [← e]; exact rlife_drop h)
  · exact rlife_bad h (nq_bad (Or.inr (Or.inr ⟨by omega, h0⟩)))
theorem rlife_end {V : List Int} {m : Nat} (h : V.take 4 = maxP) (h5 : 5 ≤ V.length) (h11 : V.length ≤ 11) (hq : NQ (V.drop 4) (V.drop 4).length m) : lifeV V = if 1000000 < m then 0 else m := by
  have hl : (V.drop 4).length = V.length - 4 := List.length_drop
  have hz : V.drop 4 ≠ [] := fun e => by rw [e] at hl; simp at hl; omega
  rcases nq_end hq hz (by omega) with ⟨n, hn, he, hm⟩ | ⟨hm, _⟩
  · obtain rfl : n = m := by omega
    by_cases hb : 1000000 < n
    · rw [if_pos hb]
      refine life_no fun k hk e => ?_
      rw [e] at he
      have := decL_inj (a := k) (b := n) (by omega) hn he
      omega
    · rw [if_neg hb]
      exact life_yes (by omega) (by rw [← he]; exact rlife_drop h)
  · omega
theorem un_bnd (s : ByteArray) (q : Nat) : 0 ≤ (unums s).getD q 0 ∧ (unums s).getD q 0 ≤ 255 := by
  unfold unums
  rw [List.getD, List.getElem?_map]
  cases s.data.toList[q]? with
  | none => simp
  | some c =>
    have := c.toNat_lt
    simp
    omega
def RIs (L : List FB) (n : Nat) : Prop := lifeR (fdsOf L) = n
theorem RIs.out {L : List FB} {n : Nat} (h : RIs L n) : lifeR (fdsOf L) = n := h
def RLife (L : List FB) (v : ByteArray) (n : Nat) : Prop := lifeV (unums v) = n → RIs L n
set_option maxHeartbeats 4000000 in
theorem rlife_any (code : Int) (fa : Option Addr) (fl fc : Nat) (bp : Option Addr) (bn bc : Nat) (L : List FB) (w : World) (hA : FArg w fa fl fc L) (hl : fl ≤ 4398046511104) (hs : ∀ t, (L.getD t fnone).2.size ≤ 140737488351232) :
    Calls Tryz.prog 14 #[.agg #[.int .i64 code, .slice fa fl fc, .slice bp bn bc]] w fun e w' => e = .returned (.int .i64 (lifeR (fdsOf L) : Nat)) ∧ Below w.heap.size w w' := by
  obtain ⟨W1, hW1⟩ : ∃ x, w.alloc (.cells #[.int .i64 code, .slice fa fl fc, .slice bp bn bc] 38) = x := ⟨_, rfl⟩
  have hB1 : Below w.heap.size w W1 := by rw [← hW1]; exact (Below.refl _ w).alloc (Nat.le_refl _) _
  have k2 : W1.heap[w.heap.size]? = some (.cells #[.int .i64 code, .slice fa fl fc, .slice bp bn bc] 38 (0, 0)) := by rw [← hW1]; exact heap_alloc_new w _
  have a1 : W1.cell? ⟨w.heap.size, 1, none⟩ = some (.slice fa fl fc) := by rw [cell_of_row _ _ _ _ _ _ k2]; rfl
  have HFV := vl (rfirst_any fa fl fc L ⟨#[99, 97, 99, 104, 101]⟩ W1 (hA.below hB1) hl hs)
  have HB1 := vl hB1
  have HR : Vl (lifeR (fdsOf L) = lifeV (fstV (fdsOf L) cacheN)) := vl rfl
  have HC : Vl (unums ⟨#[99, 97, 99, 104, 101]⟩ = cacheN) := vl (by decide)
  clear hA hs hB1 k2
  go_enter Tryz.func14, Tryz.ntmps14
  go_wp2_with fail
  clear hW1 a1
  refine HFV.out.mono ?_
  rintro e w2 ⟨⟨v, rfl, hv, hvs⟩, rfl⟩
  rw [HC.out] at hv
  have HRV : Vl (∀ n, RLife L v n) := vl (fun n e => by show _ = _; rw [HR.out, ← hv, e])
  have HUL := vl (unums_len v)
  clear HFV HR HC hv hvs
  generalize (fdsOf L).any (isNm (unums ⟨#[99, 97, 99, 104, 101]⟩)) = has at *
  by_cases q1 : v.size < 5
  · have q2 : (v.size : Int) < 5 := by omega
    have HZ := vl (HRV.out _ (rlife_no (V := unums v) (Or.inl (by rw [HUL.out]; omega))))
    go_wp2_with fail
    go_ret
    exact ⟨by rw [HZ.out.out]; rfl, HB1.out⟩
  have q2 : ¬ (v.size : Int) < 5 := by omega
  have q3 : (0 : Int) ≤ 4 := by omega
  have q4 : (4 : Int) ≤ (v.size : Int) := by omega
  have HT4 := vl (un_take v 4)
  by_cases r1 : (unums v).take 4 = maxP
  case neg =>
    have r2 : ((v.extract 0 4).toList == [109, 97, 120, 45]) = false := by
      rw [un_beqlit, HT4.out, show List.map (fun c : UInt8 => (c.toNat : Int)) [109, 97, 120, 45] = maxP by decide, decide_eq_false r1]
    have HZ := vl (HRV.out _ (rlife_no (V := unums v) (Or.inr (Or.inl r1))))
    clear r1
    go_wp2_with fail
    go_ret
    exact ⟨by rw [HZ.out.out]; rfl, HB1.out⟩
  have r2 : ((v.extract 0 4).toList == [109, 97, 120, 45]) = true := by
    rw [un_beqlit, HT4.out, show List.map (fun c : UInt8 => (c.toNat : Int)) [109, 97, 120, 45] = maxP by decide, decide_eq_true r1]
  have HR1 := vl r1
  clear r1
  by_cases s1 : 11 < v.size
  · have s2 : (11 : Int) < (v.size : Int) := by omega
    have HZ := vl (HRV.out _ (rlife_no (V := unums v) (Or.inr (Or.inr (by rw [HUL.out]; omega)))))
    go_wp2_with fail
    go_ret
    exact ⟨by rw [HZ.out.out]; rfl, HB1.out⟩
  have s2 : ¬ (11 : Int) < (v.size : Int) := by omega
  have HA := vl (unums_at v)
  have HV : Vl (5 ≤ v.size ∧ v.size ≤ 11) := vl ⟨by omega, by omega⟩
  clear q1 s1
  go_wp2_with fail
  go_loopw [5, 6] (fun nv iv wr => ∃ (i m : Nat), iv = .int .i64 i ∧ nv = .int .i64 m ∧ 4 ≤ i ∧ i ≤ v.size ∧ Vl (NQ ((unums v).drop 4) (i - 4) m) ∧ Vl (i = 4 ∨ ((unums v).drop 4).getD 0 0 ≠ 48) ∧ wr = W1) (fun _ iv _ => v.size - (intOf iv).toNat)
  case atStart => exact ⟨4, 0, rfl, rfl, by omega, by omega, nq_zero _, Or.inl rfl, rfl⟩
  case round =>
    obtain ⟨i, m, rfl, rfl, hi4, hi, HQ, HF, rfl⟩ := hrel
    obtain ⟨hv5, hv11⟩ := HV.out
    clear q2 q3 q4 r2 s2
    have hl : ((unums v).drop 4).length = v.size - 4 := by rw [List.length_drop, HUL.out]
    have HL := vl hl
    have hm : m < 10000000 := by
      have h1 := HQ.out.1
      have := Nat.pow_le_pow_right (n := 10) (by omega) (show i - 4 ≤ 7 by omega)
      omega
    clear hl
    by_cases hlt : i < v.size
    case neg =>
      have p1 : ¬ ((i : Int) < (v.size : Int)) := by omega
      have HE := vl (rlife_end (m := m) HR1.out (by rw [HUL.out]; omega) (by rw [HUL.out]; omega) (by rw [HL.out]; have := HQ.out; rwa [show i - 4 = v.size - 4 by omega] at this))
      by_cases hb : 1000000 < m
      · have hb2 : (1000000 : Int) < (m : Int) := by omega
        have HE2 : Vl (RIs L 0) := vl (HRV.out _ (by rw [HE.out, if_pos hb]))
        clear HE hb
        go_wp2
        go_ret
        exact ⟨by rw [HE2.out.out]; rfl, HB1.out⟩
      · have hb2 : ¬ (1000000 : Int) < (m : Int) := by omega
        have HE2 : Vl (RIs L m) := vl (HRV.out _ (by rw [HE.out, if_neg hb]))
        clear HE hb
        go_wp2
        go_ret
        exact ⟨by rw [HE2.out.out]; rfl, HB1.out⟩
    have p1 : (i : Int) < (v.size : Int) := by omega
    have hm6 : m < 1000000 := by
      have h1 := HQ.out.1
      have := Nat.pow_le_pow_right (n := 10) (by omega) (show i - 4 ≤ 6 by omega)
      omega
    have ix1 := HA.out i hlt
    have hcb := un_bnd v i
    have hcd : ((unums v).drop 4).getD (i - 4) 0 = (unums v).getD i 0 := by
      simp only [List.getD, List.getElem?_drop]
      rw [show 4 + (i - 4) = i by omega]
    obtain ⟨c, hc⟩ : ∃ c, (unums v).getD i 0 = c := ⟨_, rfl⟩
    rw [hc] at ix1 hcb hcd
    have HCD := vl hcd
    clear hc hcd
    by_cases c1 : c < 48
    · have HE := vl (HRV.out _ (rlife_bad HR1.out (nq_no (k := i - 4) (by rw [HL.out]; omega) (Or.inl (by rw [HCD.out]; exact c1)))))
      go_wp2
      go_ret
      exact ⟨by rw [HE.out.out]; rfl, HB1.out⟩
    by_cases c2 : 57 < c
    · have HE := vl (HRV.out _ (rlife_bad HR1.out (nq_no (k := i - 4) (by rw [HL.out]; omega) (Or.inr (by rw [HCD.out]; exact c2)))))
      go_wp2
      go_ret
      exact ⟨by rw [HE.out.out]; rfl, HB1.out⟩
    obtain ⟨d, rfl⟩ : ∃ d : Nat, c = 48 + (d : Int) := ⟨(c - 48).toNat, by omega⟩
    have hd : d < 10 := by omega
    by_cases z1 : i = 4
    · have z3 : ((i : Int) == 4) = true := by rw [beq_iff_eq]; omega
      have HCE : Vl (((unums v).drop 4).getD 0 0 = 48 + (d : Int)) := vl (by have := HCD.out; rw [z1] at this; exact this)
      have HZ1 := vl z1
      by_cases z2 : d = 0
      · have z4 : ((48 + (d : Int)) == 48) = true := by rw [beq_iff_eq]; omega
        have HE := vl (HRV.out _ (rlife_zero HR1.out (by rw [HUL.out]; omega) (by rw [HCE.out]; omega)))
        clear z1 z2
        go_wp2
        go_ret
        exact ⟨by rw [HE.out.out]; rfl, HB1.out⟩
      · have z4 : ((48 + (d : Int)) == 48) = false := by rw [beq_eq_false_iff_ne]; omega
        have HF2 : Vl (((unums v).drop 4).getD 0 0 ≠ 48) := vl (by rw [HCE.out]; omega)
        have HQ2 : Vl (NQ ((unums v).drop 4) (i + 1 - 4) (m * 10 + d)) := vl (by
          have := nq_step HQ.out (by rw [HL.out]; omega) HCD.out hd (fun _ => HF2.out)
          rwa [show i - 4 + 1 = i + 1 - 4 by omega] at this)
        clear HQ HF z1 z2
        go_wp2
        go_roundw
        case rel => exact ⟨i + 1, m * 10 + d, by go_num, by congr 1; omega, by omega, by omega, HQ2, vl (Or.inr HF2.out), trivial⟩
        case measure => simp [intOf]; omega
    · have z3 : ((i : Int) == 4) = false := by rw [beq_eq_false_iff_ne]; omega
      have HF2 : Vl (((unums v).drop 4).getD 0 0 ≠ 48) := vl (HF.out.resolve_left z1)
      have HQ2 : Vl (NQ ((unums v).drop 4) (i + 1 - 4) (m * 10 + d)) := vl (by
        have := nq_step HQ.out (by rw [HL.out]; omega) HCD.out hd (fun _ => HF2.out)
        rwa [show i - 4 + 1 = i + 1 - 4 by omega] at this)
      clear HQ HF
      go_wp2
      go_roundw
      case rel => exact ⟨i + 1, m * 10 + d, by go_num, by congr 1; omega, by omega, by omega, HQ2, vl (Or.inr HF2.out), trivial⟩
      case measure => simp [intOf]; omega
end Go.Proofs.YtibipnipeaeonaaGreatDoor
