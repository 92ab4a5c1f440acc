/-
  FROM THE ONE TO THE OTHER: the developers' lead. No claim by itself.
-/
import Derived.WalkArith
import Derived.Test.YtglmppadhlkkgagGreatDoorG6
import Derived.Test.YtglmppadhlkkgagGreatDoorYmath3X
namespace Go.Proofs.YtglmppadhlkkgagGreatDoor
open Go Go.RowKit Go.Maps
set_option maxRecDepth 100000
theorem psd_head {n : ByteArray} : psdL (unums n) = decide (n.toList.take 1 = [58]) := by
  rw [ByteArray.toList_eq]
  unfold unums
  cases h : n.data.toList with
  | nil => rfl
  | cons c r =>
    show decide ((c.toNat : Int) = 58) = decide ([c] = [58])
    by_cases e : c = 58
    · subst e; rfl
    · have e2 : ¬ (c.toNat : Int) = 58 := fun h => e (byte_ne (y := 58) h)
      rw [decide_eq_false e2, decide_eq_false (by simpa using e)]
/-- The names that stand ahead, with their places, in a map. -/
structure LdM (D : SDat) (A : List (List Int)) : Prop where
  tidy : Tidy D
  size : Maps.size D = A.length
  has : ∀ s : ByteArray, Maps.has D (kyS s) = decide (unums s ∈ A)
  at_ : ∀ (s : ByteArray) (i : Nat), A[i]? = some (unums s) → D.atKey (kyS s) (.lit (.int .i64 0)) = .lit (.int .i64 (i : Nat))
theorem ldm_nil : LdM (.map []) [] := ⟨tidy_empty, rfl, fun _ => rfl, fun s i h => by simp at h⟩
theorem tidy_put {D : SDat} (h : Tidy D) (s : ByteArray) (d : SDat) : Tidy (D.put (kyS s) d) := h.put (by unfold kyS; trivial) _
theorem ldm_put {D : SDat} {A : List (List Int)} (h : LdM D A) (s : ByteArray) (hn : unums s ∉ A) : LdM (D.put (kyS s) (.lit (.int .i64 (A.length : Nat)))) (A ++ [unums s]) := by
  refine ⟨tidy_put h.tidy s _, ?_, fun t => ?_, fun t i hi => ?_⟩
  · rw [size_put h.tidy, h.has s, decide_eq_false hn, h.size]
    simp
  · by_cases e : unums t = unums s
    · rw [ky_of e, has_put_same h.tidy.isMap (by unfold kyS; trivial)]
      simp [e]
    · rw [has_put_other (fun k => e (ky_inj k)), h.has t]
      simp [e]
  · by_cases e : unums t = unums s
    · rw [ky_of e, atKey_put_same h.tidy.isMap (by unfold kyS; trivial)]
      rcases Nat.lt_trichotomy i A.length with hl | hl | hl
      · rw [List.getElem?_append_left hl, e] at hi
        exact absurd (List.mem_of_getElem? hi) hn
      · rw [hl]
      · rw [List.getElem?_eq_none (by simp; omega)] at hi
        cases hi
    · rw [atKey_put_other (fun k => e (ky_inj k))]
      rcases Nat.lt_trichotomy i A.length with hl | hl | hl
      · rw [List.getElem?_append_left hl] at hi
        exact h.at_ t i hi
      · rw [hl, List.getElem?_append_right (Nat.le_refl _)] at hi
        simp at hi
        exact absurd hi.symm e
      · rw [List.getElem?_eq_none (by simp; omega)] at hi
        cases hi
theorem ldm_size {D : SDat} {A : List (List Int)} (h : LdM D A) (s : ByteArray) (d : SDat) : Maps.size (D.put (kyS s) d) = if unums s ∈ A then A.length else A.length + 1 := by
  rw [size_put h.tidy, h.has s, h.size]
  by_cases e : unums s ∈ A <;> simp [e]
theorem xhasp_any (n : ByteArray) (w : World) : Calls Tryz.prog 111 #[.string n, .string ⟨#[58]⟩] w fun e w' => e = .returned (.bool (psdL (unums n))) ∧ w = w' := by
  rw [psd_head]
  by_cases h1 : 1 ≤ n.size
  · have h1' : (1 : Int) ≤ (n.size : Int) := by omega
    have hx : (n.extract 0 1).toList = n.toList.take 1 := by
      rw [ByteArray.toList_eq, ByteArray.toList_eq]
      have : (n.extract 0 1).data.toList = n.data.toList.take 1 := Lib.extract_from_zero n 1
      exact this
    have hd : decide (n.toList.take 1 = [58]) = (n.toList.take 1 == [58]) := by rw [Bool.eq_iff_iff]; simp
    rw [hd]
    go_enter Tryz.func111, Tryz.ntmps111
    go_wp2
    go_ret
    exact ⟨rfl, rfl⟩
  · have h1' : ¬ (1 : Int) ≤ (n.size : Int) := by omega
    have hl : n.data.toList.length = n.size := by rw [Array.length_toList]; rfl
    have hz : n.toList = [] := by
      rw [ByteArray.toList_eq]
      exact List.eq_nil_of_length_eq_zero (by omega)
    rw [hz, decide_eq_false (by simp)]
    go_enter Tryz.func111, Tryz.ntmps111
    go_wp2
    go_ret
    exact ⟨rfl, rfl⟩
end Go.Proofs.YtglmppadhlkkgagGreatDoor
/-
  FROM THE ONE TO THE OTHER: the developers' lead. No claim by itself.
-/
namespace Go.Proofs.YtglmppadhlkkgagGreatDoor
open Go Go.RowKit Go.Maps
set_option maxRecDepth 100000
def fstB (L : List (ByteArray × ByteArray)) (p : Nat) : List (List Int) := ((fdsOf L).take p).map Prod.fst
theorem fds_get {L : List (ByteArray × ByteArray)} {k : Nat} (h : k < L.length) : (fdsOf L)[k]? = some (unums (L.getD k fnone).1, unums (L.getD k fnone).2) := by
  unfold fdsOf
  rw [List.getElem?_map, List.getElem?_eq_getElem h, List.getD, List.getElem?_eq_getElem h]
  rfl
theorem fst_succ {L : List (ByteArray × ByteArray)} {k : Nat} (h : k < L.length) : fstB L (k + 1) = fstB L k ++ [unums (L.getD k fnone).1] := by
  unfold fstB
  rw [List.take_add_one, fds_get h]
  simp
theorem fst_len {L : List (ByteArray × ByteArray)} {k : Nat} (h : k ≤ L.length) : (fstB L k).length = k := by
  unfold fstB
  rw [List.length_map, List.length_take, fds_len]
  omega
/-- How far the list was looked at: the first p begin with ':' and differ; behind them none does. -/
structure LdI (L : List (ByteArray × ByteArray)) (p k : Nat) : Prop where
  le : p ≤ k
  yes : ∀ f ∈ (fdsOf L).take p, psdL f.1 = true
  no : ∀ t, p ≤ t → t < k → psdL (unums (L.getD t fnone).1) = false
  nod : (fstB L p).Nodup
theorem ldi_nil (L : List (ByteArray × ByteArray)) : LdI L 0 0 := ⟨Nat.le_refl _, by simp, fun t _ h => by omega, by simp [fstB]⟩
theorem ldi_no {L : List (ByteArray × ByteArray)} {p k : Nat} (h : LdI L p k) (hn : psdL (unums (L.getD k fnone).1) = false) : LdI L p (k + 1) :=
  ⟨by have := h.le; omega, h.yes, fun t h1 h2 => by
    by_cases e : t = k
    · rw [e]; exact hn
    · exact h.no t h1 (by omega), h.nod⟩
theorem ldi_yes {L : List (ByteArray × ByteArray)} {k : Nat} (h : LdI L k k) (hk : k < L.length) (hy : psdL (unums (L.getD k fnone).1) = true) (hn : unums (L.getD k fnone).1 ∉ fstB L k) : LdI L (k + 1) (k + 1) := by
  refine ⟨Nat.le_refl _, fun f hf => ?_, fun t h1 h2 => by omega, ?_⟩
  · rw [List.take_add_one, fds_get hk] at hf
    rcases List.mem_append.1 hf with h1 | h1
    · exact h.yes f h1
    · simp at h1
      rw [h1]
      exact hy
  · rw [fst_succ hk, List.nodup_append]
    exact ⟨h.nod, by simp, fun a ha b hb => by simp at hb; rw [hb]; exact fun e => hn (e ▸ ha)⟩
theorem ldi_bad {L : List (ByteArray × ByteArray)} {p k : Nat} {names : List (List Int)} (h : LdI L p k) (hk : k < L.length) (hy : psdL (unums (L.getD k fnone).1) = true) (hb : (if unums (L.getD k fnone).1 ∈ fstB L p then p else p + 1) ≠ k + 1) : ¬ LeadOk names (fdsOf L) := by
  have hle := h.le
  by_cases hpk : p < k
  · exact lead_not1 (fds_get (by omega)) (h.no p (Nat.le_refl _) hpk) (fds_get hk) hy hpk
  · obtain rfl : p = k := by omega
    split at hb
    · rename_i hm
      obtain ⟨i, hi, he⟩ := List.getElem_of_mem hm
      rw [fst_len (by omega)] at hi
      refine lead_not2 (i := i) (fds_get (by omega)) (fds_get hk) hy hi ?_
      show unums (L.getD i fnone).1 = unums (L.getD p fnone).1
      have h2 := fds_get (L := L) (k := i) (by omega)
      have h3 : (fstB L p)[i]? = some (unums (L.getD i fnone).1) := by
        unfold fstB
        rw [List.getElem?_map, List.getElem?_take, if_pos hi, h2]
        rfl
      rw [List.getElem?_eq_getElem (by rw [fst_len (by omega)]; exact hi), he] at h3
      exact (Option.some.inj h3).symm
    · exact absurd rfl hb
theorem ldi_end {L : List (ByteArray × ByteArray)} {p : Nat} {names : List (List Int)} (h : LdI L p L.length) : LeadOk names (fdsOf L) ↔ p = names.length ∧ ∀ n ∈ names, n ∈ fstB L p := by
  refine lead_split (by rw [fds_len]; exact h.le) h.yes (fun f hf => ?_) h.nod
  obtain ⟨i, hi, he⟩ := List.getElem_of_mem hf
  rw [List.length_drop, fds_len] at hi
  have := h.no (p + i) (by omega) (by omega)
  have h2 := fds_get (L := L) (k := p + i) (by omega)
  rw [List.getElem_drop] at he
  rw [List.getElem?_eq_getElem (by rw [fds_len]; omega), he] at h2
  rw [Option.some.inj h2]
  exact this
def LeadE (L : List (ByteArray × ByteArray)) (names : List (List Int)) (w : World) (e : Ending) (w' : World) : Prop :=
  (∃ mb c D, e = .returned (.tuple #[.map (some mb), .bool true]) ∧ LeadOk names (fdsOf L) ∧ MOwn w' mb c D ∧ LdM D (fstB L names.length) ∧ Maps.size D = names.length ∧ Below w.heap.size w w') ∨
  (∃ v, e = .returned (.tuple #[v, .bool false]) ∧ ¬ LeadOk names (fdsOf L) ∧ Below w.heap.size w w')
end Go.Proofs.YtglmppadhlkkgagGreatDoor
/-
  FROM THE ONE TO THE OTHER: the developers' lead. No claim by itself.
-/
namespace Go.Proofs.YtglmppadhlkkgagGreatDoor
open Go Go.RowKit Go.Maps
set_option maxRecDepth 100000
set_option maxHeartbeats 4000000 in
theorem xlead_row (g off len cap : Nat) (L : List (ByteArray × ByteArray)) (nb : Nat) (NS : List ByteArray) (w : World) (hr : FRow w g off len cap L) (hN : Pcs w nb NS) (hx : ∀ x ∈ NS, x.size ≤ 400) (hx1 : NS.length ≤ 100) (hl : len ≤ 4294967296) (hs : ∀ t, (L.getD t fnone).1.size ≤ 140737488351232) :
    Calls Tryz.prog 47 #[.slice (some ⟨g, off, none⟩) len cap, .slice (some ⟨nb, 0, none⟩) NS.length NS.length] w fun e w' => LeadE L (NS.map unums) w e w' := by
  have HR := vl hr
  have HS := vl hs
  have HN := vl hN
  have HX := vl hx
  have hcap := hr.hcap
  have hmax := hr.hmax
  unfold maxLen at hmax
  have hLl := hr.hlen
  have hmm := @run_makeMap Tryz.prog
  clear hr hs hN hx
  go_enter Tryz.func47, Tryz.ntmps47
  go_wp2_with fail
  clear hmm
  go_loopw [15, 4] (fun i m wr => ∃ (k p : Nat) (D : SDat), i = .int .i64 k ∧ m = .map (some w.heap.size) ∧ k ≤ len ∧ Vl (MOwn wr w.heap.size p D) ∧ Vl (LdM D (fstB L p)) ∧ Vl (LdI L p k) ∧ Vl (Below w.heap.size w wr)) (fun i _ _ => len - (intOf i).toNat)
  case atStart => exact ⟨0, 0, .map [], rfl, rfl, by omega, World.ownsMap_made _ _ _ _, ldm_nil, ldi_nil L, (Below.refl _ _).alloc (Nat.le_refl _) _⟩
  case round =>
    obtain ⟨k, p, D, rfl, rfl, hk, HO, HD, HI, HB⟩ := hrel
    have hpk := HI.out.le
    by_cases hlt : k < len
    · have hlt' : (k : Int) < (len : Int) := by omega
      have hr2 := HR.out.below HB.out
      have c1 := hr2.hname k hlt
      have c2 := hr2.hvalue k hlt
      have hsn := HS.out k
      have HNO := vl (fun h => ldi_no HI.out h)
      have HYE := vl (fun (e : p = k) => ldi_yes (e ▸ HI.out) (by omega))
      have HBAD := vl (fun names h => ldi_bad (names := names) HI.out (by omega) h)
      have HFS := vl (fst_succ (L := L) (k := k) (by omega))
      have HFL := vl (fst_len (L := L) (k := p) (by omega))
      generalize hf : L.getD k fnone = f at *
      obtain ⟨n, v⟩ := f
      clear hr2 hf HI
      have hsn : n.size ≤ 140737488351232 := hsn
      have hszr : w.heap.size ≤ wr.heap.size := HB.out.size
      have HB1 : Vl (Below w.heap.size w (wr.alloc (.cells #[.string n, .string v] 51))) := HB.out.alloc HB.out.size _
      have HO1 : Vl (MOwn (wr.alloc (.cells #[.string n, .string v] 51)) w.heap.size p D) := HO.out.alloc _
      have HHP := vl (xhasp_any n (wr.alloc (.cells #[.string n, .string v] 51)))
      obtain ⟨b, hb⟩ : ∃ b, psdL (unums n) = b := ⟨_, rfl⟩
      rw [hb] at HHP
      have HBB := vl hb
      clear hb HO HB
      cases b with
      | false =>
        have HI2 := vl (HNO.out HBB.out)
        clear HNO HYE HBAD HFS
        go_wp2_with fail
        refine HHP.out.mono ?_
        rintro e w1 ⟨rfl, rfl⟩
        clear HHP
        go_wp2_with fail
        go_roundw
        case rel => exact ⟨k + 1, p, D, by go_num, rfl, by omega, HO1, HD, HI2, HB1⟩
        case measure => simp [intOf]; omega
      | true =>
        have HKY := vl (ky_ok hsn)
        have HSZ := vl (ldm_size HD.out n (.lit (.int .i64 (k : Nat))))
        rw [HFL.out] at HSZ
        have HWF : Vl ((Lit.int .i64 (k : Int)).wf = true) := vl (WalkArith.wf_i64 (by omega))
        by_cases hz : (if unums n ∈ fstB L p then p else p + 1) = k + 1
        · have hpe : p = k := by split at hz <;> omega
          have hnm : unums n ∉ fstB L p := fun e => by rw [if_pos e] at hz; omega
          rw [hz] at HSZ
          have HI2 := vl (HYE.out hpe HBB.out (by rw [← hpe]; exact hnm))
          have HD2 := vl (ldm_put HD.out n hnm)
          rw [HFL.out] at HD2
          subst hpe
          rw [← HFS.out] at HD2
          clear hz hnm HNO HYE HBAD HFS HFL
          go_wp2_with fail
          refine HHP.out.mono ?_
          rintro e w1 ⟨rfl, rfl⟩
          clear HHP
          go_wp2_with (first | (at_mapUpdate; refine wpList_mapUpdate_own _ rfl _ _ _ 94 rfl 9 3 skl Tryz.underlying94 _ w.heap.size p D rfl HO1.out (by unfold maxLen; omega) _ _ _ rfl rfl HKY.out (.lit (.int .i64 (p : Nat))) [] (plainElem_int Tryz.underlying3 HWF.out) ?_))
          intro w4 hown4 hg4
          have HB4 := vl (below_grown HB1.out hg4 HB1.out.size (fun k hk => by cases hk; exact Nat.le_refl _))
          have HO4 := vl hown4
          clear hown4 hg4 HO1 HKY HB1
          go_wp2_with (first | (at_len; refine wpList_len_own _ rfl _ 94 rfl 9 3 Tryz.underlying94 _ w.heap.size (p + 1) _ rfl HO4.out ?_; rw [HSZ.out]))
          go_roundw
          case rel => exact ⟨p + 1, p + 1, _, by go_num, rfl, by omega, HO4, HD2, HI2, HB4⟩
          case measure => simp [intOf]; omega
        · have HBD := vl (HBAD.out (NS.map unums) HBB.out hz)
          obtain ⟨z, hzz⟩ : ∃ z, (if unums n ∈ fstB L p then p else p + 1) = z := ⟨_, rfl⟩
          rw [hzz] at HSZ hz
          have hz' : ¬ (z : Int) = (k : Int) + 1 := by omega
          have hzb : ((z : Int) != (k : Int) + 1) = true := by simpa using hz'
          have hzl : z ≤ p + 1 := by rw [← hzz]; split <;> omega
          clear HNO HYE HBAD HFS HFL hzz HD
          go_wp2_with fail
          refine HHP.out.mono ?_
          rintro e w1 ⟨rfl, rfl⟩
          clear HHP
          go_wp2_with (first | (at_mapUpdate; refine wpList_mapUpdate_own _ rfl _ _ _ 94 rfl 9 3 skl Tryz.underlying94 _ w.heap.size p D rfl HO1.out (by unfold maxLen; omega) _ _ _ rfl rfl HKY.out (.lit (.int .i64 (k : Nat))) [] (plainElem_int Tryz.underlying3 HWF.out) ?_))
          intro w4 hown4 hg4
          have HB4 := vl (below_grown HB1.out hg4 HB1.out.size (fun k hk => by cases hk; exact Nat.le_refl _))
          have HO4 := vl hown4
          clear hown4 hg4 HO1 HKY HB1
          go_wp2_with (first | (at_len; refine wpList_len_own _ rfl _ 94 rfl 9 3 Tryz.underlying94 _ w.heap.size (p + 1) _ rfl HO4.out ?_; rw [HSZ.out]))
          go_returns
          exact Or.inr ⟨_, rfl, HBD.out, HB4.out⟩
    · have hke : k = len := by omega
      subst hke
      have HEND := vl (fun names => ldi_end (names := names) (hLl ▸ HI.out))
      have HFL := vl (fst_len (L := L) (k := p) (by omega))
      have HN2 : Vl (Pcs wr nb NS) := vl ⟨Nat.lt_of_lt_of_le HN.out.1 HB.out.size, fun j hj => (HB.out.cell (p := ⟨nb, j, none⟩) HN.out.1).trans (HN.out.2 j hj)⟩
      obtain ⟨w2, hw2⟩ : ∃ x, wr = x := ⟨_, rfl⟩
      rw [hw2] at HO HB HN2
      clear HI
      go_wp2_with fail
      go_loopw [36, 4] (fun i m wx => ∃ j : Nat, i = .int .i64 j ∧ m = .map (some w.heap.size) ∧ j ≤ NS.length ∧ wx = w2 ∧ Vl (∀ t, t < j → unums (NS.getD t ByteArray.empty) ∈ fstB L p)) (fun i _ _ => NS.length - (intOf i).toNat)
      case atStart => exact ⟨0, rfl, rfl, by omega, (by first | exact hw2 | rfl), fun t ht => by omega⟩
      case round =>
        obtain ⟨j, rfl, rfl, hj, hwx, HJ⟩ := hrel
        subst hwx
        by_cases hjl : j < NS.length
        · have hjl' : (j : Int) < (NS.length : Int) := by omega
          have cp := HN2.out.2 j hjl
          have hmem : Vl (NS.getD j ByteArray.empty ∈ NS) := vl (by rw [List.getD, List.getElem?_eq_getElem hjl]; exact List.getElem_mem _)
          have hsx := HX.out _ hmem.out
          have HHAS := vl (HD.out.has (NS.getD j ByteArray.empty))
          generalize hs : NS.getD j ByteArray.empty = s at *
          have HSJ := vl hs
          clear hs
          have HKY := vl (ky_ok (s := s) (by omega))
          by_cases hin : unums s ∈ fstB L p
          · rw [decide_eq_true hin] at HHAS
            have HIN := vl hin
            clear hin
            go_wp2_with (first | (at_lookup; refine wpList_lookup_own_ok_int _ rfl _ _ 94 rfl 9 3 .i64 skl Tryz.underlying94 Tryz.underlying3 (szero _) w.heap.size p D rfl HO.out _ _ rfl HKY.out ?_; intro c hat hwc; rw [HHAS.out]; clear hat hwc))
            go_roundw
            case rel => exact ⟨j + 1, by go_num, rfl, by omega, (by first | rfl | trivial), vl (fun t ht => by
              by_cases e : t = j
              · rw [e, HSJ.out]; exact HIN.out
              · exact HJ.out t (by omega))⟩
            case measure => simp [intOf]; omega
          · rw [decide_eq_false hin] at HHAS
            have HIN : Vl (¬ LeadOk (NS.map unums) (fdsOf L)) := vl (fun h => hin (((HEND.out _).1 h).2 _ (List.mem_map_of_mem hmem.out)))
            clear hin
            go_wp2_with (first | (at_lookup; refine wpList_lookup_own_ok_int _ rfl _ _ 94 rfl 9 3 .i64 skl Tryz.underlying94 Tryz.underlying3 (szero _) w.heap.size p D rfl HO.out _ _ rfl HKY.out ?_; intro c hat hwc; rw [HHAS.out]; clear hat hwc))
            go_returns
            exact Or.inr ⟨_, rfl, HIN.out, HB.out⟩
        · have hje : j = NS.length := by omega
          subst hje
          have HALL : Vl (∀ n ∈ NS.map unums, n ∈ fstB L p) := vl (fun n hn => by
            obtain ⟨x, hx, rfl⟩ := List.mem_map.1 hn
            obtain ⟨i, hi, rfl⟩ := List.getElem_of_mem hx
            have := HJ.out i hi
            rwa [List.getD, List.getElem?_eq_getElem hi] at this)
          have HSZ : Vl (Maps.size D = p) := vl (HD.out.size.trans HFL.out)
          by_cases hpe : p = NS.length
          · have HOK : Vl (LeadOk (NS.map unums) (fdsOf L)) := vl ((HEND.out _).2 ⟨by rw [List.length_map]; exact hpe, HALL.out⟩)
            have hpe' : (p : Int) = (NS.length : Int) := by omega
            go_wp2_with (first | (at_len; refine wpList_len_own _ rfl _ 94 rfl 9 3 Tryz.underlying94 _ w.heap.size p D rfl HO.out ?_; rw [HSZ.out]))
            go_returns
            refine Or.inl ⟨w.heap.size, p, D, ?_, HOK.out, HO.out, ?_, ?_, HB.out⟩
            · simp
            · rw [List.length_map, ← hpe]; exact HD.out
            · rw [List.length_map, ← hpe]; exact HSZ.out
          · have HOK : Vl (¬ LeadOk (NS.map unums) (fdsOf L)) := vl (fun h => hpe (by have := ((HEND.out _).1 h).1; rwa [List.length_map] at this))
            have hpe' : ((p : Int) == (NS.length : Int)) = false := by simp; omega
            go_wp2_with (first | (at_len; refine wpList_len_own _ rfl _ 94 rfl 9 3 Tryz.underlying94 _ w.heap.size p D rfl HO.out ?_; rw [HSZ.out]))
            go_returns
            exact Or.inr ⟨.map (some w.heap.size), by simp, HOK.out, HB.out⟩
theorem lead_empty {names : List (List Int)} (h : names ≠ []) : ¬ LeadOk names [] := by
  rintro ⟨A, B, he, _, _, _, hl, _⟩
  have hA : A = [] := by cases A with
    | nil => rfl
    | cons x y => cases he
  subst hA
  exact h (List.eq_nil_of_length_eq_zero hl.symm)
set_option maxHeartbeats 4000000 in
theorem xlead_any (a : Option Addr) (len cap : Nat) (L : List (ByteArray × ByteArray)) (nb : Nat) (NS : List ByteArray) (w : World) (hA : FArg w a len cap L) (hN : Pcs w nb NS) (hne : 0 < NS.length) (hx : ∀ x ∈ NS, x.size ≤ 400) (hx1 : NS.length ≤ 100) (hl : len ≤ 4294967296) (hs : ∀ t, (L.getD t fnone).1.size ≤ 140737488351232) :
    Calls Tryz.prog 47 #[.slice a len cap, .slice (some ⟨nb, 0, none⟩) NS.length NS.length] w fun e w' => LeadE L (NS.map unums) w e w' := by
  rcases hA with ⟨rfl, rfl⟩ | ⟨g, off, rfl, hr⟩
  · have hmm := @run_makeMap Tryz.prog
    have HO : Vl (MOwn (w.alloc (.map #[] 0)) w.heap.size 0 (.map [])) := World.ownsMap_made _ _ _ _
    have HB : Vl (Below w.heap.size w (w.alloc (.map #[] 0))) := (Below.refl _ _).alloc (Nat.le_refl _) _
    have HN : Vl (Pcs (w.alloc (.map #[] 0)) nb NS) := vl (hN.below HB.out)
    have cp := HN.out.2 0 hne
    have hsx := hx (NS.getD 0 ByteArray.empty) (by rw [List.getD, List.getElem?_eq_getElem hne]; exact List.getElem_mem _)
    generalize NS.getD 0 ByteArray.empty = s at *
    have HKY := vl (ky_ok (s := s) (by omega))
    have HHAS : Vl (Maps.has (.map [] : SDat) (kyS s) = false) := vl rfl
    have HIN : Vl (¬ LeadOk (NS.map unums) (fdsOf [])) := vl (lead_empty (fun e => by have := congrArg List.length e; rw [List.length_map] at this; simp at this; rw [this] at hne; simp at hne))
    have hne' : (0 : Int) < (NS.length : Int) := by omega
    clear hx hN
    go_enter Tryz.func47, Tryz.ntmps47
    go_wp2_with fail
    clear hmm
    go_loopw [15, 4] (fun i m wr => i = .int .i64 0 ∧ m = .map (some w.heap.size) ∧ wr = w.alloc (.map #[] 0)) (fun _ _ _ => 0)
    case atStart => exact ⟨rfl, rfl, rfl⟩
    case round =>
      obtain ⟨rfl, rfl, rfl⟩ := hrel
      go_wp2_with fail
      go_loopw [36, 4] (fun i m wr => i = .int .i64 0 ∧ m = .map (some w.heap.size) ∧ wr = w.alloc (.map #[] 0)) (fun _ _ _ => 0)
      case atStart => exact ⟨rfl, rfl, rfl⟩
      case round =>
        obtain ⟨rfl, rfl, rfl⟩ := hrel
        go_wp2_with (first | (at_lookup; refine wpList_lookup_own_ok_int _ rfl _ _ 94 rfl 9 3 .i64 skl Tryz.underlying94 Tryz.underlying3 (szero _) w.heap.size 0 (.map []) rfl HO.out _ _ rfl HKY.out ?_; intro c hat hwc; rw [HHAS.out]; clear hat hwc))
        go_returns
        exact Or.inr ⟨_, rfl, HIN.out, HB.out⟩
  · exact xlead_row g off len cap L nb NS w hr hN hx hx1 hl hs
end Go.Proofs.YtglmppadhlkkgagGreatDoor
