/-
  MESSAGES AS LINES: the document's small, great, Token, Plain, Word, Name. No claim by itself.
-/
import Derived.BigQuiet
import Derived.Deep.QuietTactic
import Derived.Test.YtibipnipeaeonaaGreatDoorMC
namespace Go.Proofs.YtibipnipeaeonaaGreatDoor
open Go.RowKit
set_option maxRecDepth 100000
theorem unums_at (s : ByteArray) (k : Nat) (h : k < s.size) : ∀ h, ((s[k]'h).toNat : Int) = (unums s).getD k 0 := by
  intro h'
  have hk : k < s.data.toList.length := by rw [Array.length_toList]; exact h
  simp only [unums, List.getD, List.getElem?_map, List.getElem?_eq_getElem hk, Option.map_some, Option.getD_some]
  rfl
theorem rsmall_any (c : Int) (w : World) : Calls Tryz.prog 46 #[.int .u8 c] w fun e w' => e = .returned (.bool (isSmall c)) ∧ w = w' := by
  go_enter Tryz.func46, Tryz.ntmps46
  go_wp2
  all_goals
    go_ret
    refine ⟨?_, rfl⟩
    show Ending.returned (Value.bool _) = Ending.returned (Value.bool _)
    first
      | (congr 2; done)
      | (congr 2; unfold isSmall; rw [Bool.eq_iff_iff]; simp <;> omega)
theorem rgreat_any (c : Int) (w : World) : Calls Tryz.prog 47 #[.int .u8 c] w fun e w' => e = .returned (.bool (isGreat c)) ∧ w = w' := by
  go_enter Tryz.func47, Tryz.ntmps47
  go_wp2
  all_goals
    go_ret
    refine ⟨?_, rfl⟩
    show Ending.returned (Value.bool _) = Ending.returned (Value.bool _)
    first
      | (congr 2; done)
      | (congr 2; unfold isGreat; rw [Bool.eq_iff_iff]; simp <;> omega)
theorem all_getD {Z : List Int} {f : Int → Bool} : (∀ t, t < Z.length → f (Z.getD t 0) = true) ↔ Z.all f = true := by
  rw [List.all_eq_true]
  constructor
  · intro h x hx
    obtain ⟨i, hi, rfl⟩ := List.getElem_of_mem hx
    have := h i hi
    simpa [List.getD, List.getElem?_eq_getElem hi] using this
  · intro h t ht
    have : Z.getD t 0 ∈ Z := by
      rw [List.getD, List.getElem?_eq_getElem ht]
      exact List.getElem_mem _
    exact h _ this
theorem all_no {Z : List Int} {f : Int → Bool} {t : Nat} (ht : t < Z.length) (h : f (Z.getD t 0) = false) : Z.all f = false := by
  cases hz : Z.all f
  · rfl
  · have := all_getD.2 hz t ht
    rw [h] at this
    cases this
theorem toL_eq {s t : ByteArray} : s.toList = t.toList ↔ s = t := by
  rw [ByteArray.toList_eq, ByteArray.toList_eq]
  constructor
  · intro h
    apply ByteArray.ext
    exact Array.ext' h
  · rintro rfl; rfl
theorem toL_nil {s : ByteArray} : s.toList = [] ↔ unums s = [] := by
  rw [ByteArray.toList_eq]
  unfold unums
  simp
theorem head_at {Z : List Int} (h : Z ≠ []) : Z.headD 0 = Z.getD 0 0 := by
  match Z, h with
  | c :: r, _ => rfl
theorem last_at {Z : List Int} (_h : Z ≠ []) : Z.getLastD 0 = Z.getD (Z.length - 1) 0 := by
  rw [List.getLastD_eq_getLast?, List.getLast?_eq_getElem?]
  rfl
set_option maxHeartbeats 1000000 in
theorem rtoken_any (s : ByteArray) (w : World) (hs : s.size ≤ 140737488351232) : Calls Tryz.prog 33 #[.string s] w fun e w' => e = .returned (.bool (tokL (unums s))) ∧ w = w' := by
  have HN := vl (unums_at s)
  have HL := vl (unums_len s)
  go_enter Tryz.func33, Tryz.ntmps33
  go_wp2_with fail
  go_loopw [3] (fun i wr => ∃ k : Nat, i = .int .i64 k ∧ k ≤ s.size ∧ Vl (∀ t, t < k → ok0 ((unums s).getD t 0) = true) ∧ w = wr) (fun i _ => s.size - (intOf i).toNat)
  case atStart => exact ⟨0, rfl, by omega, fun t ht => by omega, rfl⟩
  case round =>
    obtain ⟨k, rfl, hk, HK, rfl⟩ := hrel
    by_cases hlt : k < s.size
    · have hix := HN.out k hlt
      have hlt' : (k : Int) < (s.size : Int) := by omega
      obtain ⟨c, hc⟩ : ∃ c, (unums s).getD k 0 = c := ⟨_, rfl⟩
      rw [hc] at hix
      have HC := vl hc
      clear hc
      have H1 := vl (rsmall_any c w)
      have H2 := vl (rgreat_any c w)
      obtain ⟨a, ha⟩ : ∃ a, isSmall c = a := ⟨_, rfl⟩
      obtain ⟨b, hb⟩ : ∃ b, isGreat c = b := ⟨_, rfl⟩
      rw [ha] at H1
      rw [hb] at H2
      have HO : Vl (ok0 c = (a || b)) := by show ok0 c = _; unfold ok0; rw [ha, hb]
      clear ha hb
      go_wp2_with fail
      refine H1.out.mono ?_
      rintro e w' ⟨rfl, rfl⟩
      go_wp2_with fail
      refine H2.out.mono ?_
      rintro e w' ⟨rfl, rfl⟩
      have go : Vl ((a || b) = true → ∀ t, t < k + 1 → ok0 ((unums s).getD t 0) = true) := fun hab t ht => by
        by_cases e : t = k
        · rw [e, HC.out, HO.out, hab]
        · exact HK.out t (by omega)
      have no : Vl ((a || b) = false → tokL (unums s) = false) := fun hab => by
        unfold tokL
        rw [all_no (t := k) (by rw [HL.out]; exact hlt) (by rw [HC.out, HO.out, hab])]
        rfl
      cases a with
      | true =>
        go_wp2
        exact ⟨⟨k + 1, by go_num, by omega, go.out rfl, by first | rfl | trivial⟩, by simp [intOf]; omega⟩
      | false =>
        cases b with
        | true =>
          go_wp2
          exact ⟨⟨k + 1, by go_num, by omega, go.out rfl, by first | rfl | trivial⟩, by simp [intOf]; omega⟩
        | false =>
          go_wp2
          go_ret
          exact ⟨by rw [no.out rfl]; rfl, rfl⟩
    · have HA : Vl ((unums s).all ok0 = true) := all_getD.1 (fun t ht => HK.out t (by rw [HL.out] at ht; omega))
      have hlt' : ¬ ((k : Int) < (s.size : Int)) := by omega
      by_cases he : s.toList = []
      · have HF : Vl (tokL (unums s) = false) := by
          show tokL _ = false
          unfold tokL
          rw [toL_nil.1 he]
          rfl
        go_wp2
        go_ret
        exact ⟨by rw [HF.out]; rfl, rfl⟩
      · have HF : Vl (tokL (unums s) = decide ((s.size : Int) ≤ 400)) := by
          show tokL _ = _
          unfold tokL
          rw [HA.out, HL.out]
          have : (unums s).isEmpty = false := by
            cases hx : (unums s).isEmpty
            · rfl
            · exact absurd (toL_nil.2 (List.isEmpty_iff.1 hx)) he
          rw [this, Bool.eq_iff_iff]
          simp
          omega
        go_wp2
        go_ret
        refine ⟨?_, rfl⟩
        show Ending.returned (Value.bool _) = Ending.returned (Value.bool _)
        congr 2
        rw [HF.out]
        simp [he]
end Go.Proofs.YtibipnipeaeonaaGreatDoor
