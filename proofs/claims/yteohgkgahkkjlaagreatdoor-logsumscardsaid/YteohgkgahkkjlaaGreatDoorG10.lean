/-
  WHAT WAS DONE: strings.SplitN of a text at blanks, six pieces at most. No claim by itself.
-/
import Derived.Test.YteohgkgahkkjlaaGreatDoorWh1
import Derived.Test.YteohgkgahkkjlaaGreatDoorWhm
import Derived.Deep.LoopGhost
import Derived.Lib.Split
import Derived.Lib.MinMax
import Derived.Lib.Strings
import Derived.Lib.Walk
import Derived.Laws.Strings3
import Derived.Deep.OwnRows
namespace Go.Proofs.YteohgkgahkkjlaaGreatDoor
open Go Go.RowKit
set_option maxRecDepth 100000
theorem cutN_more (c : Int) : ∀ (k j : Nat) (s : List Int), s.length ≤ k → s.length ≤ j → cutN c k s = cutN c j s
  | k, j, s, h1, h2 => by
    rw [cutN_full c k s h1, cutN_full c j s h2]
where
  cutN_full (c : Int) : ∀ (k : Nat) (s : List Int), s.length ≤ k → cutN c k s = cut1 c s
    | 0, s, h => by
      have e : s = [] := List.length_eq_zero_iff.1 (by omega)
      rw [e]; rfl
    | k + 1, s, h => by
      rcases cut1_cases c s with ⟨h1, h2⟩ | ⟨a, r, e, h1, h2⟩
      · rw [cutN_no c _ h1, h2]
      · rw [e, cutN_at c k h1, cut1_at c a r h1, cutN_full c k r (by rw [e] at h; simp at h; omega)]
theorem cutN_miss (c : Int) (k : Nat) {s : List Int} (h : idxI c s < 0) : cutN c k s = [s] := cutN_no c k (fun hm => by have := (idxI_pos c s).2 hm; omega)
theorem cutN_hit (c : Int) (k : Nat) {s : List Int} {i : Nat} (h : idxI c s = (i : Int)) : i < s.length ∧ cutN c (k + 1) s = s.take i :: cutN c k (s.drop (i + 1)) := by
  have hm : c ∈ s := (idxI_pos c s).1 (by omega)
  obtain ⟨a, r, e, hn⟩ := mem_first c s hm
  rw [e, idxI_at r hn] at h
  have ha : a.length = i := by omega
  subst ha
  rw [e]
  refine ⟨by simp, ?_⟩
  rw [cutN_at c k hn]
  simp
def unsOf (l : List ByteArray) : List (List Int) := l.map unums
def SplE (w : World) (s : ByteArray) (e : Ending) (w' : World) : Prop :=
  ∃ (l : List ByteArray) (N : Nat), unsOf l = cutN 32 5 (unums s) ∧ l.length ≤ N ∧ N ≤ 6 ∧ e = .returned (.slice (some ⟨w.heap.size, 0, none⟩) l.length N) ∧ w' = w.alloc (.cells (Lib.cellsOf l N) 9)
theorem str_info : (Tryz.prog.info? 9).map (fun i => (i.zero, i.size, i.bytes)) = some (some (.string ByteArray.empty), 1, 16) := by kernel_rfl
set_option maxHeartbeats 4000000 in
theorem gsplit_any (s : ByteArray) (w : World) (hs : s.size ≤ 140737488351232) :
    Calls Tryz.prog 46 #[.string s, .string ⟨#[32]⟩, .int .i64 0, .int .i64 6] w fun e w' => SplE w s e w' := by
  obtain ⟨N, hN⟩ : ∃ N : Nat, min (6 : Int) ((s.size : Int) + 1) = (N : Int) := ⟨(min (6 : Int) ((s.size : Int) + 1)).toNat, by omega⟩
  have hN1 : (1 : Int) ≤ (N : Int) := by omega
  have hN6 : (N : Int) ≤ 6 := by omega
  have HCUT : Vl (cutN 32 (N - 1) (unums s) = cutN 32 5 (unums s)) := by
    show _ = _
    by_cases h : s.size < 5
    · exact cutN_more 32 _ _ _ (by rw [unums_len]; omega) (by rw [unums_len]; omega)
    · rw [show N = 6 by omega]
  have hmk := run_make_row' (P := Tryz.prog) 43 9 (.string ByteArray.empty) 16 Tryz.underlying43 str_info rfl .i64 .i64 N (by omega) (by omega)
  have HI := vl (fun x W => sidx_any x W)
  go_enter Tryz.func46, Tryz.ntmps46
  go_wp2_with fail
  clear hmk
  go_loopg [0, 10] (N - 1) (fun g s0 s10 wr => ∃ (done : List ByteArray) (rest : ByteArray), s0 = .string rest ∧ s10 = .int .i64 done.length ∧ done.length ≤ N - 1 ∧ g = N - 1 - done.length ∧ rest.size ≤ s.size ∧
    wr = w.alloc (.cells (Lib.cellsOf done N) 9) ∧ Vl (unsOf done ++ cutN 32 (N - 1 - done.length) (unums rest) = cutN 32 (N - 1) (unums s)))
  case atStart => exact ⟨[], s, rfl, rfl, Nat.zero_le _, rfl, Nat.le_refl _, by rw [Lib.cellsOf_nil], rfl⟩
  case round =>
    obtain ⟨done, rest, rfl, rfl, hd, rfl, hrs, rfl, HS⟩ := hrel
    have hnext : (Lib.cellsOf done N)[done.length]? = some (.string ByteArray.empty) := Lib.cellsOf_next (by omega)
    have HFIN : Vl (cutN 32 (N - 1 - done.length) (unums rest) = [unums rest] → SplE w s (.returned (.slice (some ⟨w.heap.size, 0, none⟩) (done.length + 1) N)) (w.alloc (.cells ((Lib.cellsOf done N).setIfInBounds done.length (.string rest)) 9))) := fun h => by
      have e := HS.out
      rw [h] at e
      refine ⟨done ++ [rest], N, ?_, by simp; omega, by omega, by simp, by rw [Lib.cellsOf_set (by omega)]⟩
      rw [← HCUT.out, ← e]
      unfold unsOf
      simp
    by_cases hlt : done.length < N - 1
    · have hltz : ((done.length : Nat) : Int) < (N : Int) - 1 := by omega
      have HX := vl (HI.out rest (w.alloc (.cells (Lib.cellsOf done N) 9)))
      obtain ⟨ix, hix⟩ : ∃ ix, idxI 32 (unums rest) = ix := ⟨_, rfl⟩
      rw [hix] at HX
      have HIX := vl hix
      clear hix
      by_cases hneg : ix < 0
      · have HF := vl (HFIN.out (cutN_miss 32 _ (by rw [HIX.out]; exact hneg)))
        clear HFIN
        go_wp2_with fail
        refine HX.out.mono ?_
        rintro e w' ⟨rfl, rfl⟩
        go_wp2_with fail
        go_ret
        exact HF.out
      · obtain ⟨i, rfl⟩ : ∃ i : Nat, ix = (i : Int) := ⟨ix.toNat, by omega⟩
        have hhit := cutN_hit 32 (N - 1 - (done.length + 1)) HIX.out
        rw [unums_len] at hhit
        have hr := hhit.1
        have HH := vl hhit.2
        have c0 : ¬ ((i : Int) < 0) := by omega
        have c1 : (0 : Int) ≤ (i : Int) := by omega
        have c2 : (i : Int) ≤ (rest.size : Int) := by omega
        have c3 : (0 : Int) ≤ (i : Int) + 1 := by omega
        have c4 : (i : Int) + 1 ≤ (rest.size : Int) := by omega
        clear HFIN hhit
        go_wp2_with fail
        refine HX.out.mono ?_
        rintro e w' ⟨rfl, rfl⟩
        go_wp2_with fail
        go_roundg (N - 1 - (done.length + 1))
        case measure => omega
        case rel =>
          refine ⟨done ++ [rest.extract 0 i], rest.extract (i + 1) rest.size, rfl, by simp, by simp; omega, by simp, by rw [ByteArray.size_extract]; omega, by rw [← Lib.cellsOf_set (by omega)], ?_⟩
          show _ = _
          rw [← HS.out, show N - 1 - done.length = (N - 1 - (done.length + 1)) + 1 by omega, HH.out]
          unfold unsOf
          rw [List.map_append]
          simp [un_take, un_drop]
    · have hltz : ¬ (((done.length : Nat) : Int) < (N : Int) - 1) := by omega
      have HF := vl (HFIN.out (by rw [show N - 1 - done.length = 0 by omega]; rfl))
      clear HFIN
      go_wp2_with fail
      go_ret
      exact HF.out
theorem splitn_any (s : ByteArray) (w : World) (hs : s.size ≤ 140737488351232) :
    Calls Tryz.prog 24 #[.string s, .string ⟨#[32]⟩, .int .i64 6] w fun e w' => SplE w s e w' := by
  have H := vl (gsplit_any s w hs)
  go_enter Tryz.func24, Tryz.ntmps24
  go_wp2_with fail
  refine H.out.mono ?_
  rintro e w' ⟨l, N, h1, h2, h3, rfl, rfl⟩
  have HF : Vl (SplE w s (.returned (.slice (some ⟨w.heap.size, 0, none⟩) l.length N)) (w.alloc (.cells (Lib.cellsOf l N) 9))) := ⟨l, N, h1, h2, h3, rfl, rfl⟩
  clear h1 h2 h3 H
  go_wp2_with fail
  go_ret
  exact HF.out
end Go.Proofs.YteohgkgahkkjlaaGreatDoor
