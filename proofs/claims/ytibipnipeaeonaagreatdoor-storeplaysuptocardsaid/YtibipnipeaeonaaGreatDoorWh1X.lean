/-
  WHERETO: what the library's functions of texts tell, in the words of unums. No claim by itself.
-/
import Derived.Laws.Externs
import Derived.Laws.StandIn
import Derived.Laws.DeepStrings4
import Derived.Lib.Bytealg
import Derived.Lib.Split
import Derived.Test.YtibipnipeaeonaaGreatDoorNtokX
import Derived.Test.YtibipnipeaeonaaGreatDoorWhmX
namespace Go.Proofs.YtibipnipeaeonaaGreatDoor
open Go Go.RowKit
set_option maxRecDepth 100000
theorem un_take (s : ByteArray) (k : Nat) : unums (s.extract 0 k) = (unums s).take k := by
  unfold unums
  rw [Lib.extract_from_zero, List.map_take]
theorem un_drop (s : ByteArray) (k : Nat) : unums (s.extract k s.size) = (unums s).drop k := by
  unfold unums
  rw [Lib.extract_to_end, List.map_drop]
theorem un_list {s t : ByteArray} : s.toList = t.toList ↔ unums s = unums t := by
  constructor
  · intro h; rw [toL_eq.1 h]
  · intro h; rw [unums_inj h]
theorem un_lit {s : ByteArray} {l : List UInt8} : s.toList = l ↔ unums s = l.map fun c => (c.toNat : Int) := by
  rw [ByteArray.toList_eq]
  unfold unums
  constructor
  · intro h; rw [h]
  · intro h
    exact (List.map_inj_right (fun a b e => by apply UInt8.toNat_inj.1; have e' : ((a.toNat : Int)) = ((b.toNat : Int)) := e; omega)).1 h
theorem un_beq (s t : ByteArray) : (s.toList == t.toList) = decide (unums s = unums t) := by
  rw [Bool.eq_iff_iff]
  simp [un_list]
theorem un_beqlit (s : ByteArray) (l : List UInt8) : (s.toList == l) = decide (unums s = l.map fun c => (c.toNat : Int)) := by
  rw [Bool.eq_iff_iff]
  simp only [beq_iff_eq, decide_eq_true_eq]
  exact un_lit
theorem pre_iff {p s : List Int} : p.isPrefixOf s = true ↔ p.length ≤ s.length ∧ s.take p.length = p := by
  rw [List.isPrefixOf_iff_prefix]
  constructor
  · rintro ⟨t, rfl⟩; simp
  · rintro ⟨_, h2⟩; exact ⟨s.drop p.length, by rw [show p ++ s.drop p.length = s.take p.length ++ s.drop p.length from by rw [h2]]; exact List.take_append_drop _ _⟩
/- HasPrefix -/
theorem lhasp_any (s p : ByteArray) (w : World) : Calls Tryz.prog 57 #[.string s, .string p] w fun e w' => e = .returned (.bool ((unums p).isPrefixOf (unums s))) ∧ w = w' := by
  by_cases h1 : p.size ≤ s.size
  · have h1' : (p.size : Int) ≤ (s.size : Int) := by omega
    have hx : (unums p).isPrefixOf (unums s) = ((s.extract 0 p.size).toList == p.toList) := by
      rw [un_beq, un_take, Bool.eq_iff_iff, pre_iff, unums_len, unums_len]
      simp [h1]
    rw [hx]
    clear hx
    go_enter Tryz.func57, Tryz.ntmps57
    go_wp2
    go_ret
    exact ⟨rfl, rfl⟩
  · have h1' : ¬ (p.size : Int) ≤ (s.size : Int) := by omega
    have hx : (unums p).isPrefixOf (unums s) = false := by
      rw [Bool.eq_false_iff]
      intro h
      have := (pre_iff.1 h).1
      rw [unums_len, unums_len] at this
      omega
    rw [hx]
    clear hx
    go_enter Tryz.func57, Tryz.ntmps57
    go_wp2
    go_ret
    exact ⟨rfl, rfl⟩
/-- Does a text begin with this byte? -/
def begins (c : Int) (s : List Int) : Bool := !s.isEmpty && decide (s.headD 0 = c)
theorem pre_one (c : Int) (s : List Int) : List.isPrefixOf [c] s = begins c s := by
  cases s with
  | nil => rfl
  | cons x r =>
    unfold begins
    rw [Bool.eq_iff_iff]
    simp [List.isPrefixOf]
    exact eq_comm
def trimP (s p : ByteArray) : ByteArray := if (unums p).isPrefixOf (unums s) = true then s.extract p.size s.size else s
theorem lcutp_any (s p : ByteArray) (w : World) : Calls Tryz.prog 40 #[.string s, .string p] w fun e w' => e = .returned (.tuple #[.string (trimP s p), .bool ((unums p).isPrefixOf (unums s))]) ∧ w = w' := by
  have H := vl (lhasp_any s p w)
  obtain ⟨b, hb⟩ : ∃ b, (unums p).isPrefixOf (unums s) = b := ⟨_, rfl⟩
  cases b with
  | false =>
    have e : trimP s p = s := by unfold trimP; rw [hb]; rfl
    rw [e, hb]
    rw [hb] at H
    go_enter Tryz.func40, Tryz.ntmps40
    go_wp2_with fail
    refine H.out.mono ?_
    rintro e w' ⟨rfl, rfl⟩
    go_wp2
    go_ret2
    exact ⟨rfl, rfl⟩
  | true =>
    have e : trimP s p = s.extract p.size s.size := by unfold trimP; rw [hb]; rfl
    have hle := (pre_iff.1 hb).1
    rw [unums_len, unums_len] at hle
    have hle' : (p.size : Int) ≤ (s.size : Int) := by omega
    rw [e, hb]
    rw [hb] at H
    go_enter Tryz.func40, Tryz.ntmps40
    go_wp2_with fail
    refine H.out.mono ?_
    rintro e w' ⟨rfl, rfl⟩
    go_wp2
    go_ret2
    exact ⟨rfl, rfl⟩
theorem scutp_any (s p : ByteArray) (w : World) : Calls Tryz.prog 28 #[.string s, .string p] w fun e w' => e = .returned (.tuple #[.string (trimP s p), .bool ((unums p).isPrefixOf (unums s))]) ∧ w = w' := by
  have H := vl (lcutp_any s p w)
  generalize (unums p).isPrefixOf (unums s) = b at *
  generalize trimP s p = t at *
  go_enter Tryz.func28, Tryz.ntmps28
  go_wp2_with fail
  refine H.out.mono ?_
  rintro e w' ⟨rfl, rfl⟩
  go_wp2
  go_ret2
  exact ⟨rfl, rfl⟩
def endsC (c : Int) (s : List Int) : Bool := !s.isEmpty && decide (s.getLastD 0 = c)
theorem last_one (s : ByteArray) (c : UInt8) (h : 1 ≤ s.size) : ((s.extract (s.size - 1) s.size).toList == [c]) = decide ((unums s).getLastD 0 = (c.toNat : Int)) := by
  rw [un_beqlit, un_drop]
  have hne : unums s ≠ [] := fun e => by have := unums_nil.1 e; omega
  have hl := unums_len s
  have hd : (unums s).drop (s.size - 1) = [(unums s).getLastD 0] := by
    rw [List.getLastD_eq_getLast?, List.getLast?_eq_some_getLast hne, ← hl]
    have h2 := List.dropLast_concat_getLast hne
    rw [List.dropLast_eq_take] at h2
    have h3 := List.take_append_drop ((unums s).length - 1) (unums s)
    exact List.append_cancel_left (h3.trans h2.symm)
  rw [hd]
  simp
theorem lhass_any (s : ByteArray) (c : UInt8) (w : World) (hs : s.size ≤ 140737488351232) : Calls Tryz.prog 111 #[.string s, .string ⟨#[c]⟩] w fun e w' => e = .returned (.bool (endsC (c.toNat : Int) (unums s))) ∧ w = w' := by
  by_cases h : 1 ≤ s.size
  · have h1 : (1 : Int) ≤ (s.size : Int) := by omega
    have hl := last_one s c h
    have hne : (unums s).isEmpty = false := by
      cases hx : (unums s).isEmpty
      · rfl
      · have := unums_nil.1 (List.isEmpty_iff.1 hx); omega
    have e : endsC (c.toNat : Int) (unums s) = ((s.extract (s.size - 1) s.size).toList == [c]) := by unfold endsC; rw [hl, hne]; rfl
    rw [e]
    clear hl e hne
    go_enter Tryz.func111, Tryz.ntmps111
    go_wp2
    go_ret
    exact ⟨rfl, rfl⟩
  · have h1 : ¬ (1 : Int) ≤ (s.size : Int) := by omega
    have e : endsC (c.toNat : Int) (unums s) = false := by
      unfold endsC
      rw [unums_nil.2 (by omega)]; rfl
    rw [e]
    go_enter Tryz.func111, Tryz.ntmps111
    go_wp2
    go_ret
    exact ⟨rfl, rfl⟩
theorem shass_any (s : ByteArray) (c : UInt8) (w : World) (hs : s.size ≤ 140737488351232) : Calls Tryz.prog 105 #[.string s, .string ⟨#[c]⟩] w fun e w' => e = .returned (.bool (endsC (c.toNat : Int) (unums s))) ∧ w = w' := by
  have H := vl (lhass_any s c w hs)
  generalize endsC (c.toNat : Int) (unums s) = b at *
  go_enter Tryz.func105, Tryz.ntmps105
  go_wp2_with fail
  refine H.out.mono ?_
  rintro e w' ⟨rfl, rfl⟩
  go_wp2
  go_ret
  exact ⟨rfl, rfl⟩
/- CutSuffix at the line's end -/
def trimNl (s : ByteArray) : ByteArray := if endNl (unums s) = true then s.extract 0 (s.size - 1) else s
theorem endNl_ends (s : List Int) : endsC 10 s = endNl s := by
  unfold endsC endNl
  cases s with
  | nil => rfl
  | cons x r => simp
theorem un_trimNl (s : ByteArray) : unums (trimNl s) = cutNl (unums s) := by
  unfold trimNl cutNl
  split
  · rw [un_take, List.dropLast_eq_take, unums_len]
  · rfl
def idxI (c : Int) : List Int → Int
  | [] => -1
  | x :: r => if x = c then 0 else if idxI c r < 0 then -1 else idxI c r + 1
theorem idxI_no {c : Int} : ∀ {s : List Int}, c ∉ s → idxI c s = -1
  | [], _ => rfl
  | x :: r, h => by
    unfold idxI
    rw [if_neg (fun e => h (by rw [e]; simp)), idxI_no (s := r) (fun e => h (by simp [e]))]
    rfl
theorem idxI_at {c : Int} : ∀ {a : List Int} (r : List Int), c ∉ a → idxI c (a ++ c :: r) = (a.length : Int)
  | [], r, _ => by simp [idxI]
  | x :: a, r, h => by
    show idxI c (x :: (a ++ c :: r)) = _
    unfold idxI
    rw [if_neg (fun e => h (by rw [e]; simp)), idxI_at r (fun e => h (by simp [e])), if_neg (by omega)]
    simp
theorem idxI_pos (c : Int) (s : List Int) : (0 ≤ idxI c s) ↔ c ∈ s := by
  by_cases h : c ∈ s
  · obtain ⟨a, r, e, hn⟩ := mem_first c s h
    rw [e, idxI_at r hn]
    simp
  · rw [idxI_no h]
    simp [h]
theorem idx_is (l : List UInt8) (c : UInt8) : Lib.indexByte l c = idxI (c.toNat : Int) (l.map fun x => (x.toNat : Int)) := by
  induction l with
  | nil => rfl
  | cons x r ih =>
    rw [List.map_cons]
    unfold idxI
    rw [← ih]
    by_cases e : x = c
    · subst e
      rw [if_pos rfl]
      simp [Lib.indexByte]
    · have e2 : ¬ (x.toNat : Int) = (c.toNat : Int) := fun h => e (UInt8.toNat_inj.1 (by omega))
      rw [if_neg e2]
      have hge := Lib.indexByte_ge r c
      have e3 : (x == c) = false := by simpa using e
      rw [Lib.indexByte, e3]
      by_cases q : Lib.indexByte r c = -1
      · rw [q]; rfl
      · have q2 : (Lib.indexByte r c == -1) = false := by simpa using q
        rw [q2, if_neg (show ¬ Lib.indexByte r c < 0 by omega)]
        rfl
theorem first_is (s : ByteArray) (c : UInt8) : firstIdx s c = idxI (c.toNat : Int) (unums s) := by rw [Lib.firstIdx_eq, idx_is]; rfl
theorem islb_any (s : ByteArray) (c : UInt8) (w : World) :
    Calls Tryz.prog 107 #[.string s, .int .u8 (c.toNat : Int)] w fun e w' => e = .returned (.int .i64 (idxI (c.toNat : Int) (unums s))) ∧ w = w' := by
  have hx := @run_callFunc_indexByte Tryz.prog 112 _ Tryz.func112 (by kernel_rfl) (by kernel_rfl) (by kernel_rfl) (by kernel_rfl)
  have hr : ∀ W : World, (Extern.BytealgIndexByte.indexByte #[.string s, .int .u8 (c.toNat : Int)]).run Tryz.prog W = .ok (.int .i64 (idxI (c.toNat : Int) (unums s))) W := fun W => by
    rw [run_indexByte_string, first_is]
    simp
  generalize idxI (c.toNat : Int) (unums s) = k at *
  go_enter Tryz.func107, Tryz.ntmps107
  go_wp2_with fail
  go_ret
  exact ⟨rfl, rfl⟩
theorem slidx_any (s : ByteArray) (w : World) :
    Calls Tryz.prog 104 #[.string s, .string ⟨#[32]⟩] w fun e w' => e = .returned (.int .i64 (idxI 32 (unums s))) ∧ w = w' := by
  have H := islb_any s 32 w
  rw [show (((32 : UInt8).toNat : Nat) : Int) = 32 from rfl] at H
  have H := vl H
  by_cases q : s.toList = [32]
  · have e : idxI 32 (unums s) = 0 := by rw [un_lit.1 q]; rfl
    rw [e]
    have hs : s = ⟨#[32]⟩ := unums_inj (un_lit.1 q)
    clear H e q
    subst hs
    go_enter Tryz.func104, Tryz.ntmps104
    go_wp2_with fail
    go_ret
    exact ⟨rfl, rfl⟩
  · have q' : ([32] == s.toList) = false := by simpa using fun e : [32] = s.toList => q e.symm
    have q2 : ¬ [32] = s.toList := fun e => q e.symm
    generalize idxI 32 (unums s) = k at *
    go_enter Tryz.func104, Tryz.ntmps104
    go_wp2_with fail
    refine H.out.mono ?_
    rintro _ _ ⟨rfl, rfl⟩
    go_wp2
    go_ret
    exact ⟨rfl, rfl⟩
theorem sidx_any (s : ByteArray) (w : World) :
    Calls Tryz.prog 93 #[.string s, .string ⟨#[32]⟩] w fun e w' => e = .returned (.int .i64 (idxI 32 (unums s))) ∧ w = w' := by
  have H := vl (slidx_any s w)
  generalize idxI 32 (unums s) = k at *
  go_enter Tryz.func93, Tryz.ntmps93
  go_wp2_with fail
  refine H.out.mono ?_
  rintro _ _ ⟨rfl, rfl⟩
  go_wp2
  go_ret
  exact ⟨rfl, rfl⟩
/-- Has a text a blank? -/
def hasBl (s : List Int) : Bool := decide ((32 : Int) ∈ s)
end Go.Proofs.YtibipnipeaeonaaGreatDoor
