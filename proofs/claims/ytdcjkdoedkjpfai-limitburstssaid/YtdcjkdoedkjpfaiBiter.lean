/-
  NOT TOO OFTEN: the Go function Keys of package limit: as many as there are. No claim by itself.
-/
import Derived.Test.YtdcjkdoedkjpfaiIter0
import Derived.Test.YtdcjkdoedkjpfaiBl3
import Derived.Shelf.SlIter.Nil
import Derived.Shelf.SortM.Plain
import Derived.Shelf.SortM.SortNone
namespace Go.Proofs.Ytdcjkdoedkjpfai
open Go Go.RowKit Go.Maps Go.Sort Go.Shelf
set_option maxRecDepth 100000
theorem bsorts (m : Nat) : AnyZ.SortsIn Try.prog Try.bsorted_ren Fence.wide m :=
  ⟨fun blk off cap ss W hH hblk hsz => callsIn_wide.2 (AnyM.slices_Sort_string Try.bsort blk off cap ss W hH hblk hsz),
   fun p cap W => callsIn_wide.2 (AnyM.slices_Sort_string_none Try.bsort p cap W)⟩
theorem bkeysf (mb : Option Nat) (W : World) : CallsIn Fence.wide 5 Try.prog 13 #[.map mb] W fun e w' => e = .returned (.func (.func 16) #[] #[.pointer (some ⟨W.heap.size, 0, none⟩)]) ∧ w' = W.alloc (.cells #[.map mb] 36) :=
  AnyZ.keys_in Try.bkeys Fence.wide 5 trivial rfl mb W
set_option maxHeartbeats 1000000 in
theorem bsortedf {H : Type} (b nn : Nat) (D0 : DataW H) (R : Value → Option (DataW H × List MemPlace)) (w : World) (hown : w.ownsMap Try.prog 9 R b nn D0) (hmax : Maps.size D0 ≤ maxLen) (hbytes : Maps.size D0 * 16 ≤ 140737488355328) :
    CallsIn Fence.wide 5 Try.prog 12 #[.func (.func 16) #[] #[.pointer (some ⟨w.heap.size, 0, none⟩)]] (w.alloc (.cells #[.map (some b)] 36)) fun e w' => ∃ (v : Value) (ss : List (List UInt8)), e = .returned v ∧ ss.Perm (strKeys D0) ∧
      w'.ownsRow (w.alloc (.cells #[.map (some b)] 36)).heap.size 9 1 v ss.length ((ss.mergeSort (fun x y => decide (x ≤ y))).map encStr) ∧ (v = .slice none 0 0 ↔ ss = []) ∧ Below (w.alloc (.cells #[.map (some b)] 36)).heap.size (w.alloc (.cells #[.map (some b)] 36)) w' := by
  have hbl := hown.lt
  have hseq : SeqGives Fence.wide 2 Try.prog 16 #[.pointer (some ⟨w.heap.size, 0, none⟩)] encStr (fun ss => ss.Perm (strKeys D0)) (Maps.size D0) (w.alloc (.cells #[.map (some b)] 36)) :=
    AnyZ.keys_gives (ρ := Try.bkeys_ren) { Try.bkeys with } Fence.wide _ trivial rfl (by omega) w.heap.size b nn D0 _ (by simp) (by simp) (by
      obtain ⟨es, clock, hb, Ft, hs, hD⟩ := hown
      exact ⟨es, clock, (Below.heap_alloc _ _ b hbl).trans hb, Ft, hs, hD⟩)
  exact AnyZ.sorted_in Try.bsorted Fence.wide 5 trivial trivial trivial trivial rfl (by omega) (bsorts _) (enters_of Try.func15 (by kernel_rfl) rfl) 16 #[.pointer (some ⟨w.heap.size, 0, none⟩)] trivial (enters_of Try.func16 (by kernel_rfl) rfl) _ _ hmax hbytes _ hseq
theorem strKeys_len {D : BDat} : (strKeys D).length = Maps.size D := by
  cases D <;> simp [strKeys, Maps.size]
set_option maxHeartbeats 1000000 in
theorem blkeys_any {w : World} {lb mb : Nat} {r b : Int} {D : BDat} {f : BSt} {n : Nat} (h : LimM w lb mb r b D f n) (hm : n ≤ 100) :
    Calls Try.prog 6 #[lptr lb] w fun e w' => (∃ a c, e = .returned (.slice a n c)) ∧ Below w.heap.size w w' := by
  have hown := h.own
  have hsz := h.rel.size
  have hmax : Maps.size D ≤ maxLen := by unfold maxLen; omega
  have hby : Maps.size D * 16 ≤ 140737488355328 := by omega
  have HS := vl hsz
  have c2 := h.c2
  clear h hsz
  unfold lptr
  refine (callsIn_wide (n := 6)).1 ?_
  have hfK : Fence.wide.fn 13 := trivial
  have hfS : Fence.wide.fn 12 := trivial
  refine callsIn_of_wp Try.func6 rfl trivial ?_ rfl
  simp only [Try.ntmps6, List.size_toArray, List.length_cons, List.length_nil, Nat.reduceAdd, Nat.reduceSub, Array.replicate_succ, Array.replicate_zero, List.push_toArray, List.append_toArray, List.nil_append, List.cons_append]
  gi_wp2_with (first
    | (gi_at_call 13; refine (bkeysf _ _).mono ?_; rintro e w' ⟨rfl, rfl⟩)
    | (gi_at_call 12; refine (bsortedf mb n D bkElem w hown hmax hby).mono ?_; rintro e w' ⟨v, ss, rfl, hS, hrow, hnil, hb⟩))
  go_ret
  have hl : ss.length = n := by rw [hS.length_eq, strKeys_len, HS.out]
  refine ⟨?_, ((Below.refl _ w).alloc (Nat.le_refl _) _).trans (hb.mono (by simp))⟩
  rw [hl] at hrow
  rcases hrow.2 with ⟨hv, h0⟩ | ⟨g, cap, cur, hv, _⟩
  · exact ⟨none, 0, by rw [h0]; exact congrArg _ hv⟩
  · exact ⟨_, cap, congrArg _ hv⟩
end Go.Proofs.Ytdcjkdoedkjpfai
