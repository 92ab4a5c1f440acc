/-
  CONTRACT of the Go function bytes.Repeat at one byte. No claim by itself.
-/
import Derived.Test.YtkjfhgoddhigmacDoorCmul
import Derived.Lib.MinMax
import Derived.Deep.RegionLaw
import Derived.Deep.DeepMust
namespace Go.Proofs.YtkjfhgoddhigmacDoor
open Go.RowKit
/-- The first cells of a block of bytes. -/
def Blk (w : World) (g n : Nat) (L : List Value) : Prop :=
  ∃ cur : List Value, w.heap[g]? = some (.cells cur.toArray 5 (0, 0)) ∧ n ≤ cur.length ∧ cur.take n = L
theorem blk_src {w : World} {g k q : Nat} {cur : List Value} {v : Value} (h : w.heap[g]? = some (.cells cur.toArray 5 (0, 0))) (ht : cur.take k = List.replicate k v) (hq : q ≤ k) :
    Hid (∀ j u, (List.replicate q v)[j]? = some u → w.drew.cell? ((⟨g, 0, none⟩ : Addr).add j) = some u) := by
  show ∀ j u, _
  intro j u hj
  rw [List.getElem?_replicate] at hj
  split at hj
  · rename_i hlt
    obtain rfl := Option.some.inj hj
    have h1 : cur[j]? = some v := by
      have h2 : (cur.take k)[j]? = some v := by rw [ht, List.getElem?_replicate, if_pos (by omega)]
      rw [List.getElem?_take, if_pos (by omega)] at h2
      exact h2
    have h3 : w.drew.heap[g]? = some (.cells cur.toArray 5 (0, 0)) := h
    have hplain : (⟨g, 0, none⟩ : Addr).add j = ⟨g, j, none⟩ := by unfold Addr.add; split <;> simp_all
    rw [hplain]
    simp [World.cell?, h3, h1]
  · cases hj
theorem blk_more {k q : Nat} {cur : List Value} {v : Value} (ht : cur.take k = List.replicate k v) :
    Hid ((splice cur k (List.replicate q v)).take (k + q) = List.replicate (k + q) v) := by
  show _ = _
  unfold splice
  rw [ht, ← List.append_assoc, List.replicate_append_replicate]
  rw [List.take_left' (by simp)]
set_option maxRecDepth 100000 in
set_option maxHeartbeats 4000000 in
theorem rep_any (g n : Nat) (w : World) (hn : n ≤ 281474976710656) (hc : w.cell? ⟨g, 0, none⟩ = some (.int .u8 255)) :
    Calls Tryd.prog 43 #[.slice (some ⟨g, 0, none⟩) 1 1, .int .i64 n] w fun e w' => ∃ h, e = .returned (.slice (some ⟨h, 0, none⟩) n n) ∧ w.heap.size ≤ h ∧ Blk w' h n (List.replicate n (.int .u8 255)) ∧ Below w.heap.size w w' := by
  by_cases h0 : n = 0
  · subst h0
    go_enter Tryd.func43, Tryd.ntmps43
    go_wp2_with fail
    go_ret
    refine ⟨_, rfl, Nat.le_refl _, ⟨[], ?_, Nat.le_refl _, rfl⟩, ?_⟩
    · exact Array.getElem?_push_size
    · exact (Below.refl _ w).alloc (Nat.le_refl _) _
  · have hnz : ((n : Int) == 0) = false := by rw [beq_eq_false_iff_ne]; omega
    have hx := @run_callFunc_extern Tryd.prog 52 _ (Extern.BytealgMakeNoZero.makeNoZero #[3] #[29]) Tryd.func52 (by kernel_rfl) (by kernel_rfl) (by kernel_rfl) (by kernel_rfl)
    obtain ⟨cs, hrun, hcs1, hcs2⟩ := Lib.run_makeNoZero (P := Tryd.prog) w #[3] 29 5 Tryd.underlying29 n (by omega)
    have hgl : g < w.heap.size := by
      rcases Nat.lt_or_ge g w.heap.size with h1 | h1
      · exact h1
      · simp [World.cell?, Array.getElem?_eq_none h1] at hc
    have hcs3 := hcs2 (by unfold maxLen; omega)
    unfold maxLen at hcs3
    have hs5 : (Tryd.prog.info? 5).map (·.size) = some 1 := by kernel_rfl
    have HW1 : Hid ((w.drew.drew.alloc (.cells cs 5)).heap[w.heap.size]? = some (.cells cs.toList.toArray 5 (0, 0))) := by
      show (w.drew.drew.heap.push (.cells cs 5 (0, 0)))[w.drew.drew.heap.size]? = _
      rw [Array.toArray_toList]
      exact Array.getElem?_push_size
    have HB1 : Hid (Below w.heap.size w (w.drew.drew.alloc (.cells cs 5))) := by
      show Below _ _ _
      exact ((Below.refl _ w).drew.drew).alloc (by simp) _
    have HC1 : Hid ((w.drew.drew.alloc (.cells cs 5)).cell? ⟨g, 0, none⟩ = some (.int .u8 255)) := by
      show _ = _
      rw [HB1.out.cell (p := ⟨g, 0, none⟩) hgl]; exact hc
    obtain ⟨M, hM⟩ : ∃ M : Nat, (if n ≤ 8192 then n else 8192) = M := ⟨_, rfl⟩
    have hM1 : 1 ≤ M := by rw [← hM]; split <;> omega
    have hM2 : M ≤ 8192 := by rw [← hM]; split <;> omega
    have hcase : (decide (8192 < (n : Int)) = false ∧ Hid (n = M)) ∨ (decide (8192 < (n : Int)) = true ∧ Hid (M = 8192)) := by
      by_cases h8 : n ≤ 8192
      · left; rw [if_pos h8] at hM; exact ⟨by simp; omega, hM⟩
      · right; rw [if_neg h8] at hM; exact ⟨by simp; omega, hM.symm⟩
    clear hM
    go_enter Tryd.func43, Tryd.ntmps43
    go_wp2_with fail
    refine (mul_one_ n hn _).mono ?_
    rintro _ _ ⟨rfl, rfl⟩
    rcases hcase with ⟨hd8, hM3⟩ | ⟨hd8, hM3⟩
    all_goals
      go_wp2_with (refine wpList_copy_splice rfl _ _ 29 29 rfl 5 Tryd.underlying29 hs5 _ _ _ _ _ _ rfl rfl w.heap.size 0 cs.toList 5 HW1.out [.int .u8 255] ?b2 ?b3 ?b4 ?b5 w.heap.size w HB1.out (Nat.le_refl _) ?_)
      case b2 => exact (Nat.min_eq_left (show 1 ≤ n by omega)).symm
      case b3 => intro j v hj; cases j with | zero => (simp at hj; subst hj; exact hc) | succ j => simp at hj
      case b4 => simp; omega
      case b5 => intro v hv; simp at hv; subst hv; rfl
      intro w1 hk1 hb1
      go_wp2_with fail
      go_loopw [10] (fun i wr => ∃ (k : Nat) (cur : List Value), i = .int .i64 k ∧ 1 ≤ k ∧ k ≤ n ∧ Hid (wr.heap[w.heap.size]? = some (.cells cur.toArray 5 (0, 0))) ∧ cur.length = cs.size ∧ Hid (cur.take k = List.replicate k (.int .u8 255)) ∧ Below w.heap.size w wr) (fun i _ => n - (intOf i).toNat)
      case atStart => exact ⟨1, _, rfl, by omega, by omega, hk1, by rw [length_splice _ _ _ (by simp; omega)]; simp, by show _ = _; simp [splice], hb1⟩
      case round =>
        obtain ⟨k, cur, rfl, hk1, hk2, HK, hcl, HT, hbel⟩ := hrel
        by_cases hlt : k < n
        · obtain ⟨c, hmin, hc1, hc2⟩ : ∃ c : Nat, min (k : Int) 8192 = c ∧ 1 ≤ c ∧ c ≤ k := ⟨min k 8192, by omega, by omega, by omega⟩
          try (have hminn : min (k : Int) (n : Int) = c := by have := hM3.out; omega)
          have hcn : c ≤ n := by omega
          obtain ⟨q, HQ, hq1, hq2⟩ : ∃ q : Nat, Hid (q = Nat.min c (n - k)) ∧ 1 ≤ q ∧ k + q ≤ n := ⟨min c (n - k), rfl, by omega, by omega⟩
          have hqc : q ≤ c := by have : q = min c (n - k) := HQ.out; omega
          have HSRC := blk_src HK.out HT.out (show q ≤ k by omega)
          have HN : Hid ((List.replicate q (Value.int .u8 255)).length = Nat.min c (n - k)) := by show _ = _; rw [List.length_replicate]; exact HQ.out
          have HFIT : Hid (k + (List.replicate q (Value.int .u8 255)).length ≤ cur.length) := by show _ ≤ _; rw [List.length_replicate]; omega
          have H1C : Hid (∀ v ∈ List.replicate q (Value.int .u8 255), v.oneCell' = true) := fun v hv => by rw [List.eq_of_mem_replicate hv]; rfl
          have HBD : Hid (Below w.heap.size w wr.drew) := hbel.drew
          have HT2 := blk_more (q := q) HT.out
          have hcl2 : (splice cur k (List.replicate q (Value.int .u8 255))).length = cs.size := by rw [length_splice _ _ _ HFIT.out]; exact hcl
          have HW : Hid (IntKind.i64.wrap ((k : Int) + (q : Int)) = ((k + q : Nat) : Int)) := by show _ = _; rw [IntKind.wrap_i64]; omega
          go_wp2_with fail
          go_region_law (refine step_copy_splice rfl (.tmp 70) (.tmp 73) 29 29 rfl 5 Tryd.underlying29 hs5 (some ⟨w.heap.size, k, none⟩) (some ⟨w.heap.size, 0, none⟩) (n - k) (n - k) c n (by simp [Act.eval, Act.put]; omega) (by simp [Act.eval, Act.put]) w.heap.size k cur 5 HK.out (List.replicate q (Value.int .u8 255)) HN.out (fun _ => ⟨rfl, _, rfl, HSRC.out⟩) HFIT.out H1C.out w.heap.size w HBD.out (Nat.le_refl _) ?_; intro w4 hg4 hb4)
          all_goals
            go_simp
            go_wp2_with fail
            go_roundw
            case rel => exact ⟨k + q, _, by rw [HW.out], by omega, by omega, hg4, hcl2, HT2, hb4⟩
            case measure => rw [HW.out]; simp [intOf]; omega
        · have e : k = n := by omega
          subst e
          go_wp2
          go_ret
          exact ⟨_, rfl, Nat.le_refl _, ⟨cur, HK.out, by omega, HT.out⟩, hbel⟩
end Go.Proofs.YtkjfhgoddhigmacDoor
