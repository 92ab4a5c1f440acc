/-
  CONTRACT of the Go function bytes.Repeat at one byte. No claim by itself.
-/
import Derived.Lib.MinMax
import Derived.Deep.RegionLaw
import Derived.Deep.DeepMust
import Derived.Test.YtkjfhgoddhigmacDoorM23
namespace Go.Proofs.YtkjfhgoddhigmacDoor
open Go.RowKit
/-- The first cells of a block of bytes. -/
def Blk (w : World) (g n : Nat) (L : List Value) : Prop :=
  ∃ cur : List Value, w.heap[g]? = some (.cells cur.toArray 5 (0, 0)) ∧ n ≤ cur.length ∧ cur.take n = L
theorem blk_src {w : World} {g k q : Nat} {cur : List Value} {v : Value} (h : w.heap[g]? = some (.cells cur.toArray 5 (0, 0))) (ht : cur.take k = List.replicate k v) (hq : q ≤ k) :
    Hid (∀ j u, (List.replicate q v)[j]? = some u → w.drew.cell? ((⟨g, 0, none⟩ : Addr).add j) = some u) := by
  show ∀ j u, _
  intro j u hj
  rw [List.getElem?_replicate] at hj
  split at hj
  · rename_i hlt
    obtain rfl := Option.some.inj hj
    have h1 : cur[j]? = some v := by
      have h2 : (cur.take k)[j]? = some v := by rw [ht, List.getElem?_replicate, if_pos (by omega)]
      rw [List.getElem?_take, if_pos (by omega)] at h2
      exact h2
    have h3 : w.drew.heap[g]? = some (.cells cur.toArray 5 (0, 0)) := h
    have hplain : (⟨g, 0, none⟩ : Addr).add j = ⟨g, j, none⟩ := by unfold Addr.add; split <;> simp_all
    rw [hplain]
    simp [World.cell?, h3, h1]
  · cases hj
theorem blk_more {k q : Nat} {cur : List Value} {v : Value} (ht : cur.take k = List.replicate k v) :
    Hid ((splice cur k (List.replicate q v)).take (k + q) = List.replicate (k + q) v) := by
  show _ = _
  unfold splice
  rw [ht, ← List.append_assoc, List.replicate_append_replicate]
  rw [List.take_left' (by simp)]
set_option maxRecDepth 100000 in
set_option maxHeartbeats 4000000 in
theorem rep_any (g n : Nat) (w : World) (hn : n ≤ 281474976710656) (hc : w.cell? ⟨g, 0, none⟩ = some (.int .u8 255)) :
    Calls Tryd.prog 43 #[.slice (some ⟨g, 0, none⟩) 1 1, .int .i64 n] w fun e w' => ∃ h, e = .returned (.slice (some ⟨h, 0, none⟩) n n) ∧ w.heap.size ≤ h ∧ Blk w' h n (List.replicate n (.int .u8 255)) ∧ Below w.heap.size w w' := by
  by_cases h0 : n = 0
  · subst h0
    go_enter Tryd.func43, Tryd.ntmps43
    go_wp2_with fail
    go_ret
    refine ⟨_, rfl, Nat.le_refl _, ⟨[], ?_, Nat.le_refl _, rfl⟩, ?_⟩
    · exact Array.getElem?_push_size
    · exact (Below.refl _ w).alloc (Nat.le_refl _) _
  · have hnz : ((n : Int) == 0) = false := by rw [beq_eq_false_iff_ne]; omega
    have hx := @run_callFunc_extern Tryd.prog 52 _ (Extern.BytealgMakeNoZero.makeNoZero #[3] #[29]) Tryd.func52 (by kernel_rfl) (by kernel_rfl) (by kernel_rfl) (by kernel_rfl)
    obtain ⟨cs, hrun, hcs1, hcs2⟩ := Lib.run_makeNoZero (P := Tryd.prog) w #[3] 29 5 Tryd.underlying29 n (by omega)
    have hgl : g < w.heap.size := by
      rcases Nat.lt_or_ge g w.heap.size with h1 | h1
      · exact h1
      · simp [World.cell?, Array.getElem?_eq_none h1] at hc
    have hcs3 := hcs2 (by unfold maxLen; omega)
    unfold maxLen at hcs3
    have hs5 : (Tryd.prog.info? 5).map (·.size) = some 1 := by kernel_rfl
    have HW1 : Hid ((w.drew.drew.alloc (.cells cs 5)).heap[w.heap.size]? = some (.cells cs.toList.toArray 5 (0, 0))) := by
      show (w.drew.drew.heap.push (.cells cs 5 (0, 0)))[w.drew.drew.heap.size]? = _
      rw [Array.toArray_toList]
      exact Array.getElem?_push_size
    have HB1 : Hid (Below w.heap.size w (w.drew.drew.alloc (.cells cs 5))) := by
      show Below _ _ _
      exact ((Below.refl _ w).drew.drew).alloc (by simp) _
    have HC1 : Hid ((w.drew.drew.alloc (.cells cs 5)).cell? ⟨g, 0, none⟩ = some (.int .u8 255)) := by
      show _ = _
      rw [HB1.out.cell (p := ⟨g, 0, none⟩) hgl]; exact hc
    obtain ⟨M, hM⟩ : ∃ M : Nat, (if n ≤ 8192 then n else 8192) = M := ⟨_, rfl⟩
    have hM1 : 1 ≤ M := by rw [← hM]; split <;> omega
    have hM2 : M ≤ 8192 := by rw [← hM]; split <;> omega
    have hcase : (decide (8192 < (n : Int)) = false ∧ Hid (n = M)) ∨ (decide (8192 < (n : Int)) = true ∧ Hid (M = 8192)) := by
      by_cases h8 : n ≤ 8192
      · left; rw [if_pos h8] at hM; exact ⟨by simp; omega, hM⟩
      · right; rw [if_neg h8] at hM; exact ⟨by simp; omega, hM.symm⟩
    clear hM
    go_enter Tryd.func43, Tryd.ntmps43
    go_wp2_with fail
    refine (mul_one_ n hn _).mono ?_
    rintro _ _ ⟨rfl, rfl⟩
    rcases hcase with ⟨hd8, hM3⟩ | ⟨hd8, hM3⟩
    all_goals
      go_wp2_with (refine wpList_copy_splice rfl _ _ 29 29 rfl 5 Tryd.underlying29 hs5 _ _ _ _ _ _ rfl rfl w.heap.size 0 cs.toList 5 HW1.out [.int .u8 255] ?b2 ?b3 ?b4 ?b5 w.heap.size w HB1.out (Nat.le_refl _) ?_)
      case b2 => exact (Nat.min_eq_left (show 1 ≤ n by omega)).symm
      case b3 => intro j v hj; cases j with | zero => (simp at hj; subst hj; exact hc) | succ j => simp at hj
      case b4 => simp; omega
      case b5 => intro v hv; simp at hv; subst hv; rfl
      intro w1 hk1 hb1
      go_wp2_with fail
      go_loopw [10] (fun i wr => ∃ (k : Nat) (cur : List Value), i = .int .i64 k ∧ 1 ≤ k ∧ k ≤ n ∧ Hid (wr.heap[w.heap.size]? = some (.cells cur.toArray 5 (0, 0))) ∧ cur.length = cs.size ∧ Hid (cur.take k = List.replicate k (.int .u8 255)) ∧ Below w.heap.size w wr) (fun i _ => n - (intOf i).toNat)
      case atStart => exact ⟨1, _, rfl, by omega, by omega, hk1, by rw [length_splice _ _ _ (by simp; omega)]; simp, by show _ = _; simp [splice], hb1⟩
      case round =>
        obtain ⟨k, cur, rfl, hk1, hk2, HK, hcl, HT, hbel⟩ := hrel
        by_cases hlt : k < n
        · obtain ⟨c, hmin, hc1, hc2⟩ : ∃ c : Nat, min (k : Int) 8192 = c ∧ 1 ≤ c ∧ c ≤ k := ⟨min k 8192, by omega, by omega, by omega⟩
          try (have hminn : min (k : Int) (n : Int) = c := by have := hM3.out; omega)
          have hcn : c ≤ n := by omega
          obtain ⟨q, HQ, hq1, hq2⟩ : ∃ q : Nat, Hid (q = Nat.min c (n - k)) ∧ 1 ≤ q ∧ k + q ≤ n := ⟨min c (n - k), rfl, by omega, by omega⟩
          have hqc : q ≤ c := by have : q = min c (n - k) := HQ.out; omega
          have HSRC := blk_src HK.out HT.out (show q ≤ k by omega)
          have HN : Hid ((List.replicate q (Value.int .u8 255)).length = Nat.min c (n - k)) := by show _ = _; rw [List.length_replicate]; exact HQ.out
          have HFIT : Hid (k + (List.replicate q (Value.int .u8 255)).length ≤ cur.length) := by show _ ≤ _; rw [List.length_replicate]; omega
          have H1C : Hid (∀ v ∈ List.replicate q (Value.int .u8 255), v.oneCell' = true) := fun v hv => by rw [List.eq_of_mem_replicate hv]; rfl
          have HBD : Hid (Below w.heap.size w wr.drew) := hbel.drew
          have HT2 := blk_more (q := q) HT.out
          have hcl2 : (splice cur k (List.replicate q (Value.int .u8 255))).length = cs.size := by rw [length_splice _ _ _ HFIT.out]; exact hcl
          have HW : Hid (IntKind.i64.wrap ((k : Int) + (q : Int)) = ((k + q : Nat) : Int)) := by show _ = _; rw [IntKind.wrap_i64]; omega
          go_wp2_with fail
          go_region_law (refine step_copy_splice rfl (.tmp 70) (.tmp 73) 29 29 rfl 5 Tryd.underlying29 hs5 (some ⟨w.heap.size, k, none⟩) (some ⟨w.heap.size, 0, none⟩) (n - k) (n - k) c n (by simp [Act.eval, Act.put]; omega) (by simp [Act.eval, Act.put]) w.heap.size k cur 5 HK.out (List.replicate q (Value.int .u8 255)) HN.out (fun _ => ⟨rfl, _, rfl, HSRC.out⟩) HFIT.out H1C.out w.heap.size w HBD.out (Nat.le_refl _) ?_; intro w4 hg4 hb4)
          all_goals
            go_simp
            go_wp2_with fail
            go_roundw
            case rel => exact ⟨k + q, _, by rw [HW.out], by omega, by omega, hg4, hcl2, HT2, hb4⟩
            case measure => rw [HW.out]; simp [intOf]; omega
        · have e : k = n := by omega
          subst e
          go_wp2
          go_ret
          exact ⟨_, rfl, Nat.le_refl _, ⟨cur, HK.out, by omega, HT.out⟩, hbel⟩
end Go.Proofs.YtkjfhgoddhigmacDoor
/-
  CONTRACT of the Go function code.Encode, for texts of at most 211106232532992 bytes. No claim by itself.
-/
namespace Go.Proofs.YtkjfhgoddhigmacDoor
open Go.RowKit
/-- A row of bytes that may be written. -/
structure Wr (w : World) (g n : Nat) (L : List Int) : Prop where
  hlen : L.length = n
  hcell : ∀ t, t < n → w.cell? ⟨g, t, none⟩ = some (.int .u8 (L.getD t 0))
  hfroz : ∀ t, t < n → w.frozen? ⟨g, t, none⟩ = false
theorem Wr.of_blk {w : World} {g n : Nat} (h : Blk w g n (List.replicate n (.int .u8 255))) : Wr w g n (List.replicate n 255) := by
  obtain ⟨cur, h1, h2, h3⟩ := h
  refine ⟨by simp, fun t ht => ?_, fun t ht => ?_⟩
  · have e : cur[t]? = some (.int .u8 255) := by
      have h4 : (cur.take n)[t]? = some (.int .u8 255) := by rw [h3, List.getElem?_replicate, if_pos ht]
      rw [List.getElem?_take, if_pos ht] at h4
      exact h4
    have e2 : (List.replicate n (255 : Int)).getD t 0 = 255 := by simp [List.getD, ht]
    rw [e2]
    simp [World.cell?, h1, e]
  · simp [World.frozen?, h1]
theorem Wr.drew {w : World} {g n : Nat} {L : List Int} (h : Wr w g n L) : Wr w.drew g n L := ⟨h.hlen, h.hcell, h.hfroz⟩
theorem Wr.set {w : World} {g n : Nat} {L : List Int} (h : Wr w g n L) (q : Nat) (hq : q < n) (c : Int) : Wr (w.setCell ⟨g, q, none⟩ (.int .u8 c)) g n (L.set q c) := by
  refine ⟨by rw [List.length_set]; exact h.hlen, fun t ht => ?_, fun t ht => by rw [World.frozen?_setCell]; exact h.hfroz t ht⟩
  by_cases e : q = t
  · subst e
    rw [World.cell?_setCell_same w _ _ (h.hcell q hq)]
    have : q < L.length := by rw [h.hlen]; exact hq
    simp [List.getD, this]
  · rw [World.cell?_setCell_other w _ _ _ (by simp), h.hcell t ht]
    simp [List.getD, List.getElem?_set_ne e]
theorem and1 (x : Int) (h0 : 0 ≤ x) (h1 : x < 9223372036854775808) : bits .and .i64 x 1 = x % 2 := by
  have h := i64_and_mask 1 (by decide) x h0 h1
  rw [show (2 : Int) ^ 1 - 1 = 1 from by decide, show (2 : Int) ^ 1 = 2 from by decide] at h
  exact h
theorem bits_split (Z : List Int) (k : Nat) (hk : k < Z.length) : bitsL Z = bitsL (Z.take k) ++ (code1 (Z.getD k 0) ++ bitsL (Z.drop (k + 1))) := by
  have e : Z.drop k = Z.getD k 0 :: Z.drop (k + 1) := by
    rw [List.drop_eq_getElem_cons hk]
    simp [List.getD, List.getElem?_eq_getElem hk]
  have h := bitsL_append (Z.take k) (Z.drop k)
  rw [List.take_append_drop, e, bitsL_cons] at h
  exact h
/-- How many bits the first bytes have. -/
def upTo (Z : List Int) (k : Nat) : Nat := (bitsL (Z.take k)).length
theorem upTo_succ (Z : List Int) (k : Nat) (hk : k < Z.length) : upTo Z (k + 1) = upTo Z k + (code1 (Z.getD k 0)).length := by
  unfold upTo
  rw [bitsL_take Z k _ hk rfl, List.length_append]
theorem upTo_le (Z : List Int) (k : Nat) (hk : k < Z.length) : upTo Z k + (code1 (Z.getD k 0)).length ≤ (bitsL Z).length := by
  have h := congrArg List.length (bits_split Z k hk)
  rw [List.length_append, List.length_append] at h
  unfold upTo; omega
theorem upTo_all (Z : List Int) (n : Nat) (h : Z.length = n) : upTo Z n = (bitsL Z).length := by
  unfold upTo; rw [List.take_of_length_le (by omega)]
theorem bits_at (Z : List Int) (k j : Nat) (hk : k < Z.length) (hj : j < (code1 (Z.getD k 0)).length) : (bitsL Z).getD (upTo Z k + j) 0 = (code1 (Z.getD k 0)).getD j 0 := by
  have h := bits_split Z k hk
  unfold upTo
  generalize code1 (Z.getD k 0) = K at *
  rw [h, List.getD, List.getElem?_append_right (by omega), Nat.add_sub_cancel_left, List.getElem?_append_left hj]
  rfl
/-- A bit of a byte's spelling, as the program asks for it. -/
theorem word_bit (c : Int) (h0 : 0 ≤ c) (h1 : c < 256) (j : Nat) (hj : j < (code1 c).length) : bits .and .i64 (word c / 2 ^ ((code1 c).length - 1 - j)) 1 = (code1 c).getD j 0 := by
  have hw := word_bd c h0 h1
  have hp := two_pos ((code1 c).length - 1 - j)
  have d0 : 0 ≤ word c / 2 ^ ((code1 c).length - 1 - j) := Int.ediv_nonneg hw.1 (by omega)
  have d1 : word c / 2 ^ ((code1 c).length - 1 - j) ≤ word c := Int.ediv_le_self _ hw.1
  rw [and1 _ d0 (by omega), ← bin_at (code1 c).length (word c) j hj, word_code c h0 h1]
set_option maxRecDepth 100000 in
set_option maxHeartbeats 4000000 in
theorem enc_any : EncSaid := by
  intro s w hs
  have HN : Hid (∀ k, k < s.size → ∀ h, ((s[k]'h).toNat : Int) = (nums s).getD k 0) := s_at s
  have HB : Hid (∀ k, 0 ≤ (nums s).getD k 0 ∧ (nums s).getD k 0 < 256) := s_byte s
  have HBits := bits_any s
  have HAll : Hid (bytesF (bitsL (nums s)) (((bitsL (nums s)).length + 7) / 8) (bitsL (nums s)).length = codeL (nums s)) := bytesF_all _
  have HCl : Hid ((codeL (nums s)).length = ((bitsL (nums s)).length + 7) / 8) := code_len _
  have hT := (bitsL_len (nums s)).2
  have hln := s_len s
  rw [hln] at hT
  have HZb : Hid (∀ y ∈ bitsL (nums s), y = 0 ∨ y = 1) := bitsL_bit _
  have HU0 : Hid (upTo (nums s) 0 = 0) := rfl
  have HU1 : Hid (∀ k, k < s.size → upTo (nums s) (k + 1) = upTo (nums s) k + (code1 ((nums s).getD k 0)).length) := fun k hk => upTo_succ _ k (by omega)
  have HU2 : Hid (∀ k, k < s.size → upTo (nums s) k + (code1 ((nums s).getD k 0)).length ≤ (bitsL (nums s)).length) := fun k hk => upTo_le _ k (by omega)
  have HU3 : Hid (upTo (nums s) s.size = (bitsL (nums s)).length) := upTo_all _ _ hln
  have HU4 : Hid (∀ k j, k < s.size → j < (code1 ((nums s).getD k 0)).length → (bitsL (nums s)).getD (upTo (nums s) k + j) 0 = (code1 ((nums s).getD k 0)).getD j 0) := fun k j hk hj => bits_at _ k j (by omega) hj
  clear hln
  generalize codeL (nums s) = C at *
  generalize bitsL (nums s) = B at *
  generalize upTo (nums s) = U at *
  generalize nums s = Z at *
  obtain ⟨T, hTT⟩ : ∃ T, B.length = T := ⟨_, rfl⟩
  obtain ⟨N, hNN⟩ : ∃ N, (T + 7) / 8 = N := ⟨_, rfl⟩
  rw [hTT] at hT HU3 HU2 HBits
  rw [hTT, hNN] at HAll HCl
  have hNb : N ≤ 237494511599617 := by omega
  have hTN : T ≤ 8 * N := by omega
  have hq8 : ((T : Int) + 7) / 8 = (N : Int) := by omega
  have HZ1 : Hid (∀ t, t < T → B.getD t 0 = 1 → bytesF B N (t + 1) = bytesF B N t) := fun t ht h1 => bytesF_one B N t (by omega) (by omega) h1
  have HZ0 : Hid (∀ t, t < T → B.getD t 0 = 0 → bytesF B N (t + 1) = (bytesF B N t).set (t / 8) (bits .andNot .u8 ((bytesF B N t).getD (t / 8) 0) (128 / 2 ^ (t % 8)))) := fun t ht h1 => bytesF_zero B HZb.out N t (by omega) (by omega) h1
  have HZB : Hid (∀ t j, 0 ≤ (bytesF B N t).getD j 0 ∧ (bytesF B N t).getD j 0 < 256) := fun t j => bytesF_byte B HZb.out N t j
  have HZN : Hid (bytesF B N 0 = List.replicate N 255) := bytesF_none B N
  have HBit : Hid (∀ t, B.getD t 0 = 0 ∨ B.getD t 0 = 1) := bit_getD B HZb.out
  generalize bytesF B N = F at *
  go_enter Tryd.func34, Tryd.ntmps34
  go_wp2_with fail
  refine (HBits _ (by omega)).mono ?_
  rintro _ w1 ⟨rfl, hb1⟩
  have hc1 : w1.cell? ⟨w.heap.size, 0, none⟩ = some (.int .u8 255) := by
    rw [hb1.cell (p := ⟨w.heap.size, 0, none⟩) (by simp)]
    exact cell_one_new _ _ _ 0 _ rfl
  have hB1 : Below w.heap.size w w1 := ((Below.refl _ w).alloc (Nat.le_refl _) _).trans (hb1.mono (by simp))
  have hz1 := hB1.size
  clear hb1
  go_wp2_with fail
  refine (rep_any w.heap.size N w1 (by omega) hc1).mono ?_
  rintro _ w2 ⟨h, rfl, hh, hblk, hb2⟩
  have hB2 : Below w.heap.size w w2 := hB1.trans (hb2.mono (by omega))
  have hW2 := Wr.of_blk hblk
  rw [← HZN.out] at hW2
  have hwh : w.heap.size ≤ h := by omega
  clear hblk hb2 hc1 hB1
  go_wp2_with fail
  go_loopw [4, 17] (fun p i wr => ∃ k : Nat, i = .int .i64 k ∧ k ≤ s.size ∧ p = .int .i64 (U k) ∧ Wr wr h N (F (U k)) ∧ Below w.heap.size w wr) (fun _ i _ => s.size - (intOf i).toNat)
  case atStart => exact ⟨0, rfl, by omega, by rw [HU0.out]; rfl, by rw [HU0.out]; exact hW2, hB2⟩
  case round =>
    obtain ⟨k, rfl, hk, rfl, hW, hbel⟩ := hrel
    by_cases hlt : k < s.size
    · have hix := HN.out k hlt
      obtain ⟨c0, c1⟩ := HB.out k
      have HE1 : Hid (U (k + 1) = U k + (code1 (Z.getD k 0)).length) := HU1.out k hlt
      have hle := HU2.out k hlt
      have HE4 : Hid (∀ j, j < (code1 (Z.getD k 0)).length → B.getD (U k + j) 0 = (code1 (Z.getD k 0)).getD j 0) := fun j hj => HU4.out k j hlt hj
      generalize Z.getD k 0 = c at *
      have hsp := fun W => spell_any c c0 c1 W
      have HWB : Hid (∀ j, j < (code1 c).length → bits .and .i64 (word c / 2 ^ ((code1 c).length - 1 - j)) 1 = B.getD (U k + j) 0) := fun j hj => by rw [HE4.out j hj]; exact word_bit c c0 c1 j hj
      have hCl : (code1 c).length ≤ 9 := by rw [code1_len]; split <;> omega
      obtain ⟨x0, x1⟩ := word_bd c c0 c1
      clear HE4
      generalize (code1 c).length = L at *
      generalize word c = x at *
      generalize U k = u at *
      go_wp2_with fail
      refine (hsp _).mono ?_
      rintro _ _ ⟨rfl, rfl⟩
      go_wp2_with fail
      go_loopw [4, 28] (fun p i wq => ∃ m : Nat, i = .int .i64 m ∧ m ≤ L ∧ p = .int .i64 ((u + m : Nat) : Int) ∧ Wr wq h N (F (u + m)) ∧ Below w.heap.size w wq) (fun _ i _ => L - (intOf i).toNat)
      case atStart => exact ⟨0, rfl, by omega, rfl, hW, hbel⟩
      case round =>
        obtain ⟨m, rfl, hm, rfl, hWq, hbq⟩ := hrel
        by_cases hml : m < L
        · have hwb := HWB.out m hml
          rcases HBit.out (u + m) with h0 | h1
          · rw [h0] at hwb
            have ht8 : (u + m) / 8 < N := by omega
            have hcell : wr.drew.cell? ⟨h, (u + m) / 8, none⟩ = some (.int .u8 ((F (u + m)).getD ((u + m) / 8) 0)) := hWq.hcell _ ht8
            have hfroz : wr.drew.frozen? ⟨h, (u + m) / 8, none⟩ = false := hWq.hfroz _ ht8
            have HF : Hid (F (u + m + 1) = (F (u + m)).set ((u + m) / 8) (bits .andNot .u8 ((F (u + m)).getD ((u + m) / 8) 0) (128 / 2 ^ ((u + m) % 8)))) := HZ0.out (u + m) (by omega) h0
            have hWs := (hWq.drew).set ((u + m) / 8) ht8 (bits .andNot .u8 ((F (u + m)).getD ((u + m) / 8) 0) (128 / 2 ^ ((u + m) % 8)))
            rw [← HF.out] at hWs
            have HWs : Hid (Wr _ _ _ _) := hWs
            obtain ⟨d0, d1⟩ := HZB.out (u + m) ((u + m) / 8)
            clear hWs HF
            generalize (F (u + m)).getD ((u + m) / 8) 0 = d at *
            go_wp2_with fail
            go_region
            go_wp2
            go_roundw
            case rel => exact ⟨m + 1, by go_num, by omega, by go_num, by rw [← Nat.add_assoc]; exact HWs.out, (hbq.setCell (p := ⟨h, (u + m) / 8, none⟩) hwh _).drew⟩
            case measure => simp [intOf]; omega
          · rw [h1] at hwb
            have HF : Hid (F (u + m + 1) = F (u + m)) := HZ1.out (u + m) (by omega) h1
            go_wp2
            go_roundw
            case rel => exact ⟨m + 1, by go_num, by omega, by go_num, by rw [← Nat.add_assoc, HF.out]; exact hWq, hbq⟩
            case measure => simp [intOf]; omega
        · have e : m = L := by omega
          subst e
          go_wp2
          go_roundw
          case rel => exact ⟨k + 1, by go_num, by omega, by rw [HE1.out], by rw [HE1.out]; exact hWq, hbq⟩
          case measure => simp [intOf]; omega
    · have e : k = s.size := by omega
      subst e
      rw [HU3.out, HAll.out] at hW
      go_wp2
      go_ret
      refine ⟨_, rfl, ⟨rfl, Or.inr ⟨h, N, by rw [HCl.out]; rfl, hwh, ?_⟩⟩, hbel⟩
      rw [HCl.out]
      refine ⟨HCl.out, Nat.le_refl _, by unfold maxLen; omega, fun t ht => ?_, fun t => ?_⟩
      · rw [Nat.zero_add]; exact hW.hcell t ht
      · rw [← HAll.out]; exact HZB.out T t
end Go.Proofs.YtkjfhgoddhigmacDoor
