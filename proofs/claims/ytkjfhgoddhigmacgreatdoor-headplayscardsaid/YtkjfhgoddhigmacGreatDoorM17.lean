/-
  CONTRACT of the Go function code.Encode, for texts of at most 211106232532992 bytes. No claim by itself.
-/
import Derived.Test.YtkjfhgoddhigmacGreatDoorM16
import Derived.Test.YtkjfhgoddhigmacGreatDoorM06
import Derived.Test.YtkjfhgoddhigmacGreatDoorM07
import Derived.Test.YtkjfhgoddhigmacGreatDoorM13
import Derived.Test.YtkjfhgoddhigmacGreatDoorM15
import Derived.Test.YtkjfhgoddhigmacGreatDoorM11
namespace Go.Proofs.YtkjfhgoddhigmacGreatDoor
open Go.RowKit
/-- A row of bytes that may be written. -/
structure Wr (w : World) (g n : Nat) (L : List Int) : Prop where
  hlen : L.length = n
  hcell : ∀ t, t < n → w.cell? ⟨g, t, none⟩ = some (.int .u8 (L.getD t 0))
  hfroz : ∀ t, t < n → w.frozen? ⟨g, t, none⟩ = false
theorem Wr.of_blk {w : World} {g n : Nat} (h : Blk w g n (List.replicate n (.int .u8 255))) : Wr w g n (List.replicate n 255) := by
  obtain ⟨cur, h1, h2, h3⟩ := h
  refine ⟨by simp, fun t ht => ?_, fun t ht => ?_⟩
  · have e : cur[t]? = some (.int .u8 255) := by
      have h4 : (cur.take n)[t]? = some (.int .u8 255) := by rw [h3, List.getElem?_replicate, if_pos ht]
      rw [List.getElem?_take, if_pos ht] at h4
      exact h4
    have e2 : (List.replicate n (255 : Int)).getD t 0 = 255 := by simp [List.getD, ht]
    rw [e2]
    simp [World.cell?, h1, e]
  · simp [World.frozen?, h1]
theorem Wr.drew {w : World} {g n : Nat} {L : List Int} (h : Wr w g n L) : Wr w.drew g n L := ⟨h.hlen, h.hcell, h.hfroz⟩
theorem Wr.set {w : World} {g n : Nat} {L : List Int} (h : Wr w g n L) (q : Nat) (hq : q < n) (c : Int) : Wr (w.setCell ⟨g, q, none⟩ (.int .u8 c)) g n (L.set q c) := by
  refine ⟨by rw [List.length_set]; exact h.hlen, fun t ht => ?_, fun t ht => by rw [World.frozen?_setCell]; exact h.hfroz t ht⟩
  by_cases e : q = t
  · subst e
    rw [World.cell?_setCell_same w _ _ (h.hcell q hq)]
    have : q < L.length := by rw [h.hlen]; exact hq
    simp [List.getD, this]
  · rw [World.cell?_setCell_other w _ _ _ (by simp), h.hcell t ht]
    simp [List.getD, List.getElem?_set_ne e]
theorem and1 (x : Int) (h0 : 0 ≤ x) (h1 : x < 9223372036854775808) : bits .and .i64 x 1 = x % 2 := by
  have h := i64_and_mask 1 (by decide) x h0 h1
  rw [show (2 : Int) ^ 1 - 1 = 1 from by decide, show (2 : Int) ^ 1 = 2 from by decide] at h
  exact h
theorem bits_split (Z : List Int) (k : Nat) (hk : k < Z.length) : bitsL Z = bitsL (Z.take k) ++ (code1 (Z.getD k 0) ++ bitsL (Z.drop (k + 1))) := by
  have e : Z.drop k = Z.getD k 0 :: Z.drop (k + 1) := by
    rw [List.drop_eq_getElem_cons hk]
    simp [List.getD, List.getElem?_eq_getElem hk]
  have h := bitsL_append (Z.take k) (Z.drop k)
  rw [List.take_append_drop, e, bitsL_cons] at h
  exact h
/-- How many bits the first bytes have. -/
def upTo (Z : List Int) (k : Nat) : Nat := (bitsL (Z.take k)).length
theorem upTo_succ (Z : List Int) (k : Nat) (hk : k < Z.length) : upTo Z (k + 1) = upTo Z k + (code1 (Z.getD k 0)).length := by
  unfold upTo
  rw [bitsL_take Z k _ hk rfl, List.length_append]
theorem upTo_le (Z : List Int) (k : Nat) (hk : k < Z.length) : upTo Z k + (code1 (Z.getD k 0)).length ≤ (bitsL Z).length := by
  have h := congrArg List.length (bits_split Z k hk)
  rw [List.length_append, List.length_append] at h
  unfold upTo; omega
theorem upTo_all (Z : List Int) (n : Nat) (h : Z.length = n) : upTo Z n = (bitsL Z).length := by
  unfold upTo; rw [List.take_of_length_le (by omega)]
theorem bits_at (Z : List Int) (k j : Nat) (hk : k < Z.length) (hj : j < (code1 (Z.getD k 0)).length) : (bitsL Z).getD (upTo Z k + j) 0 = (code1 (Z.getD k 0)).getD j 0 := by
  have h := bits_split Z k hk
  unfold upTo
  generalize code1 (Z.getD k 0) = K at *
  rw [h, List.getD, List.getElem?_append_right (by omega), Nat.add_sub_cancel_left, List.getElem?_append_left hj]
  rfl
/-- A bit of a byte's spelling, as the program asks for it. -/
theorem word_bit (c : Int) (h0 : 0 ≤ c) (h1 : c < 256) (j : Nat) (hj : j < (code1 c).length) : bits .and .i64 (word c / 2 ^ ((code1 c).length - 1 - j)) 1 = (code1 c).getD j 0 := by
  have hw := word_bd c h0 h1
  have hp := two_pos ((code1 c).length - 1 - j)
  have d0 : 0 ≤ word c / 2 ^ ((code1 c).length - 1 - j) := Int.ediv_nonneg hw.1 (by omega)
  have d1 : word c / 2 ^ ((code1 c).length - 1 - j) ≤ word c := Int.ediv_le_self _ hw.1
  rw [and1 _ d0 (by omega), ← bin_at (code1 c).length (word c) j hj, word_code c h0 h1]
set_option maxRecDepth 100000 in
set_option maxHeartbeats 4000000 in
theorem enc_any : EncSaid := by
  intro s w hs
  have HN : Hid (∀ k, k < s.size → ∀ h, ((s[k]'h).toNat : Int) = (nums s).getD k 0) := s_at s
  have HB : Hid (∀ k, 0 ≤ (nums s).getD k 0 ∧ (nums s).getD k 0 < 256) := s_byte s
  have HBits := bits_any s
  have HAll : Hid (bytesF (bitsL (nums s)) (((bitsL (nums s)).length + 7) / 8) (bitsL (nums s)).length = codeL (nums s)) := bytesF_all _
  have HCl : Hid ((codeL (nums s)).length = ((bitsL (nums s)).length + 7) / 8) := code_len _
  have hT := (bitsL_len (nums s)).2
  have hln := s_len s
  rw [hln] at hT
  have HZb : Hid (∀ y ∈ bitsL (nums s), y = 0 ∨ y = 1) := bitsL_bit _
  have HU0 : Hid (upTo (nums s) 0 = 0) := rfl
  have HU1 : Hid (∀ k, k < s.size → upTo (nums s) (k + 1) = upTo (nums s) k + (code1 ((nums s).getD k 0)).length) := fun k hk => upTo_succ _ k (by omega)
  have HU2 : Hid (∀ k, k < s.size → upTo (nums s) k + (code1 ((nums s).getD k 0)).length ≤ (bitsL (nums s)).length) := fun k hk => upTo_le _ k (by omega)
  have HU3 : Hid (upTo (nums s) s.size = (bitsL (nums s)).length) := upTo_all _ _ hln
  have HU4 : Hid (∀ k j, k < s.size → j < (code1 ((nums s).getD k 0)).length → (bitsL (nums s)).getD (upTo (nums s) k + j) 0 = (code1 ((nums s).getD k 0)).getD j 0) := fun k j hk hj => bits_at _ k j (by omega) hj
  clear hln
  generalize codeL (nums s) = C at *
  generalize bitsL (nums s) = B at *
  generalize upTo (nums s) = U at *
  generalize nums s = Z at *
  obtain ⟨T, hTT⟩ : ∃ T, B.length = T := ⟨_, rfl⟩
  obtain ⟨N, hNN⟩ : ∃ N, (T + 7) / 8 = N := ⟨_, rfl⟩
  rw [hTT] at hT HU3 HU2 HBits
  rw [hTT, hNN] at HAll HCl
  have hNb : N ≤ 237494511599617 := by omega
  have hTN : T ≤ 8 * N := by omega
  have hq8 : ((T : Int) + 7) / 8 = (N : Int) := by omega
  have HZ1 : Hid (∀ t, t < T → B.getD t 0 = 1 → bytesF B N (t + 1) = bytesF B N t) := fun t ht h1 => bytesF_one B N t (by omega) (by omega) h1
  have HZ0 : Hid (∀ t, t < T → B.getD t 0 = 0 → bytesF B N (t + 1) = (bytesF B N t).set (t / 8) (bits .andNot .u8 ((bytesF B N t).getD (t / 8) 0) (128 / 2 ^ (t % 8)))) := fun t ht h1 => bytesF_zero B HZb.out N t (by omega) (by omega) h1
  have HZB : Hid (∀ t j, 0 ≤ (bytesF B N t).getD j 0 ∧ (bytesF B N t).getD j 0 < 256) := fun t j => bytesF_byte B HZb.out N t j
  have HZN : Hid (bytesF B N 0 = List.replicate N 255) := bytesF_none B N
  have HBit : Hid (∀ t, B.getD t 0 = 0 ∨ B.getD t 0 = 1) := bit_getD B HZb.out
  generalize bytesF B N = F at *
  go_enter Tryz.func60, Tryz.ntmps60
  go_wp2_with fail
  refine (HBits _ (by omega)).mono ?_
  rintro _ w1 ⟨rfl, hb1⟩
  have hc1 : w1.cell? ⟨w.heap.size, 0, none⟩ = some (.int .u8 255) := by
    rw [hb1.cell (p := ⟨w.heap.size, 0, none⟩) (by simp)]
    exact cell_one_new _ _ _ 0 _ rfl
  have hB1 : Below w.heap.size w w1 := ((Below.refl _ w).alloc (Nat.le_refl _) _).trans (hb1.mono (by simp))
  have hz1 := hB1.size
  clear hb1
  go_wp2_with fail
  refine (rep_any w.heap.size N w1 (by omega) hc1).mono ?_
  rintro _ w2 ⟨h, rfl, hh, hblk, hb2⟩
  have hB2 : Below w.heap.size w w2 := hB1.trans (hb2.mono (by omega))
  have hW2 := Wr.of_blk hblk
  rw [← HZN.out] at hW2
  have hwh : w.heap.size ≤ h := by omega
  clear hblk hb2 hc1 hB1
  go_wp2_with fail
  go_loopw [4, 17] (fun p i wr => ∃ k : Nat, i = .int .i64 k ∧ k ≤ s.size ∧ p = .int .i64 (U k) ∧ Wr wr h N (F (U k)) ∧ Below w.heap.size w wr) (fun _ i _ => s.size - (intOf i).toNat)
  case atStart => exact ⟨0, rfl, by omega, by rw [HU0.out]; rfl, by rw [HU0.out]; exact hW2, hB2⟩
  case round =>
    obtain ⟨k, rfl, hk, rfl, hW, hbel⟩ := hrel
    by_cases hlt : k < s.size
    · have hix := HN.out k hlt
      obtain ⟨c0, c1⟩ := HB.out k
      have HE1 : Hid (U (k + 1) = U k + (code1 (Z.getD k 0)).length) := HU1.out k hlt
      have hle := HU2.out k hlt
      have HE4 : Hid (∀ j, j < (code1 (Z.getD k 0)).length → B.getD (U k + j) 0 = (code1 (Z.getD k 0)).getD j 0) := fun j hj => HU4.out k j hlt hj
      generalize Z.getD k 0 = c at *
      have hsp := fun W => spell_any c c0 c1 W
      have HWB : Hid (∀ j, j < (code1 c).length → bits .and .i64 (word c / 2 ^ ((code1 c).length - 1 - j)) 1 = B.getD (U k + j) 0) := fun j hj => by rw [HE4.out j hj]; exact word_bit c c0 c1 j hj
      have hCl : (code1 c).length ≤ 9 := by rw [code1_len]; split <;> omega
      obtain ⟨x0, x1⟩ := word_bd c c0 c1
      clear HE4
      generalize (code1 c).length = L at *
      generalize word c = x at *
      generalize U k = u at *
      go_wp2_with fail
      refine (hsp _).mono ?_
      rintro _ _ ⟨rfl, rfl⟩
      go_wp2_with fail
      go_loopw [4, 28] (fun p i wq => ∃ m : Nat, i = .int .i64 m ∧ m ≤ L ∧ p = .int .i64 ((u + m : Nat) : Int) ∧ Wr wq h N (F (u + m)) ∧ Below w.heap.size w wq) (fun _ i _ => L - (intOf i).toNat)
      case atStart => exact ⟨0, rfl, by omega, rfl, hW, hbel⟩
      case round =>
        obtain ⟨m, rfl, hm, rfl, hWq, hbq⟩ := hrel
        by_cases hml : m < L
        · have hwb := HWB.out m hml
          rcases HBit.out (u + m) with h0 | h1
          · rw [h0] at hwb
            have ht8 : (u + m) / 8 < N := by omega
            have hcell : wr.drew.cell? ⟨h, (u + m) / 8, none⟩ = some (.int .u8 ((F (u + m)).getD ((u + m) / 8) 0)) := hWq.hcell _ ht8
            have hfroz : wr.drew.frozen? ⟨h, (u + m) / 8, none⟩ = false := hWq.hfroz _ ht8
            have HF : Hid (F (u + m + 1) = (F (u + m)).set ((u + m) / 8) (bits .andNot .u8 ((F (u + m)).getD ((u + m) / 8) 0) (128 / 2 ^ ((u + m) % 8)))) := HZ0.out (u + m) (by omega) h0
            have hWs := (hWq.drew).set ((u + m) / 8) ht8 (bits .andNot .u8 ((F (u + m)).getD ((u + m) / 8) 0) (128 / 2 ^ ((u + m) % 8)))
            rw [← HF.out] at hWs
            have HWs : Hid (Wr _ _ _ _) := hWs
            obtain ⟨d0, d1⟩ := HZB.out (u + m) ((u + m) / 8)
            clear hWs HF
            generalize (F (u + m)).getD ((u + m) / 8) 0 = d at *
            go_wp2_with fail
            go_region
            go_wp2
            go_roundw
            case rel => exact ⟨m + 1, by go_num, by omega, by go_num, by rw [← Nat.add_assoc]; exact HWs.out, (hbq.setCell (p := ⟨h, (u + m) / 8, none⟩) hwh _).drew⟩
            case measure => simp [intOf]; omega
          · rw [h1] at hwb
            have HF : Hid (F (u + m + 1) = F (u + m)) := HZ1.out (u + m) (by omega) h1
            go_wp2
            go_roundw
            case rel => exact ⟨m + 1, by go_num, by omega, by go_num, by rw [← Nat.add_assoc, HF.out]; exact hWq, hbq⟩
            case measure => simp [intOf]; omega
        · have e : m = L := by omega
          subst e
          go_wp2
          go_roundw
          case rel => exact ⟨k + 1, by go_num, by omega, by rw [HE1.out], by rw [HE1.out]; exact hWq, hbq⟩
          case measure => simp [intOf]; omega
    · have e : k = s.size := by omega
      subst e
      rw [HU3.out, HAll.out] at hW
      go_wp2
      go_ret
      refine ⟨_, rfl, ⟨rfl, Or.inr ⟨h, N, by rw [HCl.out]; rfl, hwh, ?_⟩⟩, hbel⟩
      rw [HCl.out]
      refine ⟨HCl.out, Nat.le_refl _, by unfold maxLen; omega, fun t ht => ?_, fun t => ?_⟩
      · rw [Nat.zero_add]; exact hW.hcell t ht
      · rw [← HAll.out]; exact HZB.out T t
end Go.Proofs.YtkjfhgoddhigmacGreatDoor
/-
  WHAT IS ASKED of package head's Text and ReadText. No claim by itself.
-/
namespace Go.Proofs.YtkjfhgoddhigmacGreatDoor
open Go.RowKit
/-- An error as the program tells it: nil, or an Errno. -/
def Err (k : Int) (x : Value) : Prop := (k = 0 ∧ x = .nilIface) ∨ (k ≠ 0 ∧ x = .iface 53 (.int .i64 k))
def HReadSaid : Prop := ∀ (a : Option Addr) (len cap : Nat) (Z : List Int) (w : World), Arg w a len cap Z → len ≤ 140737488351232 →
    Calls Tryz.prog 81 #[.slice a len cap] w fun e w' => Below w.heap.size w w' ∧ ∃ x, e = .returned (.tuple #[.string (strOfNums (rtF Z).1), .int .i64 (rtF Z).2.1, x]) ∧ Err (rtF Z).2.2 x
end Go.Proofs.YtkjfhgoddhigmacGreatDoor
/-
  CONTRACTS of the Go functions head.put, head.tooLong, head.text and head.Text. No claim by itself.
-/
namespace Go.Proofs.YtkjfhgoddhigmacGreatDoor
open Go.RowKit
set_option maxRecDepth 100000
theorem hput_any (n b f : Int) (w : World) (hok : putOk n b f) :
    Calls Tryz.prog 41 #[.int .i64 n, .int .i64 b, .int .i64 f] w fun e w' => ∃ g cap, e = .returned (.slice (some ⟨g, 0, none⟩) (putL n b f).length cap) ∧ w'.ownsRow w.heap.size 5 1 (.slice (some ⟨g, 0, none⟩) (putL n b f).length cap) (putL n b f).length ((putL n b f).map (Value.int .u8)) ∧ Below w.heap.size w w' := by
  have hp := put_yes n b f w hok
  have hl := putL_len n b f
  generalize putL n b f = P at *
  go_enter Tryz.func41, Tryz.ntmps41
  go_wp2_with fail
  refine hp.mono ?_
  rintro e w1 ⟨g, cap, rfl, hown, hb⟩
  have HO := hide hown
  clear hown hp
  go_wp2
  go_ret
  exact ⟨g, cap, rfl, HO.out, hb⟩
theorem htoo_any (s : ByteArray) (w : World) : Calls Tryz.prog 40 #[.string s] w fun e w' => e = .returned (.bool (decide (400 < (s.size : Int)))) ∧ w = w' := by
  go_enter Tryz.func40, Tryz.ntmps40
  go_wp2
  go_ret
  exact ⟨rfl, rfl⟩
set_option maxHeartbeats 4000000 in
theorem htxt_any (s : ByteArray) (w : World) (hle : s.size ≤ 400) :
    Calls Tryz.prog 44 #[.string s] w fun e w' => ∃ g cap, e = .returned (.slice (some ⟨g, 0, none⟩) (txtL (nums s)).length cap) ∧ w'.ownsRow w.heap.size 5 1 (.slice (some ⟨g, 0, none⟩) (txtL (nums s)).length cap) (txtL (nums s)).length ((txtL (nums s)).map (Value.int .u8)) ∧ Below w.heap.size w w' := by
  obtain ⟨i0, hi, hz0, hz1, hz2⟩ := info_parts info5
  have hn := nums_len s
  have hTl := (txt_len (nums s) (by omega)).1
  obtain ⟨cap0, w0, hcv, hb0, hl0, hrow0⟩ := conv_bytes s w (by omega)
  have s0 := hb0.size
  have henc := enc_any s w0 (by omega)
  have HR0 := hide hrow0
  clear hrow0
  by_cases hlt : (codeL (nums s)).length < s.size
  · have hT : Hid (txtL (nums s) = putL (codeL (nums s)).length 7 128 ++ codeL (nums s)) := by
      show txtL (nums s) = _
      unfold txtL; rw [if_pos (by omega)]
    have hd : decide (((codeL (nums s)).length : Int) < (s.size : Int)) = true := by simp; omega
    have hC1 : 1 ≤ (codeL (nums s)).length := by
      have h1 := code_len (nums s)
      have h2 := (bitsL_len (nums s)).1
      omega
    generalize txtL (nums s) = T at *
    have hpl := putL_len ((codeL (nums s)).length : Int) 7 128
    have hok : putOk ((codeL (nums s)).length : Int) 7 128 := ⟨by omega, by omega, by decide, by decide, by decide, by decide, by decide⟩
    generalize codeL (nums s) = C at *
    go_enter Tryz.func44, Tryz.ntmps44
    go_wp2_with fail
    refine henc.mono ?_
    rintro e w1 ⟨v, rfl, hm, hb1⟩
    obtain ⟨a1, cap1, rfl, hc1, hx1⟩ := slice_made hm
    have s1 := hb1.size
    have HM := hide hm
    clear hm henc
    go_wp2_with fail
    refine (hput_any (C.length : Int) 7 128 w1 hok).mono ?_
    rintro e w2 ⟨g2, cap2, rfl, hown2, hb2⟩
    have HM2 := hide (HM.out.below hb2)
    have s2 := hb2.size
    have hB := (hb0.trans (hb1.mono s0)).trans (hb2.mono (by omega))
    have HO2 := hide (own_mono (base' := w.heap.size) hown2 (by omega))
    clear hown2
    generalize putL (C.length : Int) 7 128 = P at *
    obtain ⟨g1, rfl, hr1⟩ : ∃ g1, a1 = some ⟨g1, 0, none⟩ ∧ Row w2 g1 0 C.length cap1 C := by
      obtain ⟨_, ⟨_, h2⟩ | ⟨g1, c1, h1, _, h2⟩⟩ := HM2.out
      · omega
      · cases h1; exact ⟨g1, rfl, h2⟩
    have HR1 := hide hr1
    clear hr1
    go_wp2_with (at_builtin; refine wpList_append_own _ rfl _ _ 35 rfl w.heap.size 5 i0 _ 1 1 Tryz.underlying35 hi hz0 hz1 hz2 rfl (by decide) _ _ _ rfl HO2.out ⟨g1, 0, none⟩ C.length cap1 (C.map (Value.int .u8)) rfl (by simp) (row_news HR1.out) (one_bytes C) ?c3 ?c4 ?c5 ?_)
    case c3 => unfold maxLen; omega
    case c4 => omega
    case c5 => omega
    intro v' w3 hown' hgrow _
    have hb3 : Below w.heap.size w w3 := hB.grown hgrow (by omega) (fun k hk => (HO2.out.lt k hk).1)
    have hown2 : w3.ownsRow w.heap.size 5 1 v' T.length (T.map (Value.int .u8)) := by
      rw [hT.out, List.length_append, List.map_append]; exact hown'
    obtain ⟨g, cap, rfl⟩ := shape_n hown2 hTl
    have H3 := hide hown2
    clear hown' hown2 hgrow
    go_wp2
    go_ret
    exact ⟨g, cap, rfl, H3.out, hb3⟩
  · have hT : Hid (txtL (nums s) = putL s.size 7 0 ++ nums s) := by
      show txtL (nums s) = _
      unfold txtL; rw [if_neg (by omega), hn]
    have hd : decide (((codeL (nums s)).length : Int) < (s.size : Int)) = false := by simp; omega
    generalize txtL (nums s) = T at *
    have hpl := putL_len (s.size : Int) 7 0
    have hok : putOk (s.size : Int) 7 0 := ⟨by omega, by omega, by decide, by decide, by decide, by decide, by decide⟩
    generalize codeL (nums s) = C at *
    go_enter Tryz.func44, Tryz.ntmps44
    go_wp2_with fail
    refine henc.mono ?_
    rintro e w1 ⟨v, rfl, hm, hb1⟩
    obtain ⟨a1, cap1, rfl, hc1, hx1⟩ := slice_made hm
    have s1 := hb1.size
    have HR1 := hide (HR0.out.below hb1)
    clear hm henc HR0
    go_wp2_with fail
    refine (hput_any (s.size : Int) 7 0 w1 hok).mono ?_
    rintro e w2 ⟨g2, cap2, rfl, hown2, hb2⟩
    have HR2 := hide (HR1.out.below hb2)
    have s2 := hb2.size
    have hB := (hb0.trans (hb1.mono s0)).trans (hb2.mono (by omega))
    have HO2 := hide (own_mono (base' := w.heap.size) hown2 (by omega))
    clear hown2
    generalize putL (s.size : Int) 7 0 = P at *
    go_wp2_with (at_builtin; refine wpList_append_own _ rfl _ _ 35 rfl w.heap.size 5 i0 _ 1 1 Tryz.underlying35 hi hz0 hz1 hz2 rfl (by decide) _ _ _ rfl HO2.out ⟨w.heap.size, 0, none⟩ s.size cap0 ((nums s).map (Value.int .u8)) rfl (by simp [nums_len]) (row_news HR2.out) (one_bytes (nums s)) ?c3 ?c4 ?c5 ?_)
    case c3 => unfold maxLen; omega
    case c4 => omega
    case c5 => omega
    intro v' w3 hown' hgrow _
    have hb3 : Below w.heap.size w w3 := hB.grown hgrow (by omega) (fun k hk => (HO2.out.lt k hk).1)
    have hown2 : w3.ownsRow w.heap.size 5 1 v' T.length (T.map (Value.int .u8)) := by
      rw [hT.out, List.length_append, List.map_append, hn]; exact hown'
    obtain ⟨g, cap, rfl⟩ := shape_n hown2 hTl
    have H3 := hide hown2
    clear hown' hown2 hgrow
    go_wp2
    go_ret
    exact ⟨g, cap, rfl, H3.out, hb3⟩
end Go.Proofs.YtkjfhgoddhigmacGreatDoor
