/-
  FRAMES AS BYTES, and bytes as frames: mathematics. No claim by itself.
-/
import Derived.Test.YtdlaaollamgplagGreatDoorMath2
namespace Go.Proofs.YtdlaaollamgplagGreatDoor
open Go
/-- A frame: its kind, flags, stream, body. -/
abbrev Frm := Int × Int × Int × List Int
/-- A frame's bytes. -/
def frmL (f : Frm) : List Int := bigL 3 f.2.2.2.length ++ ([f.1, f.2.1] ++ (bigL 4 f.2.2.1 ++ f.2.2.2))
/-- What is wrong with a frame that is to be said: 0, or the fault. -/
def frmE (f : Frm) : Int := if f.1 < 0 ∨ 255 < f.1 ∨ f.2.1 < 0 ∨ 255 < f.2.1 ∨ f.2.2.1 < 0 ∨ 2147483647 < f.2.2.1 then 1 else if 1024 < f.2.2.2.length then 4 else 0
def fr0 : Frm := (0, 0, 0, [])
/-- The frame that bytes begin with: the frame, how many bytes, the fault. -/
def rdF (Z : List Int) : Frm × Int × Int :=
  if Z.length < 9 then (fr0, 0, 8) else if 1024 < word (Z.take 3) then (fr0, 0, 4) else if 2147483647 < word ((Z.drop 5).take 4) then (fr0, 0, 10)
  else if (Z.length : Int) - 9 < word (Z.take 3) then (fr0, 0, 8) else ((Z.getD 3 0, Z.getD 4 0, word ((Z.drop 5).take 4), (Z.drop 9).take (word (Z.take 3)).toNat), 9 + word (Z.take 3), 0)
theorem word_big3 (n : Int) (h0 : 0 ≤ n) (h1 : n < 16777216) : word (bigL 3 n) = n := by
  simp [word, bigL]; omega
theorem word_big4 (n : Int) (h0 : 0 ≤ n) (h1 : n < 4294967296) : word (bigL 4 n) = n := by
  simp [word, bigL]; omega
theorem frm_len (f : Frm) : (frmL f).length = 9 + f.2.2.2.length := by
  unfold frmL
  simp only [List.length_append, bigL_len, List.length_cons, List.length_nil]
  omega
/-- WHAT IS SAID IS HEARD, whatever stands behind. -/
theorem rd_frm (f : Frm) (R : List Int) (h : frmE f = 0) : rdF (frmL f ++ R) = (f, ((9 + f.2.2.2.length : Nat) : Int), 0) := by
  obtain ⟨k, fl, st, B⟩ := f
  unfold frmE at h
  simp only at h
  split at h
  · simp at h
  · rename_i h1
    split at h
    · simp at h
    · rename_i h2
      have hl : (frmL (k, fl, st, B) ++ R).length = 9 + B.length + R.length := by rw [List.length_append, frm_len]
      have e1 : frmL (k, fl, st, B) ++ R = bigL 3 B.length ++ ([k, fl] ++ (bigL 4 st ++ (B ++ R))) := by unfold frmL; simp
      have t3 : (frmL (k, fl, st, B) ++ R).take 3 = bigL 3 B.length := by rw [e1]; exact List.take_left' (bigL_len 3 _)
      have d3 : (frmL (k, fl, st, B) ++ R).drop 3 = [k, fl] ++ (bigL 4 st ++ (B ++ R)) := by rw [e1]; exact List.drop_left' (bigL_len 3 _)
      have d5 : (frmL (k, fl, st, B) ++ R).drop 5 = bigL 4 st ++ (B ++ R) := by
        rw [show (5 : Nat) = 3 + 2 from rfl, ← List.drop_drop, d3]; rfl
      have d9 : (frmL (k, fl, st, B) ++ R).drop 9 = B ++ R := by
        rw [show (9 : Nat) = 5 + 4 from rfl, ← List.drop_drop, d5]; exact List.drop_left' (bigL_len 4 _)
      have g3 : (frmL (k, fl, st, B) ++ R).getD 3 0 = k := by
        have : (frmL (k, fl, st, B) ++ R)[3]? = ((frmL (k, fl, st, B) ++ R).drop 3)[0]? := by rw [List.getElem?_drop]
        rw [List.getD, this, d3]; rfl
      have g4 : (frmL (k, fl, st, B) ++ R).getD 4 0 = fl := by
        have : (frmL (k, fl, st, B) ++ R)[4]? = ((frmL (k, fl, st, B) ++ R).drop 3)[1]? := by rw [List.getElem?_drop]
        rw [List.getD, this, d3]; rfl
      have w3 : word ((frmL (k, fl, st, B) ++ R).take 3) = B.length := by rw [t3]; exact word_big3 _ (by omega) (by omega)
      have w4 : word (((frmL (k, fl, st, B) ++ R).drop 5).take 4) = st := by rw [d5, List.take_left' (bigL_len 4 _)]; exact word_big4 _ (by omega) (by omega)
      unfold rdF
      rw [if_neg (by omega), w3, if_neg (by omega), w4, if_neg (by omega), if_neg (by omega), g3, g4, d9, Int.toNat_natCast, List.take_left]
      simp
/-- Cut off anywhere, it is not whole. -/
theorem rd_cut (f : Frm) (j : Nat) (h : frmE f = 0) (hj : j < (frmL f).length) : rdF ((frmL f).take j) = (fr0, 0, 8) := by
  by_cases h9 : j < 9
  · unfold rdF
    rw [if_pos (by rw [List.length_take]; omega)]
  · have hr := rd_frm f [] h
    rw [List.append_nil] at hr
    have hlen := frm_len f
    have hl : ((frmL f).take j).length = j := by rw [List.length_take]; omega
    have e3 : ((frmL f).take j).take 3 = (frmL f).take 3 := by rw [List.take_take, Nat.min_eq_left (by omega)]
    have e5 : (((frmL f).take j).drop 5).take 4 = ((frmL f).drop 5).take 4 := by rw [List.drop_take, List.take_take, Nat.min_eq_left (by omega)]
    unfold rdF at hr ⊢
    rw [e3, e5, hl]
    split at hr
    · rename_i q; omega
    · split at hr
      · simp at hr
      · rename_i q1
        split at hr
        · simp at hr
        · rename_i q2
          split at hr
          · simp at hr
          · simp only [Prod.mk.injEq] at hr
            have hn : 9 + word ((frmL f).take 3) = ((9 + f.2.2.2.length : Nat) : Int) := hr.2.1
            rw [if_neg h9, if_neg q1, if_neg q2, if_pos (by omega)]
theorem big_word3 (a b c : Int) (ha : 0 ≤ a ∧ a < 256) (hb : 0 ≤ b ∧ b < 256) (hc : 0 ≤ c ∧ c < 256) : bigL 3 (word [a, b, c]) = [a, b, c] := by
  simp only [word, bigL, List.foldl_cons, List.foldl_nil]
  simp only [List.cons.injEq, and_true]
  refine ⟨?_, ?_, ?_⟩ <;> omega
theorem big_word4 (a b c d : Int) (ha : 0 ≤ a ∧ a < 256) (hb : 0 ≤ b ∧ b < 256) (hc : 0 ≤ c ∧ c < 256) (hd : 0 ≤ d ∧ d < 256) : bigL 4 (word [a, b, c, d]) = [a, b, c, d] := by
  simp only [word, bigL, List.foldl_cons, List.foldl_nil]
  simp only [List.cons.injEq, and_true]
  refine ⟨?_, ?_, ?_, ?_⟩ <;> omega
theorem cons_of {Z : List Int} (h : 0 < Z.length) : ∃ z R, Z = z :: R := by
  cases Z with
  | nil => simp at h
  | cons z R => exact ⟨z, R, rfl⟩
theorem nine (Z : List Int) (h : 9 ≤ Z.length) : ∃ z0 z1 z2 z3 z4 z5 z6 z7 z8 R, Z = z0 :: z1 :: z2 :: z3 :: z4 :: z5 :: z6 :: z7 :: z8 :: R := by
  obtain ⟨z0, Z, rfl⟩ := cons_of (Z := Z) (by omega)
  rw [List.length_cons] at h
  obtain ⟨z1, Z, rfl⟩ := cons_of (Z := Z) (by omega)
  rw [List.length_cons] at h
  obtain ⟨z2, Z, rfl⟩ := cons_of (Z := Z) (by omega)
  rw [List.length_cons] at h
  obtain ⟨z3, Z, rfl⟩ := cons_of (Z := Z) (by omega)
  rw [List.length_cons] at h
  obtain ⟨z4, Z, rfl⟩ := cons_of (Z := Z) (by omega)
  rw [List.length_cons] at h
  obtain ⟨z5, Z, rfl⟩ := cons_of (Z := Z) (by omega)
  rw [List.length_cons] at h
  obtain ⟨z6, Z, rfl⟩ := cons_of (Z := Z) (by omega)
  rw [List.length_cons] at h
  obtain ⟨z7, Z, rfl⟩ := cons_of (Z := Z) (by omega)
  rw [List.length_cons] at h
  obtain ⟨z8, Z, rfl⟩ := cons_of (Z := Z) (by omega)
  exact ⟨_, _, _, _, _, _, _, _, _, _, rfl⟩
/-- What bytes are read as is said as these. -/
theorem frm_rd (Z : List Int) (f : Frm) (u : Int) (hb : ∀ x ∈ Z, 0 ≤ x ∧ x < 256) (h : rdF Z = (f, u, 0)) : frmL f = Z.take u.toNat ∧ frmE f = 0 ∧ 9 ≤ u ∧ u ≤ Z.length ∧ u = 9 + f.2.2.2.length := by
  unfold rdF at h
  split at h
  · simp at h
  · rename_i q0
    split at h
    · simp at h
    · rename_i q1
      split at h
      · simp at h
      · rename_i q2
        split at h
        · simp at h
        · rename_i q3
          simp only [Prod.mk.injEq, and_true] at h
          obtain ⟨rfl, rfl⟩ := h
          obtain ⟨z0, z1, z2, z3, z4, z5, z6, z7, z8, R, rfl⟩ := nine Z (by omega)
          have b0 := hb z0 (by simp)
          have b1 := hb z1 (by simp)
          have b2 := hb z2 (by simp)
          have b3 := hb z3 (by simp)
          have b4 := hb z4 (by simp)
          have b5 := hb z5 (by simp)
          have b6 := hb z6 (by simp)
          have b7 := hb z7 (by simp)
          have b8 := hb z8 (by simp)
          have e3 : (z0 :: z1 :: z2 :: z3 :: z4 :: z5 :: z6 :: z7 :: z8 :: R).take 3 = [z0, z1, z2] := rfl
          have e4 : ((z0 :: z1 :: z2 :: z3 :: z4 :: z5 :: z6 :: z7 :: z8 :: R).drop 5).take 4 = [z5, z6, z7, z8] := rfl
          have e9 : (z0 :: z1 :: z2 :: z3 :: z4 :: z5 :: z6 :: z7 :: z8 :: R).drop 9 = R := rfl
          rw [e3] at q1 q3 ⊢
          rw [e4] at q2 ⊢
          rw [e9]
          have w3 := big_word3 z0 z1 z2 b0 b1 b2
          have w4 := big_word4 z5 z6 z7 z8 b5 b6 b7 b8
          have n0 : 0 ≤ word [z0, z1, z2] := by simp [word]; omega
          have n4 : 0 ≤ word [z5, z6, z7, z8] := by simp [word]; omega
          have hR : (z0 :: z1 :: z2 :: z3 :: z4 :: z5 :: z6 :: z7 :: z8 :: R).length = R.length + 9 := by simp
          rw [hR] at q3 ⊢
          generalize word [z0, z1, z2] = n at *
          generalize word [z5, z6, z7, z8] = st at *
          obtain ⟨m, rfl⟩ := Int.eq_ofNat_of_zero_le n0
          have hm : (R.take (m : Int).toNat).length = m := by rw [Int.toNat_natCast, List.length_take]; omega
          refine ⟨?_, ?_, by omega, by omega, by show _ = 9 + (((R.take (m : Int).toNat).length : Nat) : Int); rw [hm]⟩
          · have hu : (9 + (m : Int)).toNat = 9 + m := by omega
            rw [hu]
            unfold frmL
            show bigL 3 ((R.take (m : Int).toNat).length : Int) ++ _ = _
            rw [hm, w3]
            show [z0, z1, z2] ++ ([z3, z4] ++ (bigL 4 st ++ R.take (m : Int).toNat)) = _
            rw [w4, Int.toNat_natCast, show 9 + m = m + 9 by omega]
            rfl
          · unfold frmE
            simp only
            rw [if_neg (by simp; omega), if_neg (by rw [hm]; omega)]
end Go.Proofs.YtdlaaollamgplagGreatDoor
