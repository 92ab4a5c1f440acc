/-
  REPLIES AS LINES, as mathematics: what is written is read as it was; cut off it is not whole. No claim by itself.
-/
import Derived.Test.YtibjbdcmhjbndaaDoorNmath4
namespace Go.Proofs.YtibjbdcmhjbndaaDoor
set_option maxRecDepth 100000
/-- A reading of some bytes, and of a beginning of them. -/
structure PzAt {α : Type} (p : Pz α) (b : List Int) (v : α) (r : List Int) : Prop where
  ok : p b = (0, v, r)
  len : r.length ≤ b.length
  cut : ∀ c, c < b.length - r.length → (p (b.take c)).1 = 8
  more : ∀ c, b.length - r.length ≤ c → (p (b.take c)).1 = 8 ∨ p (b.take c) = (0, v, r.take (c - (b.length - r.length)))
theorem PzLaw.at {α : Type} {p : Pz α} (h : PzLaw p) {b : List Int} {v : α} {r : List Int} (k : p b = (0, v, r)) : PzAt p b v r := ⟨k, h.len k, fun c => h.cut c k, fun c => h.more c k⟩
theorem at_bind {α β : Type} [Inhabited β] {p : Pz α} {f : α → Pz β} {b : List Int} {v : α} {r1 : List Int} {x : β} {r : List Int} (h1 : PzAt p b v r1) (h2 : PzAt (f v) r1 x r) : PzAt (bindP p f) b x r := by
  have l1 := h1.len
  have l2 := h2.len
  refine ⟨by rw [bindP_ok h1.ok, h2.ok], Nat.le_trans l2 l1, fun c hc => ?_, fun c hc => ?_⟩
  · by_cases hc1 : c < b.length - r1.length
    · have e := h1.cut c hc1
      rw [bindP_no (by rw [e]; omega), e]
    · rcases h1.more c (by omega) with e | e
      · rw [bindP_no (by rw [e]; omega), e]
      · rw [bindP_ok e]
        exact h2.cut _ (by omega)
  · rcases h1.more c (by omega) with e | e
    · left; rw [bindP_no (by rw [e]; omega), e]
    · rw [bindP_ok e]
      rcases h2.more (c - (b.length - r1.length)) (by omega) with e2 | e2
      · exact Or.inl e2
      · right
        rw [e2]
        congr 3
        omega
theorem unch_ok {s : Nat} (hs : 1 ≤ s) (B X : List Int) (hB : B.length ≤ 8000) : unchP (chunkL s B ++ X) = (0, B, X) := by
  unfold unchP
  rw [unF_chunk hs B.length B [] X _ (Nat.le_refl _) (by simpa using hB) (by omega)]
  simp
theorem unch_at {s : Nat} (hs : 1 ≤ s) (B : List Int) (hB : B.length ≤ 8000) : PzAt unchP (chunkL s B) B [] := by
  have h0 := unch_ok hs B [] hB
  rw [List.append_nil] at h0
  refine ⟨h0, by simp, fun c hc => ?_, fun c hc => ?_⟩
  · have := unch_cut hs B hB c (by simpa using hc)
    unfold unchP
    exact congrArg Prod.fst this
  · right
    rw [List.take_of_length_le (by simpa using hc), h0]
    simp
theorem dec3 {n : Nat} (h1 : 100 ≤ n) (h2 : n ≤ 599) : decL n = [dc (n / 10 / 10), dc (n / 10 % 10), dc (n % 10)] := by
  rw [decL_more (by omega), decL_more (by omega), decL_one (by omega)]
  rfl
theorem code_say {n : Nat} (h1 : 100 ≤ n) (h2 : n ≤ 599) (X : List Int) : codeQ (decL n ++ ([13, 10] ++ X)) = (0, (n : Int), X) := by
  unfold codeQ
  rw [dec3 h1 h2]
  simp only [List.cons_append, List.nil_append]
  rw [bindP_ok (dig_say (by unfold dc; omega) _), bindP_ok (dig_say (by unfold dc; omega) _), bindP_ok (dig_say (by unfold dc; omega) _)]
  rw [show (13 :: 10 :: X : List Int) = [13, 10] ++ X from rfl, bindP_ok (mtsP_say _ _)]
  unfold retP dc
  congr 2
  omega
theorem tell_ok {a : Rp} {size : Int} (h : tellE a size = 0) : a.fields.length ≤ 40 ∧ a.body.length ≤ 8000 ∧ 100 ≤ a.code ∧ a.code ≤ 599 ∧ 0 ≤ size ∧ fldsE a.fields = 0 := by
  unfold tellE at h
  split at h
  · simp at h
  · split at h
    · simp at h
    · rename_i h1 h2
      exact ⟨by omega, by omega, by omega, by omega, by omega, h⟩
/-- A reply's own reading, and of a beginning of it. -/
theorem tell_at {a : Rp} {size : Int} (h : tellE a size = 0) (hn : noBody false a.code = false) (closed : Bool) : PzAt (tellP false closed) (tellL a size) a [] := by
  obtain ⟨h1, h2, h3, h4, h5, h6⟩ := tell_ok h
  obtain ⟨code, l, B⟩ := a
  simp only at h1 h2 h3 h4 h6 hn
  obtain ⟨n, rfl⟩ : ∃ n : Nat, code = n := ⟨code.toNat, by omega⟩
  have hc := code_say (n := n) (by omega) (by omega) (linesL l ++ tellTail B size)
  have e0 : tellL ⟨(n : Int), l, B⟩ size = edgeSp ++ (decL n ++ ([13, 10] ++ (linesL l ++ tellTail B size))) := by simp [tellL]
  rw [e0]
  unfold tellP
  refine at_bind ((law_mts _).at (mtsP_say _ _)) ?_
  refine at_bind (law_codeQ.at hc) ?_
  by_cases hs : size = 0
  · have hh : headP 0 true 40 [] (linesL l ++ tellTail B size) = (0, (l, (B.length : Int), false), B) := by
      rw [head_say l [] 40 _ h6 h1]
      unfold tellTail
      rw [if_pos hs, head_len (by omega) (by omega) _ _ _ (by omega) h2]
      simp
    refine at_bind ((law_head _ _ _ _).at hh) ?_
    simp only
    rw [if_neg (by rw [hn]; simp)]
    unfold bodyK
    simp only
    rw [if_neg (by simp), if_pos (by omega)]
    have hb := body_say B []
    rw [List.append_nil] at hb
    rw [show ((B.length : Int)).toNat = B.length by simp]
    exact at_bind ((law_body _).at hb) ((law_ret _).at rfl)
  · have hh : headP 0 true 40 [] (linesL l ++ tellTail B size) = (0, (l, -1, true), chunkL (if 8000 < size then 8000 else size.toNat) B) := by
      rw [head_say l [] 40 _ h6 h1]
      unfold tellTail
      rw [if_neg hs]
      have := head_cod (least := 0) (acc := [] ++ l) (40 - l.length) (chunkL (if 8000 < size then 8000 else size.toNat) B)
      rw [this]
      simp
    refine at_bind ((law_head _ _ _ _).at hh) ?_
    simp only
    rw [if_neg (by rw [hn]; simp)]
    unfold bodyK
    simp only
    rw [if_pos trivial]
    exact at_bind (unch_at (by split <;> omega) B h2) ((law_ret _).at rfl)
theorem tell_cut {a : Rp} {size : Int} (h : tellE a size = 0) (hn : noBody false a.code = false) (closed : Bool) (c : Nat) (hc : c < (tellL a size).length) : (tellP false closed ((tellL a size).take c)).1 = 8 :=
  (tell_at h hn closed).cut c (by simpa using hc)
theorem tell_say {a : Rp} {size : Int} (h : tellE a size = 0) (hn : noBody false a.code = false) (closed : Bool) (X : List Int) : tellP false closed (tellL a size ++ X) = (0, a, X) := by
  obtain ⟨h1, h2, h3, h4, h5, h6⟩ := tell_ok h
  obtain ⟨code, l, B⟩ := a
  simp only at h1 h2 h3 h4 h6 hn
  obtain ⟨n, rfl⟩ : ∃ n : Nat, code = n := ⟨code.toNat, by omega⟩
  have hc := code_say (n := n) (by omega) (by omega) (linesL l ++ (tellTail B size ++ X))
  have e0 : tellL ⟨(n : Int), l, B⟩ size ++ X = edgeSp ++ (decL n ++ ([13, 10] ++ (linesL l ++ (tellTail B size ++ X)))) := by simp [tellL]
  rw [e0]
  unfold tellP
  rw [bindP_ok (mtsP_say _ _), bindP_ok hc]
  by_cases hs : size = 0
  · have hh : headP 0 true 40 [] (linesL l ++ (tellTail B size ++ X)) = (0, (l, (B.length : Int), false), B ++ X) := by
      rw [head_say l [] 40 _ h6 h1]
      unfold tellTail
      rw [if_pos hs, List.append_assoc, head_len (by omega) (by omega) _ _ _ (by omega) h2]
      simp
    rw [bindP_ok hh]
    simp only
    rw [if_neg (by rw [hn]; simp)]
    unfold bodyK
    simp only
    rw [if_neg (by simp), if_pos (by omega)]
    rw [show ((B.length : Int)).toNat = B.length by simp, bindP_ok (body_say B X)]
    rfl
  · have hh : headP 0 true 40 [] (linesL l ++ (tellTail B size ++ X)) = (0, (l, -1, true), chunkL (if 8000 < size then 8000 else size.toNat) B ++ X) := by
      rw [head_say l [] 40 _ h6 h1]
      unfold tellTail
      rw [if_neg hs, List.append_assoc, List.append_assoc]
      have := head_cod (least := 0) (acc := [] ++ l) (40 - l.length) (chunkL (if 8000 < size then 8000 else size.toNat) B ++ X)
      rw [this]
      simp
    rw [bindP_ok hh]
    simp only
    rw [if_neg (by rw [hn]; simp)]
    unfold bodyK
    simp only
    rw [if_pos trivial, bindP_ok (unch_ok (by split <;> omega) B X h2)]
    rfl
/- how long they are -/
theorem decL_le : ∀ n : Nat, (decL n).length ≤ n + 1 := by
  intro n
  induction n using Nat.strongRecOn with
  | _ n ih =>
    by_cases h : n < 10
    · rw [decL_one h]; simp
    · rw [decL_more h]
      have := ih (n / 10) (by omega)
      simp
      omega
end Go.Proofs.YtibjbdcmhjbndaaDoor
