/-
  BODIES IN PIECES, as mathematics: what is written is read; cut off it is not whole; how long it is. No claim by itself.
-/
import Derived.Test.YtibjbdcmhjbndaaDoorUmath
namespace Go.Proofs.YtibjbdcmhjbndaaDoor
set_option maxRecDepth 100000
theorem rdN_hex (m : Int) : ∀ (n : Nat) (X : List Int), m + n ≤ 8000 → rdN m 0 0 (hexL n ++ X) = rdN m (hexL n).length n X := by
  intro n
  induction n using Nat.strongRecOn with
  | _ n ih =>
    intro X hm
    by_cases h : n < 16
    · rw [hexL_one h, List.singleton_append, rdN, if_neg (by rw [dig_hx h]; omega), if_neg (by simp), if_neg (by rw [dig_hx h]; omega), dig_hx h]
      simp
    · have h16 : n / 16 < n := by omega
      rw [hexL_more h, List.append_assoc, List.singleton_append, ih (n / 16) h16 _ (by omega)]
      have hd : n % 16 < 16 := by omega
      have hk := hexL_pos (n / 16)
      rw [rdN, if_neg (by rw [dig_hx hd]; omega), if_neg (by omega), if_neg (by rw [dig_hx hd]; omega), dig_hx hd]
      congr 1
      · simp
      · omega
theorem rdN_hex_line (m : Int) (n : Nat) (X : List Int) (hm : m + n ≤ 8000) : rdN m 0 0 (hexL n ++ 13 :: X) = (0, (n : Int), 13 :: X) := by
  have hk := hexL_pos n
  rw [rdN_hex m n _ hm, rdN, if_pos (by decide), if_neg (by omega)]
theorem pc_piece (body P X : List Int) (h : body.length + P.length ≤ 8000) : Pc body (piece P ++ X) P.length (13 :: 10 :: (P ++ 13 :: 10 :: X)) (P ++ 13 :: 10 :: X) X := by
  refine ⟨?_, mt_line _, by simp; omega, ?_⟩
  · unfold piece
    simp only [List.append_assoc, List.cons_append, List.nil_append]
    exact rdN_hex_line _ _ _ (by omega)
  · simp [mt]
theorem pc_end (body X : List Int) (h : body.length ≤ 8000) : Pc body (endL ++ X) 0 (13 :: 10 :: 13 :: 10 :: X) (13 :: 10 :: X) X := by
  refine ⟨?_, mt_line _, by simp; omega, by simp [mt]⟩
  have := rdN_hex_line body.length 0 (10 :: 13 :: 10 :: X) (by omega)
  rw [hexL_one (by omega)] at this
  exact this
theorem unF_chunk {s : Nat} (hs : 1 ≤ s) : ∀ (k : Nat) (B body X : List Int) (f : Nat), B.length ≤ k → body.length + B.length ≤ 8000 → (chunkL s B ++ X).length < f → unF f body (chunkL s B ++ X) = (0, body ++ B, X) := by
  intro k
  induction k with
  | zero =>
    intro B body X f hk hb hf
    obtain rfl : B = [] := List.eq_nil_of_length_eq_zero (by omega)
    match f with
    | 0 => omega
    | f + 1 =>
      rw [chunk_nil, unF_end (pc_end body X (by simp at hb; omega))]
      simp
  | succ k ih =>
    intro B body X f hk hb hf
    match f with
    | 0 => omega
    | f + 1 =>
      by_cases hB : B = []
      · subst hB
        rw [chunk_nil, unF_end (pc_end body X (by simp at hb; omega))]
        simp
      · have hpos : 1 ≤ B.length := by
          rcases Nat.eq_zero_or_pos B.length with h | h
          · exact absurd (List.eq_nil_of_length_eq_zero h) hB
          · exact h
        have hPc := pc_piece body (B.take s) (chunkL s (B.drop s) ++ X) (by simp; omega)
        have hlen := (pc_len hPc).1
        rw [chunk_more hs hB, List.append_assoc] at hf ⊢
        rw [unF_go hPc (by rw [List.length_take]; omega)]
        have e : (B.take s ++ 13 :: 10 :: (chunkL s (B.drop s) ++ X)).take (((B.take s).length : Int)).toNat = B.take s := by simp
        rw [e, ih (B.drop s) _ X f (by simp; omega) (by simp; omega) (by omega), List.append_assoc, List.take_append_drop]
theorem unch_chunk {s : Nat} (hs : 1 ≤ s) (B X : List Int) (hB : B.length ≤ 8000) : unchF (chunkL s B ++ X) = (0, B, ((chunkL s B).length : Int)) := by
  unfold unchF
  rw [unF_chunk hs B.length B [] X _ (Nat.le_refl _) (by simpa using hB) (by omega)]
  simp
/- cut off -/
theorem rdN_cut (m : Int) : ∀ (b : List Int) (k : Nat) (n : Int) {v : Int} {r : List Int}, rdN m k n b = (0, v, r) → ∀ c, (c ≤ b.length - r.length → (rdN m k n (b.take c)).1 = 8) ∧ (b.length - r.length < c → rdN m k n (b.take c) = (0, v, r.take (c - (b.length - r.length)))) := by
  intro b
  induction b with
  | nil => intro k n v r h; simp [rdN] at h
  | cons x q ih =>
    intro k n v r h c
    have h0 := h
    unfold rdN at h
    by_cases hd : dig x < 0
    · rw [if_pos hd] at h
      by_cases hk : k = 0
      · rw [if_pos hk] at h; simp at h
      · rw [if_neg hk] at h
        simp at h
        obtain ⟨rfl, rfl⟩ := h
        refine ⟨fun hc => ?_, fun hc => ?_⟩
        · obtain rfl : c = 0 := by omega
          simp [rdN]
        · match c with
          | 0 => omega
          | c + 1 => rw [List.take_succ_cons, rdN, if_pos hd, if_neg hk]; simp
    · rw [if_neg hd] at h
      by_cases h1 : k = 1 ∧ n = 0
      · rw [if_pos h1] at h; simp at h
      · rw [if_neg h1] at h
        by_cases h2 : 8000 < m + (n * 16 + dig x)
        · rw [if_pos h2] at h; simp at h
        · rw [if_neg h2] at h
          have hl := (rdN_len m q _ _ h).1
          match c with
          | 0 => exact ⟨fun _ => by simp [rdN], fun hc => by omega⟩
          | c + 1 =>
            obtain ⟨i1, i2⟩ := ih _ _ h c
            rw [List.take_succ_cons, rdN, if_neg hd, if_neg h1, if_neg h2]
            refine ⟨fun hc => i1 (by simp at hc; omega), fun hc => ?_⟩
            rw [i2 (by simp at hc; omega)]
            have e : c - (q.length - r.length) = c + 1 - ((x :: q).length - r.length) := by simp; omega
            rw [e]
theorem mt_cut {r r2 : List Int} (h : mt r = (0, r2)) (c : Nat) : (c < 2 → (mt (r.take c)).1 = 8) ∧ (2 ≤ c → mt (r.take c) = (0, r2.take (c - 2))) := by
  rw [mt_ok h]
  match c with
  | 0 => exact ⟨fun _ => by simp [mt], fun hc => by omega⟩
  | 1 => exact ⟨fun _ => by simp [mt], fun hc => by omega⟩
  | c + 2 => exact ⟨fun hc => by omega, fun _ => by simp [mt]⟩
theorem unF_cut : ∀ (f : Nat) (body b : List Int) {B r : List Int}, unF f body b = (0, B, r) → ∀ c, c < b.length - r.length → ∀ g, unF (g + 1) body (b.take c) = (8, [], []) ∨ c + 1 ≤ c ∨ (g < c ∧ ∃ x, unF (g + 1) body (b.take c) = x) := by
  intro f body b B r h c hc g
  by_cases hg : g < c
  · exact Or.inr (Or.inr ⟨hg, _, rfl⟩)
  refine Or.inl ?_
  induction f generalizing body b c g with
  | zero => simp [unF] at h
  | succ f ih =>
    rcases unF_cases body b with ⟨e, he, k⟩ | ⟨n, q, r2, r3, hp⟩
    · rw [k] at h
      simp at h
      exact absurd h.1 he
    · have l1 := (rdN_len _ _ _ _ hp.h1).1
      have l2 := congrArg List.length (mt_ok hp.h2)
      have l4 := congrArg List.length (mt_ok hp.h4)
      have hn := (pc_len hp).2
      have h3 := hp.h3
      simp at l2 l4
      obtain ⟨d1, d2⟩ := rdN_cut _ _ _ _ hp.h1 c
      by_cases c1 : c ≤ b.length - q.length
      · exact unF_f1 (d1 c1) (by simp)
      · have e1 := d2 (by omega)
        obtain ⟨m1, m2⟩ := mt_cut hp.h2 (c - (b.length - q.length))
        by_cases c2 : c - (b.length - q.length) < 2
        · exact unF_f2 e1 (m1 c2) (by simp)
        · have e2 := m2 (by omega)
          by_cases c3 : (c - (b.length - q.length) - 2 : Nat) < n
          · exact unF_f3 e1 e2 (by simp; omega)
          · have h3' : n ≤ ((r2.take (c - (b.length - q.length) - 2)).length : Int) := by simp; omega
            have e3 : (r2.take (c - (b.length - q.length) - 2)).drop n.toNat = (r2.drop n.toNat).take (c - (b.length - q.length) - 2 - n.toNat) := by rw [List.drop_take]
            obtain ⟨p1, p2⟩ := mt_cut hp.h4 (c - (b.length - q.length) - 2 - n.toNat)
            by_cases c4 : c - (b.length - q.length) - 2 - n.toNat < 2
            · exact unF_f4 e1 e2 h3' (by rw [e3]; exact p1 c4) (by simp)
            · have e4 := p2 (by omega)
              have hp' : Pc body (b.take c) n _ _ (r3.take (c - (b.length - q.length) - 2 - n.toNat - 2)) := ⟨e1, e2, h3', by rw [e3]; exact e4⟩
              by_cases hn0 : n = 0
              · subst hn0
                rw [unF_end hp] at h
                simp at h
                rw [← h.2] at hc
                simp at c4
                simp at l4
                omega
              · rw [unF_go hp hn0] at h
                rw [unF_go hp' hn0]
                have e5 : (r2.take (c - (b.length - q.length) - 2)).take n.toNat = r2.take n.toNat := by rw [List.take_take]; congr 1; omega
                rw [e5]
                match g with
                | 0 => omega
                | g + 1 => exact ih _ _ h _ (by omega) g (by omega)
theorem unch_cut {s : Nat} (hs : 1 ≤ s) (B : List Int) (hB : B.length ≤ 8000) (c : Nat) (hc : c < (chunkL s B).length) : unchF ((chunkL s B).take c) = (8, [], 0) := by
  have h := unF_chunk hs B.length B [] [] ((chunkL s B).length + 1) (Nat.le_refl _) (by simpa using hB) (by simp)
  rw [List.append_nil, List.nil_append] at h
  have hl : ((chunkL s B).take c).length = c := by simp; omega
  rcases unF_cut _ _ _ h c (by simpa using hc) c with k | k | k
  · unfold unchF
    rw [hl, k]
    simp
  · omega
  · omega
/- how long it is -/
theorem hex_len {n : Nat} (h : ¬ n < 16) : (hexL n).length = (hexL (n / 16)).length + 1 := by rw [hexL_more h]; simp
theorem piece_len (B : List Int) : (piece B).length = (hexL B.length).length + B.length + 4 := by simp [piece]; omega
theorem hexL_le : ∀ n : Nat, (hexL n).length ≤ n + 1 := by
  intro n
  induction n using Nat.strongRecOn with
  | _ n ih =>
    by_cases h : n < 16
    · rw [hexL_one h]; simp
    · rw [hex_len h]
      have := ih (n / 16) (by omega)
      omega
theorem chunk_len_le {s : Nat} (hs : 1 ≤ s) : ∀ (k : Nat) (B : List Int), B.length ≤ k → (chunkL s B).length ≤ 7 * B.length + 5 := by
  intro k
  induction k with
  | zero =>
    intro B hk
    obtain rfl : B = [] := List.eq_nil_of_length_eq_zero (by omega)
    simp [chunk_nil, endL]
  | succ k ih =>
    intro B hk
    by_cases hB : B = []
    · subst hB; simp [chunk_nil, endL]
    · have hpos : 1 ≤ B.length := by
        rcases Nat.eq_zero_or_pos B.length with h | h
        · exact absurd (List.eq_nil_of_length_eq_zero h) hB
        · exact h
      rw [chunk_more hs hB, List.length_append, piece_len]
      have h1 := ih (B.drop s) (by simp; omega)
      have h2 := hexL_le (B.take s).length
      simp at h1 h2 ⊢
      omega
theorem chunk_abc : chunkL 2 [97, 98, 99] = [50, 13, 10, 97, 98, 13, 10, 49, 13, 10, 99, 13, 10, 48, 13, 10, 13, 10] := by
  rw [chunk_more (by omega) (by simp), chunk_more (by omega) (by simp)]
  simp [piece, hexL_one, hx, chunk_nil, endL]
end Go.Proofs.YtibjbdcmhjbndaaDoor
