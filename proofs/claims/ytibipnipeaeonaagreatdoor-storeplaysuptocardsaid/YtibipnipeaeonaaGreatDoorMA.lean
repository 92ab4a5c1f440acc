/-
  BODIES IN PIECES, as mathematics: how they are written, how they are read. No claim by itself.
-/
import Derived.Test.YtibipnipeaeonaaGreatDoorVl
namespace Go.Proofs.YtibipnipeaeonaaGreatDoor
set_option maxRecDepth 100000
/-- A digit's byte. -/
def hx (d : Nat) : Int := if d < 10 then 48 + d else 87 + d
/-- A number's digits. -/
def hexL (n : Nat) : List Int := if n < 16 then [hx n] else hexL (n / 16) ++ [hx (n % 16)]
termination_by n
decreasing_by omega
theorem hexL_one {n : Nat} (h : n < 16) : hexL n = [hx n] := by rw [hexL, if_pos h]
theorem hexL_more {n : Nat} (h : ¬ n < 16) : hexL n = hexL (n / 16) ++ [hx (n % 16)] := by rw [hexL, if_neg h]
theorem hexL_pos (n : Nat) : 1 ≤ (hexL n).length := by
  by_cases h : n < 16
  · rw [hexL_one h]; simp
  · rw [hexL_more h]; simp
def piece (B : List Int) : List Int := hexL B.length ++ ([13, 10] ++ (B ++ [13, 10]))
def endL : List Int := [48, 13, 10, 13, 10]
def chk (s : Nat) : Nat → List Int → List Int
  | 0, _ => endL
  | k + 1, B => if B = [] then endL else piece (B.take s) ++ chk s k (B.drop s)
/-- A body in pieces. -/
def chunkL (s : Nat) (B : List Int) : List Int := chk s B.length B
theorem chk_nil (s k : Nat) : chk s k [] = endL := by cases k <;> simp [chk]
theorem chk_fuel (s : Nat) (hs : 1 ≤ s) : ∀ (k : Nat) (B : List Int), B.length ≤ k → chk s k B = chk s B.length B := by
  intro k
  induction k using Nat.strongRecOn with
  | _ k ih =>
    intro B hB
    match k, B with
    | 0, [] => rfl
    | 0, x :: r => simp at hB
    | k + 1, [] => simp [chk]
    | k + 1, x :: r =>
      have hl : ((x :: r).drop s).length ≤ r.length := by simp; omega
      simp only [List.length_cons] at hB ⊢
      rw [chk, chk, if_neg (by simp), if_neg (by simp), ih k (by omega) _ (by omega), ih r.length (by omega) _ hl]
theorem chunk_nil (s : Nat) : chunkL s [] = endL := rfl
theorem chunk_more {s : Nat} (hs : 1 ≤ s) {B : List Int} (hB : B ≠ []) : chunkL s B = piece (B.take s) ++ chunkL s (B.drop s) := by
  unfold chunkL
  match B with
  | [] => exact absurd rfl hB
  | x :: r =>
    rw [List.length_cons, chk, if_neg (by simp), chk_fuel s hs r.length _ (by simp; omega)]
/-- What is written: the fault, the bytes. -/
def chunksF (B : List Int) (size : Int) : Int × List Int := if size < 1 ∨ 8000 < size then (1, []) else if 8000 < B.length then (4, []) else (0, chunkL size.toNat B)
/- reading -/
def dig (c : Int) : Int := if 97 ≤ c ∧ c ≤ 102 then c - 87 else if 48 ≤ c ∧ c ≤ 57 then c - 48 else -1
theorem dig_hx {d : Nat} (h : d < 16) : dig (hx d) = d := by
  unfold dig hx
  by_cases h1 : d < 10
  · rw [if_pos h1, if_neg (by omega), if_pos (by omega)]; omega
  · rw [if_neg h1, if_pos (by omega)]; omega
/-- A size: the fault, the number, what is behind it. m: how many bytes the body has; k: how many digits were read. -/
def rdN (m : Int) : Nat → Int → List Int → Int × Int × List Int
  | _, _, [] => (8, 0, [])
  | k, n, c :: r => if dig c < 0 then (if k = 0 then (2, 0, []) else (0, n, c :: r)) else if k = 1 ∧ n = 0 then (2, 0, []) else if 8000 < m + (n * 16 + dig c) then (4, 0, []) else rdN m (k + 1) (n * 16 + dig c) r
/-- A line end: the fault, what is behind it. -/
def mt : List Int → Int × List Int
  | [] => (8, [])
  | c :: r => if c = 13 then (match r with
    | [] => (8, [])
    | d :: q => if d = 10 then (0, q) else (2, [])) else (2, [])
def unF : Nat → List Int → List Int → Int × List Int × List Int
  | 0, _, _ => (8, [], [])
  | f + 1, body, b =>
    if (rdN body.length 0 0 b).1 ≠ 0 then ((rdN body.length 0 0 b).1, [], []) else
    if (mt (rdN body.length 0 0 b).2.2).1 ≠ 0 then ((mt (rdN body.length 0 0 b).2.2).1, [], []) else
    if ((mt (rdN body.length 0 0 b).2.2).2.length : Int) < (rdN body.length 0 0 b).2.1 then (8, [], []) else
    if (mt ((mt (rdN body.length 0 0 b).2.2).2.drop (rdN body.length 0 0 b).2.1.toNat)).1 ≠ 0 then ((mt ((mt (rdN body.length 0 0 b).2.2).2.drop (rdN body.length 0 0 b).2.1.toNat)).1, [], []) else
    if (rdN body.length 0 0 b).2.1 = 0 then (0, body, (mt ((mt (rdN body.length 0 0 b).2.2).2.drop (rdN body.length 0 0 b).2.1.toNat)).2) else
    unF f (body ++ (mt (rdN body.length 0 0 b).2.2).2.take (rdN body.length 0 0 b).2.1.toNat) (mt ((mt (rdN body.length 0 0 b).2.2).2.drop (rdN body.length 0 0 b).2.1.toNat)).2
/-- What is read: the fault, the body, how many bytes it takes. -/
def unchF (b : List Int) : Int × List Int × Int := ((unF (b.length + 1) [] b).1, (unF (b.length + 1) [] b).2.1, if (unF (b.length + 1) [] b).1 = 0 then b.length - (unF (b.length + 1) [] b).2.2.length else 0)
/-- One piece, its parts by name. -/
structure Pc (body b : List Int) (n : Int) (r r2 r3 : List Int) : Prop where
  h1 : rdN body.length 0 0 b = (0, n, r)
  h2 : mt r = (0, r2)
  h3 : n ≤ r2.length
  h4 : mt (r2.drop n.toNat) = (0, r3)
theorem unF_end {f : Nat} {body b : List Int} {r r2 r3 : List Int} (h : Pc body b 0 r r2 r3) : unF (f + 1) body b = (0, body, r3) := by
  have h3 := h.h3
  have h4 := h.h4
  unfold unF
  rw [h.h1]
  simp only [h.h2]
  rw [if_neg (by simp), if_neg (by simp), if_neg (by omega)]
  simp only [h4]
  simp
theorem unF_go {f : Nat} {body b : List Int} {n : Int} {r r2 r3 : List Int} (h : Pc body b n r r2 r3) (hn : n ≠ 0) : unF (f + 1) body b = unF f (body ++ r2.take n.toNat) r3 := by
  have h3 := h.h3
  have h4 := h.h4
  rw [unF]
  rw [h.h1]
  simp only [h.h2]
  rw [if_neg (by simp), if_neg (by simp), if_neg (by omega)]
  simp only [h4]
  rw [if_neg (by simp), if_neg hn]
theorem unF_f1 {f : Nat} {body b : List Int} {e : Int} (h : (rdN body.length 0 0 b).1 = e) (he : e ≠ 0) : unF (f + 1) body b = (e, [], []) := by
  rw [unF, h, if_pos he]
theorem unF_f2 {f : Nat} {body b : List Int} {n e : Int} {r : List Int} (h1 : rdN body.length 0 0 b = (0, n, r)) (h : (mt r).1 = e) (he : e ≠ 0) : unF (f + 1) body b = (e, [], []) := by
  rw [unF, h1]
  simp only [h]
  rw [if_neg (by simp), if_pos he]
theorem unF_f3 {f : Nat} {body b : List Int} {n : Int} {r r2 : List Int} (h1 : rdN body.length 0 0 b = (0, n, r)) (h2 : mt r = (0, r2)) (h : (r2.length : Int) < n) : unF (f + 1) body b = (8, [], []) := by
  rw [unF, h1]
  simp only [h2]
  rw [if_neg (by simp), if_neg (by simp), if_pos h]
theorem unF_f4 {f : Nat} {body b : List Int} {n e : Int} {r r2 : List Int} (h1 : rdN body.length 0 0 b = (0, n, r)) (h2 : mt r = (0, r2)) (h3 : n ≤ r2.length) (h : (mt (r2.drop n.toNat)).1 = e) (he : e ≠ 0) : unF (f + 1) body b = (e, [], []) := by
  rw [unF, h1]
  simp only [h2]
  rw [if_neg (by simp), if_neg (by simp), if_neg (by omega)]
  simp only [h]
  rw [if_pos he]
theorem mt_ok {r r2 : List Int} (h : mt r = (0, r2)) : r = 13 :: 10 :: r2 := by
  unfold mt at h
  split at h
  · simp at h
  · rename_i c q
    split at h
    · rename_i hc
      split at h
      · simp at h
      · rename_i d q'
        split at h
        · rename_i hd
          simp at h
          rw [hc, hd, h]
        · simp at h
    · simp at h
theorem mt_line (r : List Int) : mt (13 :: 10 :: r) = (0, r) := by simp [mt]
theorem rdN_len (m : Int) : ∀ (b : List Int) (k : Nat) (n : Int) {v : Int} {r : List Int}, rdN m k n b = (0, v, r) → r.length ≤ b.length ∧ (0 ≤ n → 0 ≤ v) := by
  intro b
  induction b with
  | nil => intro k n v r h; simp [rdN] at h
  | cons c q ih =>
    intro k n v r h
    unfold rdN at h
    split at h
    · split at h
      · simp at h
      · simp at h
        obtain ⟨rfl, rfl⟩ := h
        exact ⟨Nat.le_refl _, fun x => x⟩
    · split at h
      · simp at h
      · split at h
        · simp at h
        · obtain ⟨i1, i2⟩ := ih _ _ h
          exact ⟨by simp; omega, fun hn => i2 (by omega)⟩
theorem pc_len {body b : List Int} {n : Int} {r r2 r3 : List Int} (h : Pc body b n r r2 r3) : r3.length + 4 ≤ b.length ∧ 0 ≤ n := by
  have l1 := rdN_len _ _ _ _ h.h1
  have l2 := congrArg List.length (mt_ok h.h2)
  have l3 := congrArg List.length (mt_ok h.h4)
  simp at l2 l3
  exact ⟨by omega, l1.2 (by omega)⟩
/-- How a round goes. -/
theorem unF_cases (body b : List Int) : (∃ e, e ≠ 0 ∧ ∀ g, unF (g + 1) body b = (e, [], [])) ∨ (∃ n r r2 r3, Pc body b n r r2 r3) := by
  match h1 : rdN body.length 0 0 b with
  | (e, n, r) =>
    by_cases he : e = 0
    · subst he
      match h2 : mt r with
      | (e2, r2) =>
        by_cases he2 : e2 = 0
        · subst he2
          by_cases h3 : n ≤ r2.length
          · match h4 : mt (r2.drop n.toNat) with
            | (e4, r3) =>
              by_cases he4 : e4 = 0
              · subst he4
                exact Or.inr ⟨n, r, r2, r3, h1, h2, h3, h4⟩
              · exact Or.inl ⟨e4, he4, fun g => unF_f4 h1 h2 h3 (by rw [h4]) he4⟩
          · exact Or.inl ⟨8, by simp, fun g => unF_f3 h1 h2 (by omega)⟩
        · exact Or.inl ⟨e2, he2, fun g => unF_f2 h1 (by rw [h2]) he2⟩
    · exact Or.inl ⟨e, he, fun g => unF_f1 (by rw [h1]) he⟩
theorem unF_fuel : ∀ (f g : Nat) (body b : List Int), b.length < f → b.length < g → unF f body b = unF g body b := by
  intro f
  induction f with
  | zero => intro g body b h; omega
  | succ f ih =>
    intro g body b hf hg
    match g with
    | 0 => omega
    | g + 1 =>
      rcases unF_cases body b with ⟨e, _, h⟩ | ⟨n, r, r2, r3, h⟩
      · rw [h, h]
      · by_cases hn : n = 0
        · subst hn; rw [unF_end h, unF_end h]
        · have := pc_len h
          rw [unF_go h hn, unF_go h hn]
          exact ih g _ _ (by omega) (by omega)
end Go.Proofs.YtibipnipeaeonaaGreatDoor
/-
  BODIES IN PIECES, as mathematics: what is written is read; cut off it is not whole; how long it is. No claim by itself.
-/
namespace Go.Proofs.YtibipnipeaeonaaGreatDoor
set_option maxRecDepth 100000
theorem rdN_hex (m : Int) : ∀ (n : Nat) (X : List Int), m + n ≤ 8000 → rdN m 0 0 (hexL n ++ X) = rdN m (hexL n).length n X := by
  intro n
  induction n using Nat.strongRecOn with
  | _ n ih =>
    intro X hm
    by_cases h : n < 16
    · rw [hexL_one h, List.singleton_append, rdN, if_neg (by rw [dig_hx h]; omega), if_neg (by simp), if_neg (by rw [dig_hx h]; omega), dig_hx h]
      simp
    · have h16 : n / 16 < n := by omega
      rw [hexL_more h, List.append_assoc, List.singleton_append, ih (n / 16) h16 _ (by omega)]
      have hd : n % 16 < 16 := by omega
      have hk := hexL_pos (n / 16)
      rw [rdN, if_neg (by rw [dig_hx hd]; omega), if_neg (by omega), if_neg (by rw [dig_hx hd]; omega), dig_hx hd]
      congr 1
      · simp
      · omega
theorem rdN_hex_line (m : Int) (n : Nat) (X : List Int) (hm : m + n ≤ 8000) : rdN m 0 0 (hexL n ++ 13 :: X) = (0, (n : Int), 13 :: X) := by
  have hk := hexL_pos n
  rw [rdN_hex m n _ hm, rdN, if_pos (by decide), if_neg (by omega)]
theorem pc_piece (body P X : List Int) (h : body.length + P.length ≤ 8000) : Pc body (piece P ++ X) P.length (13 :: 10 :: (P ++ 13 :: 10 :: X)) (P ++ 13 :: 10 :: X) X := by
  refine ⟨?_, mt_line _, by simp; omega, ?_⟩
  · unfold piece
    simp only [List.append_assoc, List.cons_append, List.nil_append]
    exact rdN_hex_line _ _ _ (by omega)
  · simp [mt]
theorem pc_end (body X : List Int) (h : body.length ≤ 8000) : Pc body (endL ++ X) 0 (13 :: 10 :: 13 :: 10 :: X) (13 :: 10 :: X) X := by
  refine ⟨?_, mt_line _, by simp; omega, by simp [mt]⟩
  have := rdN_hex_line body.length 0 (10 :: 13 :: 10 :: X) (by omega)
  rw [hexL_one (by omega)] at this
  exact this
theorem unF_chunk {s : Nat} (hs : 1 ≤ s) : ∀ (k : Nat) (B body X : List Int) (f : Nat), B.length ≤ k → body.length + B.length ≤ 8000 → (chunkL s B ++ X).length < f → unF f body (chunkL s B ++ X) = (0, body ++ B, X) := by
  intro k
  induction k with
  | zero =>
    intro B body X f hk hb hf
    obtain rfl : B = [] := List.eq_nil_of_length_eq_zero (by omega)
    match f with
    | 0 => omega
    | f + 1 =>
      rw [chunk_nil, unF_end (pc_end body X (by simp at hb; omega))]
      simp
  | succ k ih =>
    intro B body X f hk hb hf
    match f with
    | 0 => omega
    | f + 1 =>
      by_cases hB : B = []
      · subst hB
        rw [chunk_nil, unF_end (pc_end body X (by simp at hb; omega))]
        simp
      · have hpos : 1 ≤ B.length := by
          rcases Nat.eq_zero_or_pos B.length with h | h
          · exact absurd (List.eq_nil_of_length_eq_zero h) hB
          · exact h
        have hPc := pc_piece body (B.take s) (chunkL s (B.drop s) ++ X) (by simp; omega)
        have hlen := (pc_len hPc).1
        rw [chunk_more hs hB, List.append_assoc] at hf ⊢
        rw [unF_go hPc (by rw [List.length_take]; omega)]
        have e : (B.take s ++ 13 :: 10 :: (chunkL s (B.drop s) ++ X)).take (((B.take s).length : Int)).toNat = B.take s := by simp
        rw [e, ih (B.drop s) _ X f (by simp; omega) (by simp; omega) (by omega), List.append_assoc, List.take_append_drop]
theorem unch_chunk {s : Nat} (hs : 1 ≤ s) (B X : List Int) (hB : B.length ≤ 8000) : unchF (chunkL s B ++ X) = (0, B, ((chunkL s B).length : Int)) := by
  unfold unchF
  rw [unF_chunk hs B.length B [] X _ (Nat.le_refl _) (by simpa using hB) (by omega)]
  simp
/- cut off -/
theorem rdN_cut (m : Int) : ∀ (b : List Int) (k : Nat) (n : Int) {v : Int} {r : List Int}, rdN m k n b = (0, v, r) → ∀ c, (c ≤ b.length - r.length → (rdN m k n (b.take c)).1 = 8) ∧ (b.length - r.length < c → rdN m k n (b.take c) = (0, v, r.take (c - (b.length - r.length)))) := by
  intro b
  induction b with
  | nil => intro k n v r h; simp [rdN] at h
  | cons x q ih =>
    intro k n v r h c
    have h0 := h
    unfold rdN at h
    by_cases hd : dig x < 0
    · rw [if_pos hd] at h
      by_cases hk : k = 0
      · rw [if_pos hk] at h; simp at h
      · rw [if_neg hk] at h
        simp at h
        obtain ⟨rfl, rfl⟩ := h
        refine ⟨fun hc => ?_, fun hc => ?_⟩
        · obtain rfl : c = 0 := by omega
          simp [rdN]
        · match c with
          | 0 => omega
          | c + 1 => rw [List.take_succ_cons, rdN, if_pos hd, if_neg hk]; simp
    · rw [if_neg hd] at h
      by_cases h1 : k = 1 ∧ n = 0
      · rw [if_pos h1] at h; simp at h
      · rw [if_neg h1] at h
        by_cases h2 : 8000 < m + (n * 16 + dig x)
        · rw [if_pos h2] at h; simp at h
        · rw [if_neg h2] at h
          have hl := (rdN_len m q _ _ h).1
          match c with
          | 0 => exact ⟨fun _ => by simp [rdN], fun hc => by omega⟩
          | c + 1 =>
            obtain ⟨i1, i2⟩ := ih _ _ h c
            rw [List.take_succ_cons, rdN, if_neg hd, if_neg h1, if_neg h2]
            refine ⟨fun hc => i1 (by simp at hc; omega), fun hc => ?_⟩
            rw [i2 (by simp at hc; omega)]
            have e : c - (q.length - r.length) = c + 1 - ((x :: q).length - r.length) := by simp; omega
            rw [e]
theorem mt_cut {r r2 : List Int} (h : mt r = (0, r2)) (c : Nat) : (c < 2 → (mt (r.take c)).1 = 8) ∧ (2 ≤ c → mt (r.take c) = (0, r2.take (c - 2))) := by
  rw [mt_ok h]
  match c with
  | 0 => exact ⟨fun _ => by simp [mt], fun hc => by omega⟩
  | 1 => exact ⟨fun _ => by simp [mt], fun hc => by omega⟩
  | c + 2 => exact ⟨fun hc => by omega, fun _ => by simp [mt]⟩
theorem unF_cut : ∀ (f : Nat) (body b : List Int) {B r : List Int}, unF f body b = (0, B, r) → ∀ c, c < b.length - r.length → ∀ g, unF (g + 1) body (b.take c) = (8, [], []) ∨ c + 1 ≤ c ∨ (g < c ∧ ∃ x, unF (g + 1) body (b.take c) = x) := by
  intro f body b B r h c hc g
  by_cases hg : g < c
  · exact Or.inr (Or.inr ⟨hg, _, rfl⟩)
  refine Or.inl ?_
  induction f generalizing body b c g with
  | zero => simp [unF] at h
  | succ f ih =>
    rcases unF_cases body b with ⟨e, he, k⟩ | ⟨n, q, r2, r3, hp⟩
    · rw [k] at h
      simp at h
      exact absurd h.1 he
    · have l1 := (rdN_len _ _ _ _ hp.h1).1
      have l2 := congrArg List.length (mt_ok hp.h2)
      have l4 := congrArg List.length (mt_ok hp.h4)
      have hn := (pc_len hp).2
      have h3 := hp.h3
      simp at l2 l4
      obtain ⟨d1, d2⟩ := rdN_cut _ _ _ _ hp.h1 c
      by_cases c1 : c ≤ b.length - q.length
      · exact unF_f1 (d1 c1) (by simp)
      · have e1 := d2 (by omega)
        obtain ⟨m1, m2⟩ := mt_cut hp.h2 (c - (b.length - q.length))
        by_cases c2 : c - (b.length - q.length) < 2
        · exact unF_f2 e1 (m1 c2) (by simp)
        · have e2 := m2 (by omega)
          by_cases c3 : (c - (b.length - q.length) - 2 : Nat) < n
          · exact unF_f3 e1 e2 (by simp; omega)
          · have h3' : n ≤ ((r2.take (c - (b.length - q.length) - 2)).length : Int) := by simp; omega
            have e3 : (r2.take (c - (b.length - q.length) - 2)).drop n.toNat = (r2.drop n.toNat).take (c - (b.length - q.length) - 2 - n.toNat) := by rw [List.drop_take]
            obtain ⟨p1, p2⟩ := mt_cut hp.h4 (c - (b.length - q.length) - 2 - n.toNat)
            by_cases c4 : c - (b.length - q.length) - 2 - n.toNat < 2
            · exact unF_f4 e1 e2 h3' (by rw [e3]; exact p1 c4) (by simp)
            · have e4 := p2 (by omega)
              have hp' : Pc body (b.take c) n _ _ (r3.take (c - (b.length - q.length) - 2 - n.toNat - 2)) := ⟨e1, e2, h3', by rw [e3]; exact e4⟩
              by_cases hn0 : n = 0
              · subst hn0
                rw [unF_end hp] at h
                simp at h
                rw [← h.2] at hc
                simp at c4
                simp at l4
                omega
              · rw [unF_go hp hn0] at h
                rw [unF_go hp' hn0]
                have e5 : (r2.take (c - (b.length - q.length) - 2)).take n.toNat = r2.take n.toNat := by rw [List.take_take]; congr 1; omega
                rw [e5]
                match g with
                | 0 => omega
                | g + 1 => exact ih _ _ h _ (by omega) g (by omega)
theorem unch_cut {s : Nat} (hs : 1 ≤ s) (B : List Int) (hB : B.length ≤ 8000) (c : Nat) (hc : c < (chunkL s B).length) : unchF ((chunkL s B).take c) = (8, [], 0) := by
  have h := unF_chunk hs B.length B [] [] ((chunkL s B).length + 1) (Nat.le_refl _) (by simpa using hB) (by simp)
  rw [List.append_nil, List.nil_append] at h
  have hl : ((chunkL s B).take c).length = c := by simp; omega
  rcases unF_cut _ _ _ h c (by simpa using hc) c with k | k | k
  · unfold unchF
    rw [hl, k]
    simp
  · omega
  · omega
/- how long it is -/
theorem hex_len {n : Nat} (h : ¬ n < 16) : (hexL n).length = (hexL (n / 16)).length + 1 := by rw [hexL_more h]; simp
theorem piece_len (B : List Int) : (piece B).length = (hexL B.length).length + B.length + 4 := by simp [piece]; omega
theorem hexL_le : ∀ n : Nat, (hexL n).length ≤ n + 1 := by
  intro n
  induction n using Nat.strongRecOn with
  | _ n ih =>
    by_cases h : n < 16
    · rw [hexL_one h]; simp
    · rw [hex_len h]
      have := ih (n / 16) (by omega)
      omega
theorem chunk_len_le {s : Nat} (hs : 1 ≤ s) : ∀ (k : Nat) (B : List Int), B.length ≤ k → (chunkL s B).length ≤ 7 * B.length + 5 := by
  intro k
  induction k with
  | zero =>
    intro B hk
    obtain rfl : B = [] := List.eq_nil_of_length_eq_zero (by omega)
    simp [chunk_nil, endL]
  | succ k ih =>
    intro B hk
    by_cases hB : B = []
    · subst hB; simp [chunk_nil, endL]
    · have hpos : 1 ≤ B.length := by
        rcases Nat.eq_zero_or_pos B.length with h | h
        · exact absurd (List.eq_nil_of_length_eq_zero h) hB
        · exact h
      rw [chunk_more hs hB, List.length_append, piece_len]
      have h1 := ih (B.drop s) (by simp; omega)
      have h2 := hexL_le (B.take s).length
      simp at h1 h2 ⊢
      omega
theorem chunk_abc : chunkL 2 [97, 98, 99] = [50, 13, 10, 97, 98, 13, 10, 49, 13, 10, 99, 13, 10, 48, 13, 10, 13, 10] := by
  rw [chunk_more (by omega) (by simp), chunk_more (by omega) (by simp)]
  simp [piece, hexL_one, hx, chunk_nil, endL]
end Go.Proofs.YtibipnipeaeonaaGreatDoor
/-
  READING FROM LEFT TO RIGHT, as mathematics: what is read of bytes, and what of a beginning of them. No claim by itself.
-/
namespace Go.Proofs.YtibipnipeaeonaaGreatDoor
set_option maxRecDepth 100000
/-- What is read of bytes: the fault (0: none), what it is, what is behind it. -/
abbrev Pz (α : Type) := List Int → Int × α × List Int
def failP {α : Type} [Inhabited α] (e : Int) : Pz α := fun _ => (e, default, [])
def retP {α : Type} (v : α) : Pz α := fun b => (0, v, b)
def bindP {α β : Type} [Inhabited β] (p : Pz α) (f : α → Pz β) : Pz β := fun b => if (p b).1 = 0 then f (p b).2.1 (p b).2.2 else ((p b).1, default, [])
theorem bindP_ok {α β : Type} [Inhabited β] {p : Pz α} {f : α → Pz β} {b : List Int} {v : α} {r : List Int} (h : p b = (0, v, r)) : bindP p f b = f v r := by unfold bindP; rw [h]; rfl
theorem bindP_no {α β : Type} [Inhabited β] {p : Pz α} {f : α → Pz β} {b : List Int} (h : (p b).1 ≠ 0) : bindP p f b = ((p b).1, default, []) := by unfold bindP; rw [if_neg h]
theorem bindP_inv {α β : Type} [Inhabited β] {p : Pz α} {f : α → Pz β} {b : List Int} {x : β} {r : List Int} (h : bindP p f b = (0, x, r)) : ∃ v r1, p b = (0, v, r1) ∧ f v r1 = (0, x, r) := by
  unfold bindP at h
  match hp : p b with
  | (e, v, r1) =>
    rw [hp] at h
    by_cases he : e = 0
    · subst he; exact ⟨v, r1, rfl, by simpa using h⟩
    · simp [he] at h
/-- It hangs on what it takes alone; cut off, it wants more. -/
structure PzLaw {α : Type} (p : Pz α) : Prop where
  app : ∀ {b v r} (X), p b = (0, v, r) → p (b ++ X) = (0, v, r ++ X)
  len : ∀ {b v r}, p b = (0, v, r) → r.length ≤ b.length
  cut : ∀ {b v r} (c), p b = (0, v, r) → c < b.length - r.length → (p (b.take c)).1 = 8
  more : ∀ {b v r} (c), p b = (0, v, r) → b.length - r.length ≤ c → (p (b.take c)).1 = 8 ∨ p (b.take c) = (0, v, r.take (c - (b.length - r.length)))
theorem law_fail {α : Type} [Inhabited α] {e : Int} (he : e ≠ 0) : PzLaw (failP e : Pz α) := by
  have no : ∀ {b v r}, (failP e : Pz α) b = (0, v, r) → False := fun h => by
    unfold failP at h
    exact he (congrArg Prod.fst h)
  exact ⟨fun _ h => (no h).elim, fun h => (no h).elim, fun _ h => (no h).elim, fun _ h => (no h).elim⟩
theorem retP_inv {α : Type} {v x : α} {b r : List Int} (h : retP v b = (0, x, r)) : x = v ∧ r = b := by
  unfold retP at h
  simp at h
  exact ⟨h.1.symm, h.2.symm⟩
theorem law_ret {α : Type} (v : α) : PzLaw (retP v) := by
  refine ⟨fun X h => ?_, fun h => ?_, fun c h hc => ?_, fun c h _ => ?_⟩
  all_goals obtain ⟨rfl, rfl⟩ := retP_inv h
  · rfl
  · exact Nat.le_refl _
  · omega
  · right; simp [retP]
theorem law_bind {α β : Type} [Inhabited β] {p : Pz α} {f : α → Pz β} (hp : PzLaw p) (hf : ∀ v, PzLaw (f v)) : PzLaw (bindP p f) := by
  refine ⟨fun X h => ?_, fun h => ?_, fun c h hc => ?_, fun c h hc => ?_⟩
  · obtain ⟨v, r1, h1, h2⟩ := bindP_inv h
    rw [bindP_ok (hp.app X h1), (hf v).app X h2]
  · obtain ⟨v, r1, h1, h2⟩ := bindP_inv h
    exact Nat.le_trans ((hf v).len h2) (hp.len h1)
  · obtain ⟨v, r1, h1, h2⟩ := bindP_inv h
    have l1 := hp.len h1
    have l2 := (hf v).len h2
    rename_i b _ r
    by_cases hc1 : c < b.length - r1.length
    · have e := hp.cut c h1 hc1
      rw [bindP_no (by rw [e]; omega), e]
    · rcases hp.more c h1 (by omega) with e | e
      · rw [bindP_no (by rw [e]; omega), e]
      · rw [bindP_ok e]
        exact (hf v).cut _ h2 (by omega)
  · obtain ⟨v, r1, h1, h2⟩ := bindP_inv h
    have l1 := hp.len h1
    have l2 := (hf v).len h2
    rename_i b _ r
    rcases hp.more c h1 (by omega) with e | e
    · left; rw [bindP_no (by rw [e]; omega), e]
    · rw [bindP_ok e]
      rcases (hf v).more (c - (b.length - r1.length)) h2 (by omega) with e2 | e2
      · exact Or.inl e2
      · right
        rw [e2]
        congr 3
        omega
theorem law_if {α : Type} {c : Prop} [Decidable c] {p q : Pz α} (hp : PzLaw p) (hq : PzLaw q) : PzLaw (if c then p else q) := by
  split
  · exact hp
  · exact hq
/-- A text. -/
def mtsP : List Int → Pz Unit
  | [], b => (0, (), b)
  | _ :: _, [] => (8, (), [])
  | c :: s, d :: r => if d = c then mtsP s r else (2, (), [])
theorem mtsP_say : ∀ (s X : List Int), mtsP s (s ++ X) = (0, (), X)
  | [], X => by simp [mtsP]
  | c :: s, X => by simp [mtsP, mtsP_say s X]
theorem mtsP_inv : ∀ {s b : List Int} {u : Unit} {r : List Int}, mtsP s b = (0, u, r) → b = s ++ r
  | [], b, u, r, h => by simp [mtsP] at h; simp [h]
  | c :: s, [], u, r, h => by simp [mtsP] at h
  | c :: s, d :: q, u, r, h => by
    unfold mtsP at h
    split at h
    · rename_i e
      rw [mtsP_inv h, e]
      rfl
    · simp at h
theorem mtsP_short : ∀ (s X : List Int) (c : Nat), c < s.length → (mtsP s ((s ++ X).take c)).1 = 8
  | [], X, c, h => by simp at h
  | d :: s, X, 0, _ => by simp [mtsP]
  | d :: s, X, c + 1, h => by
    simp only [List.cons_append, List.take_succ_cons, mtsP, if_true]
    exact mtsP_short s X c (by simpa using h)
theorem law_mts (s : List Int) : PzLaw (mtsP s) := by
  refine ⟨fun X h => ?_, fun h => ?_, fun c h hc => ?_, fun c h hc => ?_⟩
  all_goals have e := mtsP_inv h
  · rw [e, List.append_assoc, mtsP_say]
  · rw [e]; simp
  · rw [e] at hc ⊢
    exact mtsP_short _ _ _ (by simp at hc; omega)
  · right
    rw [e] at hc ⊢
    have hc' : s.length ≤ c := by simp at hc; omega
    rw [List.take_append, List.take_of_length_le hc', mtsP_say]
    congr 3
    simp
/-- What stands ahead of a byte, at most 400 bytes of a kind. -/
def untP (stop : Int) (ok : Int → Bool) : Nat → Pz (List Int)
  | _, [] => (8, [], [])
  | k, c :: r => if c = stop then (0, [], c :: r) else if ok c = false ∨ 400 ≤ k then (2, [], []) else
    if (untP stop ok (k + 1) r).1 = 0 then (0, c :: (untP stop ok (k + 1) r).2.1, (untP stop ok (k + 1) r).2.2) else ((untP stop ok (k + 1) r).1, [], [])
theorem untP_say {stop : Int} {ok : Int → Bool} : ∀ (t X : List Int) (k : Nat), (∀ c ∈ t, ok c = true ∧ c ≠ stop) → t.length + k ≤ 400 → untP stop ok k (t ++ stop :: X) = (0, t, stop :: X)
  | [], X, k, _, _ => by simp [untP]
  | c :: t, X, k, h, hl => by
    have h1 := h c (by simp)
    have ih := untP_say t X (k + 1) (fun x hx => h x (by simp [hx])) (by simp at hl; omega)
    simp only [List.cons_append, untP]
    simp at hl
    rw [if_neg h1.2, if_neg (by rw [h1.1]; simp; omega), ih]
    simp
theorem untP_inv {stop : Int} {ok : Int → Bool} : ∀ {b : List Int} {k : Nat} {t r : List Int}, untP stop ok k b = (0, t, r) → (∃ X, r = stop :: X ∧ b = t ++ r) ∧ (∀ c ∈ t, ok c = true ∧ c ≠ stop) ∧ (t = [] ∨ t.length + k ≤ 400)
  | [], k, t, r, h => by simp [untP] at h
  | c :: q, k, t, r, h => by
    unfold untP at h
    split at h
    · rename_i e
      simp at h
      obtain ⟨rfl, rfl⟩ := h
      exact ⟨⟨q, by rw [e], rfl⟩, (fun x hx => by cases hx), Or.inl rfl⟩
    · rename_i hne
      split at h
      · simp at h
      · rename_i hok
        split at h
        · rename_i h0
          match hu : untP stop ok (k + 1) q with
          | (e, t', r') =>
            rw [hu] at h h0
            simp at h h0
            subst h0
            obtain ⟨rfl, rfl⟩ := h
            obtain ⟨⟨X, i1, i2⟩, i3, i4⟩ := untP_inv hu
            have hk : ok c = true ∧ k < 400 := by
              cases hx : ok c
              · exact absurd (Or.inl hx) hok
              · exact ⟨rfl, by omega⟩
            refine ⟨⟨X, i1, by rw [i2]; simp⟩, fun x hx => ?_, Or.inr ?_⟩
            · rcases List.mem_cons.1 hx with rfl | hx
              · exact ⟨hk.1, hne⟩
              · exact i3 x hx
            · rcases i4 with rfl | i4
              · simp; omega
              · simp; omega
        · rename_i h0
          simp at h
          exact absurd h.1 h0
theorem untP_short {stop : Int} {ok : Int → Bool} : ∀ (t X : List Int) (k c : Nat), (∀ c ∈ t, ok c = true ∧ c ≠ stop) → t.length + k ≤ 400 → c ≤ t.length → (untP stop ok k ((t ++ stop :: X).take c)).1 = 8
  | t, X, k, 0, _, _, _ => by simp [untP]
  | [], X, k, c + 1, _, _, hc => by simp at hc
  | d :: t, X, k, c + 1, h, hl, hc => by
    have h1 := h d (by simp)
    have ih := untP_short t X (k + 1) c (fun x hx => h x (by simp [hx])) (by simp at hl; omega) (by simpa using hc)
    simp only [List.cons_append, List.take_succ_cons, untP]
    simp at hl
    rw [if_neg h1.2, if_neg (by rw [h1.1]; simp; omega), ih]
    simp
theorem law_unt (stop : Int) (ok : Int → Bool) : PzLaw (untP stop ok 0) := by
  refine ⟨fun X h => ?_, fun h => ?_, fun c h hc => ?_, fun c h hc => ?_⟩
  all_goals
    obtain ⟨⟨Y, rfl, e⟩, h2, h3⟩ := untP_inv h
    rename_i t
    have hl : t.length + 0 ≤ 400 := by rcases h3 with rfl | h3 <;> simp_all
    rw [e]
  · rw [List.append_assoc, List.cons_append]
    exact untP_say t _ 0 h2 hl
  · simp
  · rw [e] at hc
    exact untP_short t Y 0 c h2 hl (by simp at hc; omega)
  · rw [e] at hc
    have hc' : t.length ≤ c := by simp at hc; omega
    by_cases hq : c = t.length
    · left
      exact untP_short t Y 0 c h2 hl (by omega)
    · right
      have e2 : (t ++ stop :: Y).take c = t ++ stop :: Y.take (c - t.length - 1) := by
        rw [List.take_append, List.take_of_length_le hc']
        match hx : c - t.length with
        | 0 => omega
        | m + 1 => simp
      rw [e2, untP_say t _ 0 h2 hl]
      congr 3
      simp
      match hx : c - t.length with
      | 0 => omega
      | m + 1 => simp
end Go.Proofs.YtibipnipeaeonaaGreatDoor
/-
  MESSAGES AS LINES, as mathematics: how they are written, how they are read. No claim by itself.
-/
namespace Go.Proofs.YtibipnipeaeonaaGreatDoor
set_option maxRecDepth 100000
/- what texts are -/
def isSmall (c : Int) : Bool := (decide (97 ≤ c) && decide (c ≤ 122)) || (decide (48 ≤ c) && decide (c ≤ 57)) || decide (c = 45) || decide (c = 95)
def isGreat (c : Int) : Bool := decide (65 ≤ c) && decide (c ≤ 90)
def ok0 (c : Int) : Bool := isSmall c || isGreat c
def ok2 (c : Int) : Bool := decide (32 < c) && decide (c ≤ 126)
def ok3 (c : Int) : Bool := decide (32 ≤ c) && decide (c ≤ 126)
def tokL (s : List Int) : Bool := s.all ok0 && !s.isEmpty && decide (s.length ≤ 400)
def plainL (s : List Int) : Bool := s.all ok3 && (s.isEmpty || (decide (s.length ≤ 400) && !decide (s.headD 0 = 32) && !decide (s.getLastD 0 = 32)))
def wordL (s : List Int) : Bool := s.all (fun c => !decide (c = 32)) && plainL s && !s.isEmpty
def nameL (s : List Int) : Bool := s.all (fun c => !isGreat c) && tokL s
abbrev Fd := List Int × List Int
def hostN : List Int := [104, 111, 115, 116]
def lengthN : List Int := [108, 101, 110, 103, 116, 104]
def codingN : List Int := [99, 111, 100, 105, 110, 103]
def fldE (f : Fd) : Int := if nameL f.1 = true ∧ plainL f.2 = true then (if f.1 = hostN ∨ f.1 = lengthN ∨ f.1 = codingN then 3 else 0) else 2
def fldsE : List Fd → Int
  | [] => 0
  | f :: r => if fldE f = 0 then fldsE r else fldE f
structure Rq where
  method : List Int
  path : List Int
  host : List Int
  fields : List Fd
  body : List Int
structure Rp where
  code : Int
  fields : List Fd
  body : List Int
instance : Inhabited Rq := ⟨⟨[], [], [], [], []⟩⟩
instance : Inhabited Rp := ⟨⟨0, [], []⟩⟩
def askE (r : Rq) : Int := if 40 < r.fields.length ∨ 8000 < r.body.length then 4 else if tokL r.method = true ∧ wordL r.path = true ∧ plainL r.host = true ∧ r.host ≠ [] then fldsE r.fields else 2
def tellE (a : Rp) (size : Int) : Int := if 40 < a.fields.length ∨ 8000 < a.body.length then 4 else if a.code < 100 ∨ 599 < a.code ∨ size < 0 then 1 else fldsE a.fields
/- how they are written -/
def dc (d : Nat) : Int := 48 + d
def decL (n : Nat) : List Int := if n < 10 then [dc n] else decL (n / 10) ++ [dc (n % 10)]
termination_by n
decreasing_by omega
theorem decL_one {n : Nat} (h : n < 10) : decL n = [dc n] := by rw [decL, if_pos h]
theorem decL_more {n : Nat} (h : ¬ n < 10) : decL n = decL (n / 10) ++ [dc (n % 10)] := by rw [decL, if_neg h]
theorem decL_pos (n : Nat) : 1 ≤ (decL n).length := by
  by_cases h : n < 10
  · rw [decL_one h]; simp
  · rw [decL_more h]; simp
def lineOf (f : Fd) : List Int := f.1 ++ ([58, 32] ++ (f.2 ++ [13, 10]))
def linesL : List Fd → List Int
  | [] => []
  | f :: r => lineOf f ++ linesL r
def edgeHost : List Int := [32, 69, 68, 71, 69, 47, 49, 13, 10, 104, 111, 115, 116]
def edgeSp : List Int := [69, 68, 71, 69, 47, 49, 32]
def chunkedS : List Int := [58, 32, 99, 104, 117, 110, 107, 101, 100, 13, 10, 13, 10]
def lenLine (n : Nat) : List Int := lengthN ++ ([58, 32] ++ (decL n ++ [13, 10, 13, 10]))
def tailL (body : List Int) : List Int := if body = [] then [13, 10] else lenLine body.length ++ body
def askL (r : Rq) : List Int := r.method ++ ([32] ++ (r.path ++ (edgeHost ++ ([58, 32] ++ (r.host ++ ([13, 10] ++ (linesL r.fields ++ tailL r.body)))))))
def tellTail (body : List Int) (size : Int) : List Int := if size = 0 then lenLine body.length ++ body else codingN ++ (chunkedS ++ chunkL (if 8000 < size then 8000 else size.toNat) body)
def tellL (a : Rp) (size : Int) : List Int := edgeSp ++ (decL a.code.toNat ++ ([13, 10] ++ (linesL a.fields ++ tellTail a.body size)))
/- how they are read -/
def lookP {α : Type} [Inhabited α] (f : Int → Pz α) : Pz α
  | [] => (8, default, [])
  | c :: r => f c (c :: r)
def skipP : Pz Unit
  | [] => (8, (), [])
  | _ :: r => (0, (), r)
def bodyP (n : Nat) : Pz (List Int) := fun b => if b.length < n then (8, [], []) else (0, b.take n, b.drop n)
/-- May a text of k bytes go on with c? -/
def goF (may : Int → Bool) (k : Nat) (c : Int) : Bool := decide (k < 400) && may c && (!decide (c = 32) || (decide (0 < k) && decide (k < 399)))
def endsL (least : Nat) (s : List Int) : Bool := decide (least ≤ s.length) && !decide (s.getLastD 0 = 32)
def goAll (may : Int → Bool) : Nat → List Int → Bool
  | _, [] => true
  | k, c :: r => goF may k c && goAll may (k + 1) r
/-- A text of a form. -/
def formL (may : Int → Bool) (least : Nat) (s : List Int) : Bool := goAll may 0 s && endsL least s
def untG (stop : Int) (may : Int → Bool) : Nat → Pz (List Int)
  | _, [] => (8, [], [])
  | k, c :: r => if c = stop then (0, [], c :: r) else if goF may k c = false then (2, [], []) else
    if (untG stop may (k + 1) r).1 = 0 then (0, c :: (untG stop may (k + 1) r).2.1, (untG stop may (k + 1) r).2.2) else ((untG stop may (k + 1) r).1, [], [])
def txtP (stop : Int) (may : Int → Bool) (least : Nat) : Pz (List Int) := bindP (untG stop may 0) fun s => if endsL least s = true then bindP skipP fun _ => retP s else failP 2
def valP (least : Nat) : Pz (List Int) := bindP (txtP 13 ok3 least) fun s => bindP (mtsP [10]) fun _ => retP s
def digQ (least most : Int) : Pz Int := lookP fun c => if least + 48 ≤ c ∧ c ≤ most + 48 then bindP skipP fun _ => retP (c - 48) else failP 2
def lenR : Int → Pz Int
  | n, [] => if 0 < n then (8, 0, []) else (0, n, [])
  | n, c :: r => if ¬ 0 < n ∨ c = 13 then (0, n, c :: r) else if c < 48 ∨ 57 < c then (2, 0, []) else if 8000 < 10 * n + (c - 48) then (4, 0, []) else lenR (10 * n + (c - 48)) r
def lenQ (least : Int) : Pz Int := bindP (mtsP [32]) fun _ => bindP (digQ least 9) fun n => bindP (lenR n) fun v => bindP (mtsP [13, 10]) fun _ => retP v
abbrev Hd := List Fd × Int × Bool
def chunkedQ : List Int := [32, 99, 104, 117, 110, 107, 101, 100, 13, 10]
/-- What a line is that is no field: how long, or in pieces. -/
def lastP (least : Int) (coded : Bool) (n : List Int) : Option (Pz (Int × Bool)) :=
  if n = lengthN then some (bindP (lenQ least) fun v => retP (v, false)) else if n = codingN ∧ coded = true then some (bindP (mtsP chunkedQ) fun _ => retP (-1, true)) else none
def headB (least : Int) (coded : Bool) (acc : List Fd) (next : List Int → Pz Hd) : Pz Hd := lookP fun c => if c = 13 then bindP (mtsP [13, 10]) fun _ => retP (acc, -1, false) else
  bindP (txtP 58 isSmall 1) fun n => match lastP least coded n with
    | some p => bindP p fun v => bindP (mtsP [13, 10]) fun _ => retP (acc, v.1, v.2)
    | none => if n = hostN ∨ n = lengthN ∨ n = codingN then failP 2 else next n
def headP (least : Int) (coded : Bool) : Nat → List Fd → Pz Hd
  | 0, acc => headB least coded acc fun _ => failP 4
  | k + 1, acc => headB least coded acc fun n => bindP (mtsP [32]) fun _ => bindP (valP 0) fun v => headP least coded k (acc ++ [(n, v)])
def edgeHostQ : List Int := [69, 68, 71, 69, 47, 49, 13, 10, 104, 111, 115, 116, 58, 32]
def askP : Pz Rq := bindP (txtP 32 ok0 1) fun m => bindP (txtP 32 ok2 1) fun p => bindP (mtsP edgeHostQ) fun _ => bindP (valP 1) fun h =>
  bindP (headP 1 false 40 []) fun f => bindP (bodyP f.2.1.toNat) fun x => retP ⟨m, p, h, f.1, x⟩
def codeQ : Pz Int := bindP (digQ 1 5) fun a => bindP (digQ 0 9) fun b => bindP (digQ 0 9) fun c => bindP (mtsP [13, 10]) fun _ => retP (10 * (10 * a + b) + c)
def unchP : Pz (List Int) := fun b => ((unF (b.length + 1) [] b).1, (unF (b.length + 1) [] b).2.1, (unF (b.length + 1) [] b).2.2)
def restP (closed : Bool) : Pz (List Int) := fun b => if closed = true then (0, b, []) else (8, [], [])
def noBody (bare : Bool) (code : Int) : Bool := bare || decide (code < 200) || decide (code = 204) || decide (code = 304)
/-- How the body is read, as the head says. -/
def bodyK (closed : Bool) (f : Int × Bool) : Pz (List Int) := if f.2 = true then unchP else if 0 ≤ f.1 then bodyP f.1.toNat else restP closed
def tellP (bare closed : Bool) : Pz Rp := bindP (mtsP edgeSp) fun _ => bindP codeQ fun code => bindP (headP 0 true 40 []) fun f =>
  if noBody bare code = true then retP ⟨code, f.1, []⟩ else bindP (bodyK closed f.2) fun x => retP ⟨code, f.1, x⟩
/-- What is told in the end: the fault, the thing, how many bytes it takes. -/
def endF {α : Type} [Inhabited α] (p : Pz α) (b : List Int) : Int × α × Int := if (p b).1 = 0 then (0, (p b).2.1, (b.length : Int) - (p b).2.2.length) else if (p b).1 = 8 ∧ 20000 < b.length then (4, default, 0) else ((p b).1, default, 0)
theorem endF_ok {α : Type} [Inhabited α] {p : Pz α} {b : List Int} {v : α} {r : List Int} (h : p b = (0, v, r)) : endF p b = (0, v, (b.length : Int) - r.length) := by unfold endF; rw [h]; rfl
theorem endF_short {α : Type} [Inhabited α] {p : Pz α} {b : List Int} (h : (p b).1 = 8) (hl : b.length ≤ 20000) : endF p b = (8, default, 0) := by
  unfold endF
  rw [h, if_neg (by omega), if_neg (by omega)]
/- laws -/
theorem law_look {α : Type} [Inhabited α] {f : Int → Pz α} (hf : ∀ c, PzLaw (f c)) : PzLaw (lookP f) := by
  refine ⟨fun {b v r} X h => ?_, fun {b v r} h => ?_, fun {b v r} c h hc => ?_, fun {b v r} c h hc => ?_⟩
  · match b with
    | [] => simp [lookP] at h
    | d :: q => exact (hf d).app X h
  · match b with
    | [] => simp [lookP] at h
    | d :: q => exact (hf d).len h
  · match b with
    | [] => simp [lookP] at h
    | d :: q =>
      match c with
      | 0 => simp [lookP]
      | c + 1 =>
        have := (hf d).cut (c + 1) h hc
        simpa [lookP] using this
  · match b with
    | [] => simp [lookP] at h
    | d :: q =>
      match c with
      | 0 => left; simp [lookP]
      | c + 1 =>
        have := (hf d).more (c + 1) h hc
        simpa [lookP] using this
theorem skipP_inv {b r : List Int} {u : Unit} (h : skipP b = (0, u, r)) : ∃ d, b = d :: r := by
  match b with
  | [] => simp [skipP] at h
  | d :: q =>
    simp [skipP] at h
    exact ⟨d, by rw [h]⟩
theorem law_skip : PzLaw skipP := by
  refine ⟨fun {b v r} X h => ?_, fun {b v r} h => ?_, fun {b v r} c h hc => ?_, fun {b v r} c h hc => ?_⟩
  all_goals obtain ⟨d, rfl⟩ := skipP_inv h
  · rfl
  · simp
  · obtain rfl : c = 0 := by simp at hc; omega
    simp [skipP]
  · match c with
    | 0 => simp at hc
    | c + 1 =>
      right
      simp [skipP]
theorem law_body (n : Nat) : PzLaw (bodyP n) := by
  have inv : ∀ {b v r}, bodyP n b = (0, v, r) → n ≤ b.length ∧ v = b.take n ∧ r = b.drop n := fun {b v r} h => by
    unfold bodyP at h
    split at h
    · simp at h
    · simp at h
      exact ⟨by omega, h.1.symm, h.2.symm⟩
  refine ⟨fun {b v r} X h => ?_, fun {b v r} h => ?_, fun {b v r} c h hc => ?_, fun {b v r} c h hc => ?_⟩
  all_goals obtain ⟨h1, rfl, rfl⟩ := inv h
  · unfold bodyP
    rw [if_neg (by simp; omega), List.take_append_of_le_length h1, List.drop_append_of_le_length h1]
  · simp
  · unfold bodyP
    rw [if_pos (by simp at hc ⊢; omega)]
  · right
    unfold bodyP
    have hc' : n ≤ c := by simp at hc; omega
    rw [if_neg (by simp; omega), List.take_take, List.drop_take]
    congr 3
    · omega
    · simp; omega
/- texts -/
theorem untG_say {stop : Int} {may : Int → Bool} : ∀ (t X : List Int) (k : Nat), goAll may k t = true → (∀ c ∈ t, c ≠ stop) → untG stop may k (t ++ stop :: X) = (0, t, stop :: X)
  | [], X, k, _, _ => by simp [untG]
  | c :: t, X, k, h, hs => by
    unfold goAll at h
    rw [Bool.and_eq_true] at h
    have ih := untG_say t X (k + 1) h.2 (fun x hx => hs x (by simp [hx]))
    simp only [List.cons_append, untG]
    rw [if_neg (hs c (by simp)), if_neg (by rw [h.1]; simp), ih]
    simp
theorem untG_inv {stop : Int} {may : Int → Bool} : ∀ {b : List Int} {k : Nat} {t r : List Int}, untG stop may k b = (0, t, r) → (∃ X, r = stop :: X ∧ b = t ++ r) ∧ (∀ c ∈ t, c ≠ stop) ∧ goAll may k t = true
  | [], k, t, r, h => by simp [untG] at h
  | c :: q, k, t, r, h => by
    unfold untG at h
    split at h
    · rename_i e
      simp at h
      obtain ⟨rfl, rfl⟩ := h
      exact ⟨⟨q, by rw [e], rfl⟩, (fun x hx => by cases hx), rfl⟩
    · rename_i hne
      split at h
      · simp at h
      · rename_i hok
        split at h
        · rename_i h0
          match hu : untG stop may (k + 1) q with
          | (e, t', r') =>
            rw [hu] at h h0
            simp at h h0
            subst h0
            obtain ⟨rfl, rfl⟩ := h
            obtain ⟨⟨X, i1, i2⟩, i3, i4⟩ := untG_inv hu
            refine ⟨⟨X, i1, by rw [i2]; simp⟩, fun x hx => ?_, ?_⟩
            · rcases List.mem_cons.1 hx with rfl | hx
              · exact hne
              · exact i3 x hx
            · unfold goAll
              rw [i4, Bool.and_true]
              simpa using hok
        · rename_i h0
          simp at h
          exact absurd h.1 h0
theorem untG_short {stop : Int} {may : Int → Bool} : ∀ (t X : List Int) (k c : Nat), goAll may k t = true → (∀ c ∈ t, c ≠ stop) → c ≤ t.length → (untG stop may k ((t ++ stop :: X).take c)).1 = 8
  | t, X, k, 0, _, _, _ => by simp [untG]
  | [], X, k, c + 1, _, _, hc => by simp at hc
  | d :: t, X, k, c + 1, h, hs, hc => by
    unfold goAll at h
    rw [Bool.and_eq_true] at h
    have ih := untG_short t X (k + 1) c h.2 (fun x hx => hs x (by simp [hx])) (by simpa using hc)
    simp only [List.cons_append, List.take_succ_cons, untG]
    rw [if_neg (hs d (by simp)), if_neg (by rw [h.1]; simp), ih]
    simp
theorem law_untG (stop : Int) (may : Int → Bool) : PzLaw (untG stop may 0) := by
  refine ⟨fun X h => ?_, fun h => ?_, fun c h hc => ?_, fun c h hc => ?_⟩
  all_goals
    obtain ⟨⟨Y, rfl, e⟩, h2, h3⟩ := untG_inv h
    rename_i t
    rw [e]
  · rw [List.append_assoc, List.cons_append]
    exact untG_say t _ 0 h3 h2
  · simp
  · rw [e] at hc
    exact untG_short t Y 0 c h3 h2 (by simp at hc; omega)
  · rw [e] at hc
    have hc' : t.length ≤ c := by simp at hc; omega
    by_cases hq : c = t.length
    · left
      exact untG_short t Y 0 c h3 h2 (by omega)
    · right
      have e2 : (t ++ stop :: Y).take c = t ++ stop :: Y.take (c - t.length - 1) := by
        rw [List.take_append, List.take_of_length_le hc']
        match hx : c - t.length with
        | 0 => omega
        | m + 1 => simp
      rw [e2, untG_say t _ 0 h3 h2]
      congr 3
      simp
      match hx : c - t.length with
      | 0 => omega
      | m + 1 => simp
theorem law_txt (stop : Int) (may : Int → Bool) (least : Nat) : PzLaw (txtP stop may least) := law_bind (law_untG _ _) fun _ => law_if (law_bind law_skip fun _ => law_ret _) (law_fail (by omega))
theorem law_val (least : Nat) : PzLaw (valP least) := law_bind (law_txt _ _ _) fun _ => law_bind (law_mts _) fun _ => law_ret _
theorem law_digQ (least most : Int) : PzLaw (digQ least most) := law_look fun _ => law_if (law_bind law_skip fun _ => law_ret _) (law_fail (by omega))
theorem law_lenR' : ∀ (b : List Int) (n : Int) {v : Int} {r : List Int}, lenR n b = (0, v, r) →
    (∀ X, lenR n (b ++ X) = (0, v, r ++ X) ∨ b = []) ∧ r.length ≤ b.length ∧ (∀ c, c < b.length - r.length → (lenR n (b.take c)).1 = 8) ∧ (∀ c, b.length - r.length ≤ c → (lenR n (b.take c)).1 = 8 ∨ lenR n (b.take c) = (0, v, r.take (c - (b.length - r.length)))) := by
  intro b
  induction b with
  | nil =>
    intro n v r h
    unfold lenR at h
    split at h
    · simp at h
    · rename_i h0
      simp at h
      obtain ⟨rfl, rfl⟩ := h
      refine ⟨fun X => Or.inr rfl, by simp, fun c hc => by simp at hc, fun c hc => Or.inr ?_⟩
      simp [lenR, h0]
  | cons d q ih =>
    intro n v r h
    unfold lenR at h
    by_cases c1 : ¬ 0 < n ∨ d = 13
    · rw [if_pos c1] at h
      simp at h
      obtain ⟨rfl, rfl⟩ := h
      refine ⟨fun X => Or.inl ?_, by simp, fun c hc => by simp at hc, fun c hc => ?_⟩
      · rw [List.cons_append, lenR, if_pos c1]
      · match c with
        | 0 =>
          by_cases h0 : 0 < n
          · left; simp [lenR, h0]
          · right; simp [lenR, h0]
        | c + 1 =>
          right
          rw [List.take_succ_cons, lenR, if_pos c1]
          simp
    · rw [if_neg c1] at h
      have hn : 0 < n := by omega
      by_cases c2 : d < 48 ∨ 57 < d
      · rw [if_pos c2] at h; simp at h
      · rw [if_neg c2] at h
        by_cases c3 : 8000 < 10 * n + (d - 48)
        · rw [if_pos c3] at h; simp at h
        · rw [if_neg c3] at h
          obtain ⟨i1, i2, i3, i4⟩ := ih _ h
          have hq : q ≠ [] := by
            rintro rfl
            unfold lenR at h
            rw [if_pos (by omega)] at h
            simp at h
          refine ⟨fun X => Or.inl ?_, by simp; omega, fun c hc => ?_, fun c hc => ?_⟩
          · rw [List.cons_append, lenR, if_neg c1, if_neg c2, if_neg c3]
            exact (i1 X).resolve_right hq
          · match c with
            | 0 => simp [lenR, hn]
            | c + 1 =>
              rw [List.take_succ_cons, lenR, if_neg c1, if_neg c2, if_neg c3]
              exact i3 c (by simp at hc; omega)
          · match c with
            | 0 => left; simp [lenR, hn]
            | c + 1 =>
              rw [List.take_succ_cons, lenR, if_neg c1, if_neg c2, if_neg c3]
              have e : c + 1 - ((d :: q).length - r.length) = c - (q.length - r.length) := by simp; omega
              rw [e]
              exact i4 c (by simp at hc; omega)
theorem law_lenR (n : Int) : PzLaw (lenR n) := by
  refine ⟨fun {b v r} X h => ?_, fun h => (law_lenR' _ _ h).2.1, fun c h => (law_lenR' _ _ h).2.2.1 c, fun c h => (law_lenR' _ _ h).2.2.2 c⟩
  rcases (law_lenR' _ _ h).1 X with e | e
  · exact e
  · subst e
    unfold lenR at h
    split at h
    · simp at h
    · rename_i h0
      simp at h
      obtain ⟨rfl, rfl⟩ := h
      rw [List.nil_append]
      match X with
      | [] => simp [lenR, h0]
      | c :: X => rw [lenR, if_pos (Or.inl h0)]
theorem law_lenQ (least : Int) : PzLaw (lenQ least) := law_bind (law_mts _) fun _ => law_bind (law_digQ _ _) fun _ => law_bind (law_lenR _) fun _ => law_bind (law_mts _) fun _ => law_ret _
theorem law_last {least : Int} {coded : Bool} {n : List Int} {p : Pz (Int × Bool)} (h : lastP least coded n = some p) : PzLaw p := by
  unfold lastP at h
  split at h
  · cases h; exact law_bind (law_lenQ _) fun _ => law_ret _
  · split at h
    · cases h; exact law_bind (law_mts _) fun _ => law_ret _
    · cases h
theorem law_headB {least : Int} {coded : Bool} {acc : List Fd} {next : List Int → Pz Hd} (hn : ∀ n, PzLaw (next n)) : PzLaw (headB least coded acc next) := by
  refine law_look fun _ => law_if (law_bind (law_mts _) fun _ => law_ret _) (law_bind (law_txt _ _ _) fun n => ?_)
  split
  · rename_i p hp
    exact law_bind (law_last hp) fun _ => law_bind (law_mts _) fun _ => law_ret _
  · exact law_if (law_fail (by omega)) (hn _)
theorem law_head (least : Int) (coded : Bool) : ∀ (k : Nat) (acc : List Fd), PzLaw (headP least coded k acc)
  | 0, _ => law_headB fun _ => law_fail (by omega)
  | k + 1, _ => law_headB fun _ => law_bind (law_mts _) fun _ => law_bind (law_val _) fun _ => law_head least coded k _
theorem law_ask : PzLaw askP := law_bind (law_txt _ _ _) fun _ => law_bind (law_txt _ _ _) fun _ => law_bind (law_mts _) fun _ => law_bind (law_val _) fun _ => law_bind (law_head _ _ _ _) fun _ => law_bind (law_body _) fun _ => law_ret _
theorem law_codeQ : PzLaw codeQ := law_bind (law_digQ _ _) fun _ => law_bind (law_digQ _ _) fun _ => law_bind (law_digQ _ _) fun _ => law_bind (law_mts _) fun _ => law_ret _
end Go.Proofs.YtibipnipeaeonaaGreatDoor
/-
  MESSAGES AS LINES, as mathematics: what is written is read as it was; cut off it is not whole. No claim by itself.
-/
namespace Go.Proofs.YtibipnipeaeonaaGreatDoor
set_option maxRecDepth 100000
/- kinds of bytes -/
theorem small_ok3 {c : Int} (h : isSmall c = true) : 45 ≤ c ∧ c ≤ 122 ∧ c ≠ 58 ∧ isGreat c = false := by
  unfold isSmall at h
  unfold isGreat
  simp at h ⊢
  omega
theorem ok0_range {c : Int} (h : ok0 c = true) : 45 ≤ c ∧ c ≤ 122 := by
  unfold ok0 isSmall isGreat at h
  simp at h
  omega
theorem name_small {s : List Int} (h : nameL s = true) : s ≠ [] ∧ s.length ≤ 400 ∧ ∀ c ∈ s, isSmall c = true ∧ c ≠ 58 := by
  unfold nameL tokL at h
  simp only [Bool.and_eq_true, List.all_eq_true, decide_eq_true_eq, Bool.not_eq_true', List.isEmpty_eq_false_iff] at h
  obtain ⟨h1, ⟨h2, h3⟩, h4⟩ := h
  refine ⟨h3, h4, fun c hc => ?_⟩
  have a := h1 c hc
  have b := h2 c hc
  unfold ok0 at b
  rw [a] at b
  have b' : isSmall c = true := by simpa using b
  exact ⟨b', (small_ok3 b').2.2.1⟩
theorem name_of {s : List Int} (h0 : s ≠ []) (h1 : s.length ≤ 400) (h2 : ∀ c ∈ s, isSmall c = true) : nameL s = true := by
  unfold nameL tokL
  simp only [Bool.and_eq_true, List.all_eq_true, decide_eq_true_eq, Bool.not_eq_true', List.isEmpty_eq_false_iff]
  exact ⟨fun c hc => (small_ok3 (h2 c hc)).2.2.2, ⟨fun c hc => by unfold ok0; rw [h2 c hc]; rfl, h0⟩, h1⟩
theorem plain_ok {s : List Int} (h : plainL s = true) : s.length ≤ 400 ∧ (∀ c ∈ s, ok3 c = true ∧ c ≠ 13) ∧ (s = [] ∨ s.headD 0 ≠ 32) := by
  unfold plainL at h
  simp only [Bool.and_eq_true, Bool.or_eq_true, List.all_eq_true, decide_eq_true_eq, Bool.not_eq_true', List.isEmpty_iff, decide_eq_false_iff_not] at h
  obtain ⟨h1, h2⟩ := h
  refine ⟨?_, fun c hc => ⟨h1 c hc, ?_⟩, ?_⟩
  · rcases h2 with rfl | h2
    · simp
    · exact h2.1.1
  · have := h1 c hc
    unfold ok3 at this
    simp at this
    omega
  · exact h2.imp id (fun k => k.1.2)
theorem tok_ok {s : List Int} (h : tokL s = true) : s ≠ [] ∧ s.length ≤ 400 ∧ ∀ c ∈ s, ok0 c = true ∧ c ≠ 32 := by
  unfold tokL at h
  simp only [Bool.and_eq_true, List.all_eq_true, decide_eq_true_eq, Bool.not_eq_true', List.isEmpty_eq_false_iff] at h
  obtain ⟨⟨h1, h2⟩, h3⟩ := h
  exact ⟨h2, h3, fun c hc => ⟨h1 c hc, by have := ok0_range (h1 c hc); omega⟩⟩
theorem tok_of {s : List Int} (h0 : s ≠ []) (h1 : s.length ≤ 400) (h2 : ∀ c ∈ s, ok0 c = true) : tokL s = true := by
  unfold tokL
  simp only [Bool.and_eq_true, List.all_eq_true, decide_eq_true_eq, Bool.not_eq_true', List.isEmpty_eq_false_iff]
  exact ⟨⟨h2, h0⟩, h1⟩
theorem word_ok {s : List Int} (h : wordL s = true) : s ≠ [] ∧ s.length ≤ 400 ∧ ∀ c ∈ s, ok2 c = true ∧ c ≠ 32 := by
  unfold wordL at h
  simp only [Bool.and_eq_true, List.all_eq_true, Bool.not_eq_true', List.isEmpty_eq_false_iff, decide_eq_false_iff_not] at h
  obtain ⟨⟨h1, h2⟩, h3⟩ := h
  obtain ⟨p1, p2, _⟩ := plain_ok h2
  refine ⟨h3, p1, fun c hc => ⟨?_, h1 c hc⟩⟩
  have := (p2 c hc).1
  have hn := h1 c hc
  unfold ok3 at this
  unfold ok2
  simp at this ⊢
  omega
theorem word_of {s : List Int} (h0 : s ≠ []) (h1 : s.length ≤ 400) (h2 : ∀ c ∈ s, ok2 c = true) : wordL s = true := by
  have h3 : ∀ c ∈ s, c ≠ 32 ∧ ok3 c = true := fun c hc => by
    have := h2 c hc
    unfold ok2 at this
    unfold ok3
    simp at this ⊢
    omega
  unfold wordL plainL
  simp only [Bool.and_eq_true, Bool.or_eq_true, List.all_eq_true, Bool.not_eq_true', List.isEmpty_eq_false_iff, decide_eq_false_iff_not, decide_eq_true_eq]
  refine ⟨⟨fun c hc => (h3 c hc).1, fun c hc => (h3 c hc).2, Or.inr ⟨⟨h1, ?_⟩, ?_⟩⟩, h0⟩
  · match s, h0 with
    | c :: r, _ => exact (h3 c (by simp)).1
  · have : s.getLastD 0 ∈ s := by
      have e : s.getLastD 0 = s.getLast h0 := by
        rw [List.getLastD_eq_getLast?]
        first | rw [List.getLast?_eq_some_getLast h0] | rw [List.getLast?_eq_getLast h0]
        rfl
      rw [e]
      exact List.getLast_mem h0
    exact (h3 _ this).1
/- texts of a form -/
theorem goAll_iff {may : Int → Bool} : ∀ {s : List Int} {k : Nat}, goAll may k s = true ↔ ∀ i, i < s.length → goF may (k + i) (s.getD i 0) = true
  | [], k => by simp [goAll]
  | c :: r, k => by
    unfold goAll
    rw [Bool.and_eq_true, goAll_iff (s := r)]
    constructor
    · rintro ⟨h1, h2⟩ i hi
      match i with
      | 0 => simpa using h1
      | i + 1 =>
        have := h2 i (by simpa using hi)
        rw [show k + (i + 1) = k + 1 + i by omega]
        simpa using this
    · intro h
      refine ⟨by simpa using h 0 (by simp), fun i hi => ?_⟩
      have := h (i + 1) (by simpa using hi)
      rw [show k + (i + 1) = k + 1 + i by omega] at this
      simpa using this
theorem goF_iff {may : Int → Bool} {k : Nat} {c : Int} : goF may k c = true ↔ k < 400 ∧ may c = true ∧ (c = 32 → 0 < k ∧ k < 399) := by
  unfold goF
  by_cases h : c = 32 <;> simp [h, and_assoc]
theorem mem_getD {s : List Int} {c : Int} (h : c ∈ s) : ∃ i, i < s.length ∧ s.getD i 0 = c := by
  obtain ⟨i, hi, rfl⟩ := List.getElem_of_mem h
  exact ⟨i, hi, by simp [List.getD, List.getElem?_eq_getElem hi]⟩
theorem getD_in {s : List Int} {i : Nat} (h : i < s.length) : s.getD i 0 ∈ s := by
  rw [List.getD, List.getElem?_eq_getElem h]
  exact List.getElem_mem _
theorem goAll_all {may : Int → Bool} {s : List Int} (h : goAll may 0 s = true) : s.length ≤ 400 ∧ ∀ c ∈ s, may c = true := by
  rw [goAll_iff] at h
  constructor
  · rcases Nat.lt_or_ge 400 s.length with h1 | h1
    · have := (goF_iff.1 (h 400 h1)).1
      omega
    · exact h1
  · intro c hc
    obtain ⟨i, hi, rfl⟩ := mem_getD hc
    exact (goF_iff.1 (h i hi)).2.1
theorem goAll_of {may : Int → Bool} {s : List Int} (h1 : s.length ≤ 400) (h2 : ∀ c ∈ s, may c = true ∧ c ≠ 32) : goAll may 0 s = true := by
  rw [goAll_iff]
  intro i hi
  have := h2 _ (getD_in hi)
  exact goF_iff.2 ⟨by omega, this.1, fun e => absurd e this.2⟩
theorem last_in {s : List Int} (_h : s ≠ []) : s.getLastD 0 = s.getD (s.length - 1) 0 := by
  rw [List.getLastD_eq_getLast?, List.getLast?_eq_getElem?]
  rfl
theorem ends_iff {least : Nat} {s : List Int} : endsL least s = true ↔ least ≤ s.length ∧ s.getLastD 0 ≠ 32 := by
  unfold endsL
  simp
theorem form_iff {may : Int → Bool} {least : Nat} {s : List Int} : formL may least s = true ↔ goAll may 0 s = true ∧ least ≤ s.length ∧ s.getLastD 0 ≠ 32 := by
  unfold formL
  rw [Bool.and_eq_true, ends_iff]
theorem pos_of {s : List Int} (h : s ≠ []) : 1 ≤ s.length := List.length_pos_iff.2 h
theorem bare_of {may : Int → Bool} (hm : ∀ c, may c = true → c ≠ 32) {s : List Int} (h0 : s ≠ []) (h1 : s.length ≤ 400) (h2 : ∀ c ∈ s, may c = true) : formL may 1 s = true := by
  have h3 : ∀ c ∈ s, may c = true ∧ c ≠ 32 := fun c hc => ⟨h2 c hc, hm c (h2 c hc)⟩
  have hp := pos_of h0
  refine form_iff.2 ⟨goAll_of h1 h3, hp, ?_⟩
  rw [last_in h0]
  exact (h3 _ (getD_in (by omega))).2
theorem ok0_ne {c : Int} (h : ok0 c = true) : c ≠ 32 := by have := ok0_range h; omega
theorem ok2_ne {c : Int} (h : ok2 c = true) : c ≠ 32 := by
  unfold ok2 at h
  simp at h
  omega
theorem small_ne {c : Int} (h : isSmall c = true) : c ≠ 32 := by have := (small_ok3 h).1; omega
theorem form_tok (s : List Int) : formL ok0 1 s = tokL s := by
  rw [Bool.eq_iff_iff]
  constructor
  · intro h
    obtain ⟨h1, h2, _⟩ := form_iff.1 h
    obtain ⟨h3, h4⟩ := goAll_all h1
    exact tok_of (fun e => by rw [e] at h2; simp at h2) h3 h4
  · intro h
    obtain ⟨h1, h2, h3⟩ := tok_ok h
    exact bare_of (fun _ => ok0_ne) h1 h2 (fun c hc => (h3 c hc).1)
theorem form_word (s : List Int) : formL ok2 1 s = wordL s := by
  rw [Bool.eq_iff_iff]
  constructor
  · intro h
    obtain ⟨h1, h2, _⟩ := form_iff.1 h
    obtain ⟨h3, h4⟩ := goAll_all h1
    exact word_of (fun e => by rw [e] at h2; simp at h2) h3 h4
  · intro h
    obtain ⟨h1, h2, h3⟩ := word_ok h
    exact bare_of (fun _ => ok2_ne) h1 h2 (fun c hc => (h3 c hc).1)
theorem form_name (s : List Int) : formL isSmall 1 s = nameL s := by
  rw [Bool.eq_iff_iff]
  constructor
  · intro h
    obtain ⟨h1, h2, _⟩ := form_iff.1 h
    obtain ⟨h3, h4⟩ := goAll_all h1
    exact name_of (fun e => by rw [e] at h2; simp at h2) h3 h4
  · intro h
    obtain ⟨h1, h2, h3⟩ := name_small h
    exact bare_of (fun _ => small_ne) h1 h2 (fun c hc => (h3 c hc).1)
theorem plain_iff {s : List Int} : plainL s = true ↔ (∀ c ∈ s, ok3 c = true) ∧ (s = [] ∨ (s.length ≤ 400 ∧ s.headD 0 ≠ 32 ∧ s.getLastD 0 ≠ 32)) := by
  unfold plainL
  simp only [Bool.and_eq_true, Bool.or_eq_true, List.all_eq_true, decide_eq_true_eq, Bool.not_eq_true', List.isEmpty_iff, decide_eq_false_iff_not, and_assoc]
theorem form_plain (least : Nat) (s : List Int) : formL ok3 least s = (plainL s && decide (least ≤ s.length)) := by
  rw [Bool.eq_iff_iff, Bool.and_eq_true, plain_iff, form_iff, decide_eq_true_eq]
  constructor
  · rintro ⟨h1, h2, h3⟩
    obtain ⟨h4, h5⟩ := goAll_all h1
    refine ⟨⟨h5, ?_⟩, h2⟩
    by_cases h0 : s = []
    · exact Or.inl h0
    · right
      refine ⟨h4, ?_, h3⟩
      rw [goAll_iff] at h1
      have := (goF_iff.1 (h1 0 (pos_of h0))).2.2
      match s, h0 with
      | c :: r, _ =>
        intro e
        have := this (by simpa using e)
        omega
  · rintro ⟨⟨h1, h2⟩, h3⟩
    rcases h2 with rfl | ⟨h4, h5, h6⟩
    · exact ⟨rfl, h3, by simp⟩
    · refine ⟨?_, h3, h6⟩
      rw [goAll_iff]
      intro i hi
      refine goF_iff.2 ⟨by omega, h1 _ (getD_in hi), fun e => ?_⟩
      have hne : s ≠ [] := fun e => by rw [e] at hi; simp at hi
      rw [last_in hne] at h6
      rw [Nat.zero_add]
      constructor
      · rcases Nat.eq_zero_or_pos i with rfl | h
        · match s, hne with
          | c :: r, _ => exact absurd (by simpa using e) h5
        · exact h
      · rcases Nat.lt_or_ge i 399 with h | h
        · exact h
        · have : i = s.length - 1 := by omega
          rw [this] at e
          exact absurd e h6
theorem txt_say {stop : Int} {may : Int → Bool} {least : Nat} {t : List Int} (h : formL may least t = true) (hs : ∀ c ∈ t, c ≠ stop) (X : List Int) : txtP stop may least (t ++ stop :: X) = (0, t, X) := by
  obtain ⟨h1, h2, h3⟩ := form_iff.1 h
  unfold txtP
  rw [bindP_ok (untG_say t X 0 h1 hs), if_pos (ends_iff.2 ⟨h2, h3⟩), bindP_ok (v := ()) (r := X) rfl]
  rfl
theorem txt_inv {stop : Int} {may : Int → Bool} {least : Nat} {b t X : List Int} (h : txtP stop may least b = (0, t, X)) : formL may least t = true ∧ b = t ++ stop :: X := by
  unfold txtP at h
  obtain ⟨s, r1, h1, h2⟩ := bindP_inv h
  obtain ⟨⟨Y, rfl, e⟩, i2, i3⟩ := untG_inv h1
  by_cases he : endsL least s = true
  · rw [if_pos he] at h2
    obtain ⟨_, r2, h3, h4⟩ := bindP_inv h2
    obtain ⟨rfl, rfl⟩ := retP_inv h4
    obtain ⟨d, e2⟩ := skipP_inv h3
    cases e2
    exact ⟨form_iff.2 ⟨i3, ends_iff.1 he⟩, e⟩
  · rw [if_neg he] at h2
    simp [failP] at h2
theorem val_say {least : Nat} {v : List Int} (h : plainL v = true) (hl : least ≤ v.length) (X : List Int) : valP least (v ++ ([13, 10] ++ X)) = (0, v, X) := by
  unfold valP
  have h1 : formL ok3 least v = true := by rw [form_plain, h, decide_eq_true hl]; rfl
  have e : v ++ ([13, 10] ++ X) = v ++ 13 :: ([10] ++ X) := rfl
  rw [e, bindP_ok (txt_say h1 (fun c hc => ((plain_ok h).2.1 c hc).2) _), bindP_ok (mtsP_say _ _)]
  rfl
theorem val_inv {least : Nat} {b v r : List Int} (h : valP least b = (0, v, r)) : plainL v = true ∧ least ≤ v.length ∧ b = v ++ ([13, 10] ++ r) := by
  unfold valP at h
  obtain ⟨s, r1, h1, h2⟩ := bindP_inv h
  obtain ⟨i1, i2⟩ := txt_inv h1
  obtain ⟨_, r2, h3, h4⟩ := bindP_inv h2
  obtain ⟨rfl, rfl⟩ := retP_inv h4
  rw [form_plain, Bool.and_eq_true, decide_eq_true_eq] at i1
  exact ⟨i1.1, i1.2, by rw [i2, mtsP_inv h3]; rfl⟩
/- what is written is read -/
theorem dig_say {least most c : Int} (h : least + 48 ≤ c ∧ c ≤ most + 48) (X : List Int) : digQ least most (c :: X) = (0, c - 48, X) := by
  unfold digQ
  rw [lookP, if_pos h, bindP_ok (v := ()) (r := X) rfl]
  rfl
theorem dig_inv {least most v : Int} {b r : List Int} (h : digQ least most b = (0, v, r)) : least ≤ v ∧ v ≤ most ∧ b = (48 + v) :: r := by
  unfold digQ at h
  match b with
  | [] => simp [lookP] at h
  | c :: q =>
    rw [lookP] at h
    by_cases hc : least + 48 ≤ c ∧ c ≤ most + 48
    · rw [if_pos hc] at h
      obtain ⟨_, r1, h1, h2⟩ := bindP_inv h
      obtain ⟨rfl, rfl⟩ := retP_inv h2
      obtain ⟨d, e⟩ := skipP_inv h1
      cases e
      refine ⟨by omega, by omega, ?_⟩
      congr 1
      omega
    · rw [if_neg hc] at h
      simp [failP] at h
theorem lenR_dec : ∀ n : Nat, 1 ≤ n → n ≤ 8000 → ∃ (d : Nat) (ds : List Int), decL n = dc d :: ds ∧ 1 ≤ d ∧ d ≤ 9 ∧ ∀ Y, lenR d (ds ++ Y) = lenR n Y := by
  intro n
  induction n using Nat.strongRecOn with
  | _ n ih =>
    intro h1 h2
    by_cases h : n < 10
    · exact ⟨n, [], decL_one h, h1, by omega, fun Y => rfl⟩
    · obtain ⟨d, ds, e, i1, i2, i3⟩ := ih (n / 10) (by omega) (by omega) (by omega)
      refine ⟨d, ds ++ [dc (n % 10)], by rw [decL_more h, e]; rfl, i1, i2, fun Y => ?_⟩
      rw [List.append_assoc, i3, List.singleton_append, lenR, if_neg (by unfold dc; omega), if_neg (by unfold dc; omega), if_neg (by unfold dc; omega)]
      congr 1
      unfold dc
      omega
theorem lenQ_say {least : Int} (hl : 0 ≤ least) {n : Nat} (h1 : least ≤ n) (h1' : least ≤ 1) (h2 : n ≤ 8000) (X : List Int) : lenQ least ([32] ++ (decL n ++ ([13, 10] ++ X))) = (0, (n : Int), X) := by
  unfold lenQ
  rw [bindP_ok (mtsP_say _ _)]
  by_cases h0 : n = 0
  · subst h0
    rw [decL_one (by omega), List.singleton_append, bindP_ok (dig_say (by unfold dc; omega) _)]
    have e : lenR (dc 0 - 48) ([13, 10] ++ X) = (0, 0, [13, 10] ++ X) := by
      show lenR 0 (13 :: ([10] ++ X)) = _
      rw [lenR, if_pos (by omega)]
      rfl
    rw [bindP_ok e, bindP_ok (mtsP_say _ _)]
    rfl
  · obtain ⟨d, ds, e, i1, i2, i3⟩ := lenR_dec n (by omega) h2
    rw [e, List.cons_append, bindP_ok (dig_say (by unfold dc; omega) _)]
    have e2 : lenR (dc d - 48) (ds ++ ([13, 10] ++ X)) = (0, (n : Int), [13, 10] ++ X) := by
      rw [show dc d - 48 = (d : Int) by unfold dc; omega, i3]
      show lenR n (13 :: ([10] ++ X)) = _
      rw [lenR, if_pos (Or.inr rfl)]
      rfl
    rw [bindP_ok e2, bindP_ok (mtsP_say _ _)]
    rfl
theorem fld_ok {f : Fd} (h : fldE f = 0) : nameL f.1 = true ∧ plainL f.2 = true ∧ f.1 ≠ hostN ∧ f.1 ≠ lengthN ∧ f.1 ≠ codingN := by
  unfold fldE at h
  split at h
  · rename_i h1
    split at h
    · simp at h
    · rename_i h2
      exact ⟨h1.1, h1.2, fun e => h2 (Or.inl e), fun e => h2 (Or.inr (Or.inl e)), fun e => h2 (Or.inr (Or.inr e))⟩
  · simp at h
theorem fld_of {f : Fd} (h1 : nameL f.1 = true) (h2 : plainL f.2 = true) (h3 : f.1 ≠ hostN) (h4 : f.1 ≠ lengthN) (h5 : f.1 ≠ codingN) : fldE f = 0 := by
  unfold fldE
  rw [if_pos ⟨h1, h2⟩, if_neg]
  rintro (e | e | e)
  · exact h3 e
  · exact h4 e
  · exact h5 e
theorem flds_cons {f : Fd} {l : List Fd} : fldsE (f :: l) = 0 ↔ fldE f = 0 ∧ fldsE l = 0 := by
  show (if fldE f = 0 then fldsE l else fldE f) = 0 ↔ _
  by_cases h : fldE f = 0
  · simp [h]
  · simp [h]
theorem flds_app {l m : List Fd} : fldsE (l ++ m) = 0 ↔ fldsE l = 0 ∧ fldsE m = 0 := by
  induction l with
  | nil => simp [fldsE]
  | cons f l ih => rw [List.cons_append, flds_cons, flds_cons, ih, and_assoc]
theorem last_none {least : Int} {coded : Bool} {n : List Int} (h1 : n ≠ lengthN) (h2 : n ≠ codingN) : lastP least coded n = none := by
  unfold lastP
  rw [if_neg h1, if_neg (fun e => h2 e.1)]
theorem head_line {least : Int} {coded : Bool} {acc : List Fd} {next : List Int → Pz Hd} {f : Fd} (h : fldE f = 0) (X : List Int) : headB least coded acc next (f.1 ++ ([58] ++ X)) = next f.1 X := by
  obtain ⟨h1, h2, h3, h4, h5⟩ := fld_ok h
  obtain ⟨n0, n1, n2⟩ := name_small h1
  have hu := txt_say (stop := 58) (may := isSmall) (least := 1) (t := f.1) (by rw [form_name]; exact h1) (fun c hc => (n2 c hc).2) X
  unfold headB
  match hn : f.1 with
  | [] => exact absurd hn n0
  | c :: r =>
    rw [hn] at hu n2 h3 h4 h5
    have hc := (small_ok3 (n2 c (by simp)).1).1
    rw [List.cons_append, lookP, if_neg (by omega)]
    rw [show c :: (r ++ ([58] ++ X)) = (c :: r) ++ 58 :: X from rfl, bindP_ok hu]
    simp only [last_none h4 h5]
    rw [if_neg (by rintro (e | e | e); exact h3 e; exact h4 e; exact h5 e)]
theorem head_say {least : Int} {coded : Bool} : ∀ (l acc : List Fd) (k : Nat) (T : List Int), fldsE l = 0 → l.length ≤ k → headP least coded k acc (linesL l ++ T) = headP least coded (k - l.length) (acc ++ l) T
  | [], acc, k, T, _, _ => by simp [linesL]
  | f :: l, acc, k, T, h, hk => by
    obtain ⟨h1, h2⟩ := flds_cons.1 h
    match k with
    | 0 => simp at hk
    | k + 1 =>
      have e : linesL (f :: l) ++ T = f.1 ++ ([58] ++ ([32] ++ (f.2 ++ ([13, 10] ++ (linesL l ++ T))))) := by simp [linesL, lineOf]
      rw [e, headP, head_line h1, bindP_ok (mtsP_say _ _), bindP_ok (val_say (fld_ok h1).2.1 (Nat.zero_le _) _), head_say l _ k T h2 (by simpa using hk)]
      simp
theorem head_end {least : Int} {coded : Bool} {acc : List Fd} (k : Nat) (X : List Int) : headP least coded k acc ([13, 10] ++ X) = (0, (acc, -1, false), X) := by
  have go : ∀ next, headB least coded acc next ([13, 10] ++ X) = (0, (acc, -1, false), X) := fun next => by
    unfold headB
    rw [List.cons_append, lookP, if_pos rfl]
    rw [show (13 :: ([10] ++ X) : List Int) = [13, 10] ++ X from rfl, bindP_ok (mtsP_say _ _)]
    rfl
  cases k with
  | zero => exact go _
  | succ k => exact go _
theorem form_length : formL isSmall 1 lengthN = true := by decide
theorem form_coding : formL isSmall 1 codingN = true := by decide
theorem head_len {least : Int} (hl0 : 0 ≤ least) (hl1 : least ≤ 1) {coded : Bool} {acc : List Fd} (k n : Nat) (X : List Int) (h1 : least ≤ n) (h2 : n ≤ 8000) : headP least coded k acc (lenLine n ++ X) = (0, (acc, (n : Int), false), X) := by
  have go : ∀ next, headB least coded acc next (lenLine n ++ X) = (0, (acc, (n : Int), false), X) := fun next => by
    have hu := txt_say (stop := 58) (may := isSmall) (least := 1) form_length (by decide) ([32] ++ (decL n ++ ([13, 10] ++ ([13, 10] ++ X))))
    have e : lenLine n ++ X = lengthN ++ 58 :: ([32] ++ (decL n ++ ([13, 10] ++ ([13, 10] ++ X)))) := by simp [lenLine]
    have hp : lastP least coded lengthN = some (bindP (lenQ least) fun v => retP (v, false)) := rfl
    unfold headB
    rw [e]
    show lookP _ (108 :: _) = _
    rw [lookP, if_neg (by omega)]
    rw [show (108 :: _ : List Int) = lengthN ++ 58 :: ([32] ++ (decL n ++ ([13, 10] ++ ([13, 10] ++ X)))) from rfl, bindP_ok hu]
    simp only [hp]
    have h3 : bindP (lenQ least) (fun v => retP (v, false)) ([32] ++ (decL n ++ ([13, 10] ++ ([13, 10] ++ X)))) = (0, ((n : Int), false), [13, 10] ++ X) := by
      rw [bindP_ok (lenQ_say hl0 h1 hl1 h2 _)]
      rfl
    rw [bindP_ok h3, bindP_ok (mtsP_say _ _)]
    rfl
  cases k with
  | zero => exact go _
  | succ k => exact go _
theorem head_cod {least : Int} {acc : List Fd} (k : Nat) (X : List Int) : headP least true k acc (codingN ++ (chunkedS ++ X)) = (0, (acc, -1, true), X) := by
  have go : ∀ next, headB least true acc next (codingN ++ (chunkedS ++ X)) = (0, (acc, -1, true), X) := fun next => by
    have hu := txt_say (stop := 58) (may := isSmall) (least := 1) form_coding (by decide) (chunkedQ ++ ([13, 10] ++ X))
    have e : codingN ++ (chunkedS ++ X) = codingN ++ 58 :: (chunkedQ ++ ([13, 10] ++ X)) := rfl
    have hp : lastP least true codingN = some (bindP (mtsP chunkedQ) fun _ => retP (-1, true)) := rfl
    unfold headB
    rw [e]
    show lookP _ (99 :: _) = _
    rw [lookP, if_neg (by omega)]
    rw [show (99 :: _ : List Int) = codingN ++ 58 :: (chunkedQ ++ ([13, 10] ++ X)) from rfl, bindP_ok hu]
    simp only [hp]
    have h3 : bindP (mtsP chunkedQ) (fun _ => retP ((-1 : Int), true)) (chunkedQ ++ ([13, 10] ++ X)) = (0, (-1, true), [13, 10] ++ X) := by
      rw [bindP_ok (mtsP_say _ _)]
      rfl
    rw [bindP_ok h3, bindP_ok (mtsP_say _ _)]
    rfl
  cases k with
  | zero => exact go _
  | succ k => exact go _
theorem body_say (B X : List Int) : bodyP B.length (B ++ X) = (0, B, X) := by
  unfold bodyP
  rw [if_neg (by simp)]
  simp
theorem ask_ok {r : Rq} (h : askE r = 0) : r.fields.length ≤ 40 ∧ r.body.length ≤ 8000 ∧ tokL r.method = true ∧ wordL r.path = true ∧ plainL r.host = true ∧ r.host ≠ [] ∧ fldsE r.fields = 0 := by
  unfold askE at h
  split at h
  · simp at h
  · split at h
    · rename_i h1 h2
      exact ⟨by omega, by omega, h2.1, h2.2.1, h2.2.2.1, h2.2.2.2, h⟩
    · simp at h
theorem ask_say {r : Rq} (h : askE r = 0) (X : List Int) : askP (askL r ++ X) = (0, r, X) := by
  obtain ⟨h1, h2, h3, h4, h5, h6, h7⟩ := ask_ok h
  obtain ⟨m, p, ho, l, B⟩ := r
  simp only at h1 h2 h3 h4 h5 h6 h7
  have hT : headP 1 false 40 [] (linesL l ++ (tailL B ++ X)) = (0, (l, if B = [] then -1 else (B.length : Int), false), B ++ X) := by
    rw [head_say l [] 40 _ h7 h1]
    unfold tailL
    by_cases hB : B = []
    · rw [if_pos hB, if_pos hB, head_end, hB]
      simp
    · have hl := pos_of hB
      rw [if_neg hB, if_neg hB, List.append_assoc, head_len (by omega) (by omega) _ _ _ (by omega) h2]
      simp
  have e0 : askL ⟨m, p, ho, l, B⟩ ++ X = m ++ 32 :: (p ++ 32 :: (edgeHostQ ++ (ho ++ ([13, 10] ++ (linesL l ++ (tailL B ++ X)))))) := by simp [askL, edgeHost, edgeHostQ]
  rw [e0]
  unfold askP
  rw [bindP_ok (txt_say (by rw [form_tok]; exact h3) (fun c hc => ((tok_ok h3).2.2 c hc).2) _), bindP_ok (txt_say (by rw [form_word]; exact h4) (fun c hc => ((word_ok h4).2.2 c hc).2) _)]
  rw [bindP_ok (mtsP_say _ _), bindP_ok (val_say h5 (pos_of h6) _), bindP_ok hT]
  have e1 : (if B = [] then -1 else (B.length : Int)).toNat = B.length := by
    by_cases hB : B = []
    · subst hB; rfl
    · rw [if_neg hB]; simp
  simp only
  rw [e1, bindP_ok (body_say B X)]
  rfl
/-- A request that is cut off anywhere is not whole. -/
theorem ask_cut {r : Rq} (h : askE r = 0) (c : Nat) (hc : c < (askL r).length) : (askP ((askL r).take c)).1 = 8 := by
  have h1 := ask_say h []
  rw [List.append_nil] at h1
  exact law_ask.cut c h1 (by simpa using hc)
end Go.Proofs.YtibipnipeaeonaaGreatDoor
/-
  MESSAGES AS LINES, as mathematics: what is read of bytes is written as these; replies. No claim by itself.
-/
namespace Go.Proofs.YtibipnipeaeonaaGreatDoor
set_option maxRecDepth 100000
theorem lenR_inv : ∀ (b : List Int) (n : Nat) {v : Int} {r : List Int}, 1 ≤ n → n ≤ 8000 → lenR n b = (0, v, r) → ∃ (m : Nat) (ds : List Int), v = m ∧ 1 ≤ m ∧ m ≤ 8000 ∧ b = ds ++ r ∧ decL m = decL n ++ ds := by
  intro b
  induction b with
  | nil =>
    intro n v r h1 h2 h
    unfold lenR at h
    rw [if_pos (by omega)] at h
    simp at h
  | cons d q ih =>
    intro n v r h1 h2 h
    unfold lenR at h
    by_cases c1 : ¬ (0 : Int) < n ∨ d = 13
    · rw [if_pos c1] at h
      simp at h
      obtain ⟨rfl, rfl⟩ := h
      exact ⟨n, [], rfl, h1, h2, rfl, by simp⟩
    · rw [if_neg c1] at h
      by_cases c2 : d < 48 ∨ 57 < d
      · rw [if_pos c2] at h; simp at h
      · rw [if_neg c2] at h
        by_cases c3 : 8000 < 10 * (n : Int) + (d - 48)
        · rw [if_pos c3] at h; simp at h
        · rw [if_neg c3] at h
          have e : 10 * (n : Int) + (d - 48) = ((10 * n + (d - 48).toNat : Nat) : Int) := by omega
          rw [e] at h
          obtain ⟨m, ds, i1, i2, i3, i4, i5⟩ := ih (10 * n + (d - 48).toNat) (by omega) (by omega) h
          refine ⟨m, d :: ds, i1, i2, i3, by rw [i4]; rfl, ?_⟩
          rw [i5, decL_more (by omega)]
          have e1 : (10 * n + (d - 48).toNat) / 10 = n := by omega
          have e2 : dc ((10 * n + (d - 48).toNat) % 10) = d := by unfold dc; omega
          rw [e1, e2, List.append_assoc]
          rfl
theorem lenQ_inv {least : Int} (hl : 0 ≤ least) {b : List Int} {v : Int} {r : List Int} (h : lenQ least b = (0, v, r)) : ∃ n : Nat, v = n ∧ least ≤ n ∧ n ≤ 8000 ∧ b = [32] ++ (decL n ++ ([13, 10] ++ r)) := by
  unfold lenQ at h
  obtain ⟨_, r1, h1, h2⟩ := bindP_inv h
  obtain ⟨n, r2, h3, h4⟩ := bindP_inv h2
  obtain ⟨m, r3, h5, h6⟩ := bindP_inv h4
  obtain ⟨_, r4, h7, h8⟩ := bindP_inv h6
  obtain ⟨rfl, rfl⟩ := retP_inv h8
  obtain ⟨d1, d2, d3⟩ := dig_inv h3
  obtain ⟨k, rfl⟩ : ∃ k : Nat, n = k := ⟨n.toNat, by omega⟩
  by_cases h0 : k = 0
  · subst h0
    have e : v = 0 ∧ r3 = r2 := by
      match r2 with
      | [] => simp [lenR] at h5; exact ⟨h5.1.symm, h5.2⟩
      | c :: q => rw [lenR, if_pos (by omega)] at h5; simp at h5; exact ⟨h5.1.symm, h5.2.symm⟩
    obtain ⟨rfl, rfl⟩ := e
    refine ⟨0, rfl, by omega, by omega, ?_⟩
    rw [mtsP_inv h1, d3, mtsP_inv h7, decL_one (by omega)]
    rfl
  · obtain ⟨m, ds, rfl, i2, i3, i4, i5⟩ := lenR_inv r2 k (by omega) (by omega) h5
    refine ⟨m, rfl, ?_, i3, ?_⟩
    · by_cases hm : m < k
      · exfalso
        have e1 : decL k = [dc k] := decL_one (by omega)
        have e2 : decL m = [dc m] := decL_one (by omega)
        rw [e1, e2] at i5
        simp at i5
        unfold dc at i5
        omega
      · omega
    · rw [mtsP_inv h1, d3, i4, mtsP_inv h7, i5, decL_one (show k < 10 by omega)]
      simp [dc]
/-- What a head is, when it was read. -/
def HdAt (least : Int) (coded : Bool) (l : List Fd) (b : List Int) (n : Int) (pc : Bool) (r : List Int) : Prop :=
  (n = -1 ∧ pc = false ∧ b = linesL l ++ ([13, 10] ++ r)) ∨ (∃ v : Nat, n = v ∧ pc = false ∧ least ≤ v ∧ v ≤ 8000 ∧ b = linesL l ++ (lenLine v ++ r)) ∨ (coded = true ∧ n = -1 ∧ pc = true ∧ b = linesL l ++ (codingN ++ (chunkedS ++ r)))
theorem last_inv {least : Int} (hl : 0 ≤ least) {coded : Bool} {m : List Int} {p : Pz (Int × Bool)} (h : lastP least coded m = some p) {b r : List Int} {v : Int × Bool} (hp : p b = (0, v, r)) :
    (m = lengthN ∧ v.2 = false ∧ ∃ n : Nat, v.1 = n ∧ least ≤ n ∧ n ≤ 8000 ∧ b = [32] ++ (decL n ++ ([13, 10] ++ r))) ∨ (m = codingN ∧ coded = true ∧ v = (-1, true) ∧ b = chunkedQ ++ r) := by
  unfold lastP at h
  split at h
  · rename_i e
    cases h
    obtain ⟨x, r1, h1, h2⟩ := bindP_inv hp
    obtain ⟨rfl, rfl⟩ := retP_inv h2
    exact Or.inl ⟨e, rfl, lenQ_inv hl h1⟩
  · split at h
    · rename_i e
      cases h
      obtain ⟨x, r1, h1, h2⟩ := bindP_inv hp
      obtain ⟨rfl, rfl⟩ := retP_inv h2
      exact Or.inr ⟨e.1, e.2, rfl, mtsP_inv h1⟩
    · cases h
theorem headB_inv {least : Int} (hl : 0 ≤ least) {coded : Bool} {acc : List Fd} {next : List Int → Pz Hd} {b : List Int} {l : List Fd} {n : Int} {pc : Bool} {r : List Int} (h : headB least coded acc next b = (0, (l, n, pc), r)) :
    (l = acc ∧ HdAt least coded [] b n pc r) ∨ (∃ m X, nameL m = true ∧ m ≠ hostN ∧ m ≠ lengthN ∧ m ≠ codingN ∧ b = m ++ ([58] ++ X) ∧ next m X = (0, (l, n, pc), r)) := by
  unfold headB at h
  match b with
  | [] => simp [lookP] at h
  | c :: q =>
    rw [lookP] at h
    by_cases hc : c = 13
    · rw [if_pos hc] at h
      obtain ⟨_, r1, h1, h2⟩ := bindP_inv h
      obtain ⟨e, rfl⟩ := retP_inv h2
      simp at e
      obtain ⟨rfl, rfl, rfl⟩ := e
      exact Or.inl ⟨rfl, Or.inl ⟨rfl, rfl, by rw [mtsP_inv h1]; rfl⟩⟩
    · rw [if_neg hc] at h
      obtain ⟨m, r1, h1, h2⟩ := bindP_inv h
      obtain ⟨e1, e2⟩ := txt_inv h1
      rw [form_name] at e1
      match hp : lastP least coded m with
      | some p =>
        simp only [hp] at h2
        obtain ⟨v, r2, h3, h4⟩ := bindP_inv h2
        obtain ⟨_, r3, h5, h6⟩ := bindP_inv h4
        obtain ⟨e, rfl⟩ := retP_inv h6
        simp at e
        obtain ⟨rfl, rfl, rfl⟩ := e
        rcases last_inv hl hp h3 with ⟨rfl, k1, k, k2, k3, k4, k5⟩ | ⟨rfl, k1, rfl, k2⟩
        · refine Or.inl ⟨rfl, Or.inr (Or.inl ⟨k, k2, k1, k3, k4, ?_⟩)⟩
          rw [e2, k5, mtsP_inv h5]
          simp [linesL, lenLine]
        · refine Or.inl ⟨rfl, Or.inr (Or.inr ⟨k1, rfl, rfl, ?_⟩)⟩
          rw [e2, k2, mtsP_inv h5]
          simp [linesL, chunkedQ, chunkedS]
      | none =>
        simp only [hp] at h2
        by_cases m3 : m = hostN ∨ m = lengthN ∨ m = codingN
        · rw [if_pos m3] at h2; simp [failP] at h2
        · rw [if_neg m3] at h2
          exact Or.inr ⟨m, r1, e1, fun e => m3 (Or.inl e), fun e => m3 (Or.inr (Or.inl e)), fun e => m3 (Or.inr (Or.inr e)), e2, h2⟩
theorem HdAt.more {least : Int} {coded : Bool} {l : List Fd} {b : List Int} {n : Int} {pc : Bool} {r : List Int} (h : HdAt least coded l b n pc r) (f : Fd) : HdAt least coded (f :: l) (lineOf f ++ b) n pc r := by
  rcases h with ⟨h1, h2, h3⟩ | ⟨v, h1, h2, h3, h4, h5⟩ | ⟨h1, h2, h3, h4⟩
  · exact Or.inl ⟨h1, h2, by rw [h3]; simp [linesL]⟩
  · exact Or.inr (Or.inl ⟨v, h1, h2, h3, h4, by rw [h5]; simp [linesL]⟩)
  · exact Or.inr (Or.inr ⟨h1, h2, h3, by rw [h4]; simp [linesL]⟩)
theorem head_inv {least : Int} (hl : 0 ≤ least) {coded : Bool} : ∀ (k : Nat) (acc : List Fd) {b : List Int} {l : List Fd} {n : Int} {pc : Bool} {r : List Int}, headP least coded k acc b = (0, (l, n, pc), r) → ∃ l', l = acc ++ l' ∧ l'.length ≤ k ∧ fldsE l' = 0 ∧ HdAt least coded l' b n pc r
  | 0, acc, b, l, n, pc, r, h => by
    rcases headB_inv hl h with ⟨rfl, h1⟩ | ⟨m, X, _, _, _, _, _, h1⟩
    · exact ⟨[], by simp, by simp, rfl, h1⟩
    · simp [failP] at h1
  | k + 1, acc, b, l, n, pc, r, h => by
    rcases headB_inv hl h with ⟨rfl, h1⟩ | ⟨m, X, m1, m2, m3, m4, rfl, h1⟩
    · exact ⟨[], by simp, by simp, rfl, h1⟩
    · obtain ⟨_, r0, h0, h1'⟩ := bindP_inv h1
      obtain ⟨v, r1, h2, h3⟩ := bindP_inv h1'
      obtain ⟨p1, _, p2⟩ := val_inv h2
      obtain ⟨l', i1, i2, i3, i4⟩ := head_inv hl k _ h3
      refine ⟨(m, v) :: l', by rw [i1]; simp, by simp; omega, flds_cons.2 ⟨fld_of m1 p1 m2 m3 m4, i3⟩, ?_⟩
      have := i4.more (m, v)
      rw [mtsP_inv h0, p2]
      simpa [lineOf] using this
theorem ask_inv {b : List Int} {r : Rq} {X : List Int} (h : askP b = (0, r, X)) : askE r = 0 ∧ b = askL r ++ X := by
  unfold askP at h
  obtain ⟨m, r1, h1, h2⟩ := bindP_inv h
  obtain ⟨a1, a2⟩ := txt_inv h1
  rw [form_tok] at a1
  obtain ⟨p, r3, h5, h6⟩ := bindP_inv h2
  obtain ⟨b1, b2⟩ := txt_inv h5
  rw [form_word] at b1
  obtain ⟨_, r4, h7, h8⟩ := bindP_inv h6
  obtain ⟨ho, r5, h9, h10⟩ := bindP_inv h8
  obtain ⟨v1, v0, v2⟩ := val_inv h9
  have ho0 : ho ≠ [] := fun e => by rw [e] at v0; simp at v0
  obtain ⟨⟨l, n, pc⟩, r6, h11, h12⟩ := bindP_inv h10
  obtain ⟨l', i1, i2, i3, i4⟩ := head_inv (by omega) 40 [] h11
  rw [List.nil_append] at i1
  subst i1
  have fin : ∀ B : List Int, B.length ≤ 8000 → r = ⟨m, p, ho, l, B⟩ → r5 = linesL l ++ (tailL B ++ X) → askE r = 0 ∧ b = askL r ++ X := by
    rintro B hB rfl e5
    refine ⟨?_, ?_⟩
    · unfold askE
      rw [if_neg (by simp; omega), if_pos ⟨a1, b1, v1, ho0⟩]
      exact i3
    · rw [a2, b2, mtsP_inv h7, v2, e5]
      simp [askL, edgeHostQ, edgeHost]
  simp only at h12
  obtain ⟨B, r7, h13, h14⟩ := bindP_inv h12
  obtain ⟨e, rfl⟩ := retP_inv h14
  unfold bodyP at h13
  split at h13
  · simp at h13
  · rename_i hl
    simp at h13
    obtain ⟨rfl, rfl⟩ := h13
    rcases i4 with ⟨j1, j2, j3⟩ | ⟨v, j1, j2, j3, j4, j5⟩ | ⟨j1, _⟩
    · subst j1
      refine fin _ (by simp) e ?_
      rw [j3]
      simp [tailL]
    · subst j1
      simp only [Int.toNat_natCast] at e hl fin ⊢
      have hlen : (r6.take v).length = v := by simp; omega
      refine fin (r6.take v) (by omega) e ?_
      have hne : r6.take v ≠ [] := fun e9 => by rw [e9] at hlen; simp at hlen; omega
      rw [j5]
      unfold tailL
      rw [if_neg hne, hlen]
      simp
    · cases j1
end Go.Proofs.YtibipnipeaeonaaGreatDoor
/-
  REPLIES AS LINES, as mathematics: what is written is read as it was; cut off it is not whole. No claim by itself.
-/
namespace Go.Proofs.YtibipnipeaeonaaGreatDoor
set_option maxRecDepth 100000
/-- A reading of some bytes, and of a beginning of them. -/
structure PzAt {α : Type} (p : Pz α) (b : List Int) (v : α) (r : List Int) : Prop where
  ok : p b = (0, v, r)
  len : r.length ≤ b.length
  cut : ∀ c, c < b.length - r.length → (p (b.take c)).1 = 8
  more : ∀ c, b.length - r.length ≤ c → (p (b.take c)).1 = 8 ∨ p (b.take c) = (0, v, r.take (c - (b.length - r.length)))
theorem PzLaw.at {α : Type} {p : Pz α} (h : PzLaw p) {b : List Int} {v : α} {r : List Int} (k : p b = (0, v, r)) : PzAt p b v r := ⟨k, h.len k, fun c => h.cut c k, fun c => h.more c k⟩
theorem at_bind {α β : Type} [Inhabited β] {p : Pz α} {f : α → Pz β} {b : List Int} {v : α} {r1 : List Int} {x : β} {r : List Int} (h1 : PzAt p b v r1) (h2 : PzAt (f v) r1 x r) : PzAt (bindP p f) b x r := by
  have l1 := h1.len
  have l2 := h2.len
  refine ⟨by rw [bindP_ok h1.ok, h2.ok], Nat.le_trans l2 l1, fun c hc => ?_, fun c hc => ?_⟩
  · by_cases hc1 : c < b.length - r1.length
    · have e := h1.cut c hc1
      rw [bindP_no (by rw [e]; omega), e]
    · rcases h1.more c (by omega) with e | e
      · rw [bindP_no (by rw [e]; omega), e]
      · rw [bindP_ok e]
        exact h2.cut _ (by omega)
  · rcases h1.more c (by omega) with e | e
    · left; rw [bindP_no (by rw [e]; omega), e]
    · rw [bindP_ok e]
      rcases h2.more (c - (b.length - r1.length)) (by omega) with e2 | e2
      · exact Or.inl e2
      · right
        rw [e2]
        congr 3
        omega
theorem unch_ok {s : Nat} (hs : 1 ≤ s) (B X : List Int) (hB : B.length ≤ 8000) : unchP (chunkL s B ++ X) = (0, B, X) := by
  unfold unchP
  rw [unF_chunk hs B.length B [] X _ (Nat.le_refl _) (by simpa using hB) (by omega)]
  simp
theorem unch_at {s : Nat} (hs : 1 ≤ s) (B : List Int) (hB : B.length ≤ 8000) : PzAt unchP (chunkL s B) B [] := by
  have h0 := unch_ok hs B [] hB
  rw [List.append_nil] at h0
  refine ⟨h0, by simp, fun c hc => ?_, fun c hc => ?_⟩
  · have := unch_cut hs B hB c (by simpa using hc)
    unfold unchP
    exact congrArg Prod.fst this
  · right
    rw [List.take_of_length_le (by simpa using hc), h0]
    simp
theorem dec3 {n : Nat} (h1 : 100 ≤ n) (h2 : n ≤ 599) : decL n = [dc (n / 10 / 10), dc (n / 10 % 10), dc (n % 10)] := by
  rw [decL_more (by omega), decL_more (by omega), decL_one (by omega)]
  rfl
theorem code_say {n : Nat} (h1 : 100 ≤ n) (h2 : n ≤ 599) (X : List Int) : codeQ (decL n ++ ([13, 10] ++ X)) = (0, (n : Int), X) := by
  unfold codeQ
  rw [dec3 h1 h2]
  simp only [List.cons_append, List.nil_append]
  rw [bindP_ok (dig_say (by unfold dc; omega) _), bindP_ok (dig_say (by unfold dc; omega) _), bindP_ok (dig_say (by unfold dc; omega) _)]
  rw [show (13 :: 10 :: X : List Int) = [13, 10] ++ X from rfl, bindP_ok (mtsP_say _ _)]
  unfold retP dc
  congr 2
  omega
theorem tell_ok {a : Rp} {size : Int} (h : tellE a size = 0) : a.fields.length ≤ 40 ∧ a.body.length ≤ 8000 ∧ 100 ≤ a.code ∧ a.code ≤ 599 ∧ 0 ≤ size ∧ fldsE a.fields = 0 := by
  unfold tellE at h
  split at h
  · simp at h
  · split at h
    · simp at h
    · rename_i h1 h2
      exact ⟨by omega, by omega, by omega, by omega, by omega, h⟩
/-- A reply's own reading, and of a beginning of it. -/
theorem tell_at {a : Rp} {size : Int} (h : tellE a size = 0) (hn : noBody false a.code = false) (closed : Bool) : PzAt (tellP false closed) (tellL a size) a [] := by
  obtain ⟨h1, h2, h3, h4, h5, h6⟩ := tell_ok h
  obtain ⟨code, l, B⟩ := a
  simp only at h1 h2 h3 h4 h6 hn
  obtain ⟨n, rfl⟩ : ∃ n : Nat, code = n := ⟨code.toNat, by omega⟩
  have hc := code_say (n := n) (by omega) (by omega) (linesL l ++ tellTail B size)
  have e0 : tellL ⟨(n : Int), l, B⟩ size = edgeSp ++ (decL n ++ ([13, 10] ++ (linesL l ++ tellTail B size))) := by simp [tellL]
  rw [e0]
  unfold tellP
  refine at_bind ((law_mts _).at (mtsP_say _ _)) ?_
  refine at_bind (law_codeQ.at hc) ?_
  by_cases hs : size = 0
  · have hh : headP 0 true 40 [] (linesL l ++ tellTail B size) = (0, (l, (B.length : Int), false), B) := by
      rw [head_say l [] 40 _ h6 h1]
      unfold tellTail
      rw [if_pos hs, head_len (by omega) (by omega) _ _ _ (by omega) h2]
      simp
    refine at_bind ((law_head _ _ _ _).at hh) ?_
    simp only
    rw [if_neg (by rw [hn]; simp)]
    unfold bodyK
    simp only
    rw [if_neg (by simp), if_pos (by omega)]
    have hb := body_say B []
    rw [List.append_nil] at hb
    rw [show ((B.length : Int)).toNat = B.length by simp]
    exact at_bind ((law_body _).at hb) ((law_ret _).at rfl)
  · have hh : headP 0 true 40 [] (linesL l ++ tellTail B size) = (0, (l, -1, true), chunkL (if 8000 < size then 8000 else size.toNat) B) := by
      rw [head_say l [] 40 _ h6 h1]
      unfold tellTail
      rw [if_neg hs]
      have := head_cod (least := 0) (acc := [] ++ l) (40 - l.length) (chunkL (if 8000 < size then 8000 else size.toNat) B)
      rw [this]
      simp
    refine at_bind ((law_head _ _ _ _).at hh) ?_
    simp only
    rw [if_neg (by rw [hn]; simp)]
    unfold bodyK
    simp only
    rw [if_pos trivial]
    exact at_bind (unch_at (by split <;> omega) B h2) ((law_ret _).at rfl)
theorem tell_cut {a : Rp} {size : Int} (h : tellE a size = 0) (hn : noBody false a.code = false) (closed : Bool) (c : Nat) (hc : c < (tellL a size).length) : (tellP false closed ((tellL a size).take c)).1 = 8 :=
  (tell_at h hn closed).cut c (by simpa using hc)
theorem tell_say {a : Rp} {size : Int} (h : tellE a size = 0) (hn : noBody false a.code = false) (closed : Bool) (X : List Int) : tellP false closed (tellL a size ++ X) = (0, a, X) := by
  obtain ⟨h1, h2, h3, h4, h5, h6⟩ := tell_ok h
  obtain ⟨code, l, B⟩ := a
  simp only at h1 h2 h3 h4 h6 hn
  obtain ⟨n, rfl⟩ : ∃ n : Nat, code = n := ⟨code.toNat, by omega⟩
  have hc := code_say (n := n) (by omega) (by omega) (linesL l ++ (tellTail B size ++ X))
  have e0 : tellL ⟨(n : Int), l, B⟩ size ++ X = edgeSp ++ (decL n ++ ([13, 10] ++ (linesL l ++ (tellTail B size ++ X)))) := by simp [tellL]
  rw [e0]
  unfold tellP
  rw [bindP_ok (mtsP_say _ _), bindP_ok hc]
  by_cases hs : size = 0
  · have hh : headP 0 true 40 [] (linesL l ++ (tellTail B size ++ X)) = (0, (l, (B.length : Int), false), B ++ X) := by
      rw [head_say l [] 40 _ h6 h1]
      unfold tellTail
      rw [if_pos hs, List.append_assoc, head_len (by omega) (by omega) _ _ _ (by omega) h2]
      simp
    rw [bindP_ok hh]
    simp only
    rw [if_neg (by rw [hn]; simp)]
    unfold bodyK
    simp only
    rw [if_neg (by simp), if_pos (by omega)]
    rw [show ((B.length : Int)).toNat = B.length by simp, bindP_ok (body_say B X)]
    rfl
  · have hh : headP 0 true 40 [] (linesL l ++ (tellTail B size ++ X)) = (0, (l, -1, true), chunkL (if 8000 < size then 8000 else size.toNat) B ++ X) := by
      rw [head_say l [] 40 _ h6 h1]
      unfold tellTail
      rw [if_neg hs, List.append_assoc, List.append_assoc]
      have := head_cod (least := 0) (acc := [] ++ l) (40 - l.length) (chunkL (if 8000 < size then 8000 else size.toNat) B ++ X)
      rw [this]
      simp
    rw [bindP_ok hh]
    simp only
    rw [if_neg (by rw [hn]; simp)]
    unfold bodyK
    simp only
    rw [if_pos trivial, bindP_ok (unch_ok (by split <;> omega) B X h2)]
    rfl
/- how long they are -/
theorem decL_le : ∀ n : Nat, (decL n).length ≤ n + 1 := by
  intro n
  induction n using Nat.strongRecOn with
  | _ n ih =>
    by_cases h : n < 10
    · rw [decL_one h]; simp
    · rw [decL_more h]
      have := ih (n / 10) (by omega)
      simp
      omega
end Go.Proofs.YtibipnipeaeonaaGreatDoor
