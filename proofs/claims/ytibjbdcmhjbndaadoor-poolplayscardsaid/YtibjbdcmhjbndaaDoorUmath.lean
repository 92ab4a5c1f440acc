/-
  BODIES IN PIECES, as mathematics: how they are written, how they are read. No claim by itself.
-/
import Derived.Test.YtibjbdcmhjbndaaDoorVl
namespace Go.Proofs.YtibjbdcmhjbndaaDoor
set_option maxRecDepth 100000
/-- A digit's byte. -/
def hx (d : Nat) : Int := if d < 10 then 48 + d else 87 + d
/-- A number's digits. -/
def hexL (n : Nat) : List Int := if n < 16 then [hx n] else hexL (n / 16) ++ [hx (n % 16)]
termination_by n
decreasing_by omega
theorem hexL_one {n : Nat} (h : n < 16) : hexL n = [hx n] := by rw [hexL, if_pos h]
theorem hexL_more {n : Nat} (h : ¬ n < 16) : hexL n = hexL (n / 16) ++ [hx (n % 16)] := by rw [hexL, if_neg h]
theorem hexL_pos (n : Nat) : 1 ≤ (hexL n).length := by
  by_cases h : n < 16
  · rw [hexL_one h]; simp
  · rw [hexL_more h]; simp
def piece (B : List Int) : List Int := hexL B.length ++ ([13, 10] ++ (B ++ [13, 10]))
def endL : List Int := [48, 13, 10, 13, 10]
def chk (s : Nat) : Nat → List Int → List Int
  | 0, _ => endL
  | k + 1, B => if B = [] then endL else piece (B.take s) ++ chk s k (B.drop s)
/-- A body in pieces. -/
def chunkL (s : Nat) (B : List Int) : List Int := chk s B.length B
theorem chk_nil (s k : Nat) : chk s k [] = endL := by cases k <;> simp [chk]
theorem chk_fuel (s : Nat) (hs : 1 ≤ s) : ∀ (k : Nat) (B : List Int), B.length ≤ k → chk s k B = chk s B.length B := by
  intro k
  induction k using Nat.strongRecOn with
  | _ k ih =>
    intro B hB
    match k, B with
    | 0, [] => rfl
    | 0, x :: r => simp at hB
    | k + 1, [] => simp [chk]
    | k + 1, x :: r =>
      have hl : ((x :: r).drop s).length ≤ r.length := by simp; omega
      simp only [List.length_cons] at hB ⊢
      rw [chk, chk, if_neg (by simp), if_neg (by simp), ih k (by omega) _ (by omega), ih r.length (by omega) _ hl]
theorem chunk_nil (s : Nat) : chunkL s [] = endL := rfl
theorem chunk_more {s : Nat} (hs : 1 ≤ s) {B : List Int} (hB : B ≠ []) : chunkL s B = piece (B.take s) ++ chunkL s (B.drop s) := by
  unfold chunkL
  match B with
  | [] => exact absurd rfl hB
  | x :: r =>
    rw [List.length_cons, chk, if_neg (by simp), chk_fuel s hs r.length _ (by simp; omega)]
/-- What is written: the fault, the bytes. -/
def chunksF (B : List Int) (size : Int) : Int × List Int := if size < 1 ∨ 8000 < size then (1, []) else if 8000 < B.length then (4, []) else (0, chunkL size.toNat B)
/- reading -/
def dig (c : Int) : Int := if 97 ≤ c ∧ c ≤ 102 then c - 87 else if 48 ≤ c ∧ c ≤ 57 then c - 48 else -1
theorem dig_hx {d : Nat} (h : d < 16) : dig (hx d) = d := by
  unfold dig hx
  by_cases h1 : d < 10
  · rw [if_pos h1, if_neg (by omega), if_pos (by omega)]; omega
  · rw [if_neg h1, if_pos (by omega)]; omega
/-- A size: the fault, the number, what is behind it. m: how many bytes the body has; k: how many digits were read. -/
def rdN (m : Int) : Nat → Int → List Int → Int × Int × List Int
  | _, _, [] => (8, 0, [])
  | k, n, c :: r => if dig c < 0 then (if k = 0 then (2, 0, []) else (0, n, c :: r)) else if k = 1 ∧ n = 0 then (2, 0, []) else if 8000 < m + (n * 16 + dig c) then (4, 0, []) else rdN m (k + 1) (n * 16 + dig c) r
/-- A line end: the fault, what is behind it. -/
def mt : List Int → Int × List Int
  | [] => (8, [])
  | c :: r => if c = 13 then (match r with
    | [] => (8, [])
    | d :: q => if d = 10 then (0, q) else (2, [])) else (2, [])
def unF : Nat → List Int → List Int → Int × List Int × List Int
  | 0, _, _ => (8, [], [])
  | f + 1, body, b =>
    if (rdN body.length 0 0 b).1 ≠ 0 then ((rdN body.length 0 0 b).1, [], []) else
    if (mt (rdN body.length 0 0 b).2.2).1 ≠ 0 then ((mt (rdN body.length 0 0 b).2.2).1, [], []) else
    if ((mt (rdN body.length 0 0 b).2.2).2.length : Int) < (rdN body.length 0 0 b).2.1 then (8, [], []) else
    if (mt ((mt (rdN body.length 0 0 b).2.2).2.drop (rdN body.length 0 0 b).2.1.toNat)).1 ≠ 0 then ((mt ((mt (rdN body.length 0 0 b).2.2).2.drop (rdN body.length 0 0 b).2.1.toNat)).1, [], []) else
    if (rdN body.length 0 0 b).2.1 = 0 then (0, body, (mt ((mt (rdN body.length 0 0 b).2.2).2.drop (rdN body.length 0 0 b).2.1.toNat)).2) else
    unF f (body ++ (mt (rdN body.length 0 0 b).2.2).2.take (rdN body.length 0 0 b).2.1.toNat) (mt ((mt (rdN body.length 0 0 b).2.2).2.drop (rdN body.length 0 0 b).2.1.toNat)).2
/-- What is read: the fault, the body, how many bytes it takes. -/
def unchF (b : List Int) : Int × List Int × Int := ((unF (b.length + 1) [] b).1, (unF (b.length + 1) [] b).2.1, if (unF (b.length + 1) [] b).1 = 0 then b.length - (unF (b.length + 1) [] b).2.2.length else 0)
/-- One piece, its parts by name. -/
structure Pc (body b : List Int) (n : Int) (r r2 r3 : List Int) : Prop where
  h1 : rdN body.length 0 0 b = (0, n, r)
  h2 : mt r = (0, r2)
  h3 : n ≤ r2.length
  h4 : mt (r2.drop n.toNat) = (0, r3)
theorem unF_end {f : Nat} {body b : List Int} {r r2 r3 : List Int} (h : Pc body b 0 r r2 r3) : unF (f + 1) body b = (0, body, r3) := by
  have h3 := h.h3
  have h4 := h.h4
  unfold unF
  rw [h.h1]
  simp only [h.h2]
  rw [if_neg (by simp), if_neg (by simp), if_neg (by omega)]
  simp only [h4]
  simp
theorem unF_go {f : Nat} {body b : List Int} {n : Int} {r r2 r3 : List Int} (h : Pc body b n r r2 r3) (hn : n ≠ 0) : unF (f + 1) body b = unF f (body ++ r2.take n.toNat) r3 := by
  have h3 := h.h3
  have h4 := h.h4
  rw [unF]
  rw [h.h1]
  simp only [h.h2]
  rw [if_neg (by simp), if_neg (by simp), if_neg (by omega)]
  simp only [h4]
  rw [if_neg (by simp), if_neg hn]
theorem unF_f1 {f : Nat} {body b : List Int} {e : Int} (h : (rdN body.length 0 0 b).1 = e) (he : e ≠ 0) : unF (f + 1) body b = (e, [], []) := by
  rw [unF, h, if_pos he]
theorem unF_f2 {f : Nat} {body b : List Int} {n e : Int} {r : List Int} (h1 : rdN body.length 0 0 b = (0, n, r)) (h : (mt r).1 = e) (he : e ≠ 0) : unF (f + 1) body b = (e, [], []) := by
  rw [unF, h1]
  simp only [h]
  rw [if_neg (by simp), if_pos he]
theorem unF_f3 {f : Nat} {body b : List Int} {n : Int} {r r2 : List Int} (h1 : rdN body.length 0 0 b = (0, n, r)) (h2 : mt r = (0, r2)) (h : (r2.length : Int) < n) : unF (f + 1) body b = (8, [], []) := by
  rw [unF, h1]
  simp only [h2]
  rw [if_neg (by simp), if_neg (by simp), if_pos h]
theorem unF_f4 {f : Nat} {body b : List Int} {n e : Int} {r r2 : List Int} (h1 : rdN body.length 0 0 b = (0, n, r)) (h2 : mt r = (0, r2)) (h3 : n ≤ r2.length) (h : (mt (r2.drop n.toNat)).1 = e) (he : e ≠ 0) : unF (f + 1) body b = (e, [], []) := by
  rw [unF, h1]
  simp only [h2]
  rw [if_neg (by simp), if_neg (by simp), if_neg (by omega)]
  simp only [h]
  rw [if_pos he]
theorem mt_ok {r r2 : List Int} (h : mt r = (0, r2)) : r = 13 :: 10 :: r2 := by
  unfold mt at h
  split at h
  · simp at h
  · rename_i c q
    split at h
    · rename_i hc
      split at h
      · simp at h
      · rename_i d q'
        split at h
        · rename_i hd
          simp at h
          rw [hc, hd, h]
        · simp at h
    · simp at h
theorem mt_line (r : List Int) : mt (13 :: 10 :: r) = (0, r) := by simp [mt]
theorem rdN_len (m : Int) : ∀ (b : List Int) (k : Nat) (n : Int) {v : Int} {r : List Int}, rdN m k n b = (0, v, r) → r.length ≤ b.length ∧ (0 ≤ n → 0 ≤ v) := by
  intro b
  induction b with
  | nil => intro k n v r h; simp [rdN] at h
  | cons c q ih =>
    intro k n v r h
    unfold rdN at h
    split at h
    · split at h
      · simp at h
      · simp at h
        obtain ⟨rfl, rfl⟩ := h
        exact ⟨Nat.le_refl _, fun x => x⟩
    · split at h
      · simp at h
      · split at h
        · simp at h
        · obtain ⟨i1, i2⟩ := ih _ _ h
          exact ⟨by simp; omega, fun hn => i2 (by omega)⟩
theorem pc_len {body b : List Int} {n : Int} {r r2 r3 : List Int} (h : Pc body b n r r2 r3) : r3.length + 4 ≤ b.length ∧ 0 ≤ n := by
  have l1 := rdN_len _ _ _ _ h.h1
  have l2 := congrArg List.length (mt_ok h.h2)
  have l3 := congrArg List.length (mt_ok h.h4)
  simp at l2 l3
  exact ⟨by omega, l1.2 (by omega)⟩
/-- How a round goes. -/
theorem unF_cases (body b : List Int) : (∃ e, e ≠ 0 ∧ ∀ g, unF (g + 1) body b = (e, [], [])) ∨ (∃ n r r2 r3, Pc body b n r r2 r3) := by
  match h1 : rdN body.length 0 0 b with
  | (e, n, r) =>
    by_cases he : e = 0
    · subst he
      match h2 : mt r with
      | (e2, r2) =>
        by_cases he2 : e2 = 0
        · subst he2
          by_cases h3 : n ≤ r2.length
          · match h4 : mt (r2.drop n.toNat) with
            | (e4, r3) =>
              by_cases he4 : e4 = 0
              · subst he4
                exact Or.inr ⟨n, r, r2, r3, h1, h2, h3, h4⟩
              · exact Or.inl ⟨e4, he4, fun g => unF_f4 h1 h2 h3 (by rw [h4]) he4⟩
          · exact Or.inl ⟨8, by simp, fun g => unF_f3 h1 h2 (by omega)⟩
        · exact Or.inl ⟨e2, he2, fun g => unF_f2 h1 (by rw [h2]) he2⟩
    · exact Or.inl ⟨e, he, fun g => unF_f1 (by rw [h1]) he⟩
theorem unF_fuel : ∀ (f g : Nat) (body b : List Int), b.length < f → b.length < g → unF f body b = unF g body b := by
  intro f
  induction f with
  | zero => intro g body b h; omega
  | succ f ih =>
    intro g body b hf hg
    match g with
    | 0 => omega
    | g + 1 =>
      rcases unF_cases body b with ⟨e, _, h⟩ | ⟨n, r, r2, r3, h⟩
      · rw [h, h]
      · by_cases hn : n = 0
        · subst hn; rw [unF_end h, unF_end h]
        · have := pc_len h
          rw [unF_go h hn, unF_go h hn]
          exact ih g _ _ (by omega) (by omega)
end Go.Proofs.YtibjbdcmhjbndaaDoor
