/-
  MESSAGES AS LINES, as mathematics: what is read of bytes is written as these; replies. No claim by itself.
-/
import Derived.Test.YtibjbdcmhjbndaaDoorNmath3
namespace Go.Proofs.YtibjbdcmhjbndaaDoor
set_option maxRecDepth 100000
theorem lenR_inv : ∀ (b : List Int) (n : Nat) {v : Int} {r : List Int}, 1 ≤ n → n ≤ 8000 → lenR n b = (0, v, r) → ∃ (m : Nat) (ds : List Int), v = m ∧ 1 ≤ m ∧ m ≤ 8000 ∧ b = ds ++ r ∧ decL m = decL n ++ ds := by
  intro b
  induction b with
  | nil =>
    intro n v r h1 h2 h
    unfold lenR at h
    rw [if_pos (by omega)] at h
    simp at h
  | cons d q ih =>
    intro n v r h1 h2 h
    unfold lenR at h
    by_cases c1 : ¬ (0 : Int) < n ∨ d = 13
    · rw [if_pos c1] at h
      simp at h
      obtain ⟨rfl, rfl⟩ := h
      exact ⟨n, [], rfl, h1, h2, rfl, by simp⟩
    · rw [if_neg c1] at h
      by_cases c2 : d < 48 ∨ 57 < d
      · rw [if_pos c2] at h; simp at h
      · rw [if_neg c2] at h
        by_cases c3 : 8000 < 10 * (n : Int) + (d - 48)
        · rw [if_pos c3] at h; simp at h
        · rw [if_neg c3] at h
          have e : 10 * (n : Int) + (d - 48) = ((10 * n + (d - 48).toNat : Nat) : Int) := by omega
          rw [e] at h
          obtain ⟨m, ds, i1, i2, i3, i4, i5⟩ := ih (10 * n + (d - 48).toNat) (by omega) (by omega) h
          refine ⟨m, d :: ds, i1, i2, i3, by rw [i4]; rfl, ?_⟩
          rw [i5, decL_more (by omega)]
          have e1 : (10 * n + (d - 48).toNat) / 10 = n := by omega
          have e2 : dc ((10 * n + (d - 48).toNat) % 10) = d := by unfold dc; omega
          rw [e1, e2, List.append_assoc]
          rfl
theorem lenQ_inv {least : Int} (hl : 0 ≤ least) {b : List Int} {v : Int} {r : List Int} (h : lenQ least b = (0, v, r)) : ∃ n : Nat, v = n ∧ least ≤ n ∧ n ≤ 8000 ∧ b = [32] ++ (decL n ++ ([13, 10] ++ r)) := by
  unfold lenQ at h
  obtain ⟨_, r1, h1, h2⟩ := bindP_inv h
  obtain ⟨n, r2, h3, h4⟩ := bindP_inv h2
  obtain ⟨m, r3, h5, h6⟩ := bindP_inv h4
  obtain ⟨_, r4, h7, h8⟩ := bindP_inv h6
  obtain ⟨rfl, rfl⟩ := retP_inv h8
  obtain ⟨d1, d2, d3⟩ := dig_inv h3
  obtain ⟨k, rfl⟩ : ∃ k : Nat, n = k := ⟨n.toNat, by omega⟩
  by_cases h0 : k = 0
  · subst h0
    have e : v = 0 ∧ r3 = r2 := by
      match r2 with
      | [] => simp [lenR] at h5; exact ⟨h5.1.symm, h5.2⟩
      | c :: q => rw [lenR, if_pos (by omega)] at h5; simp at h5; exact ⟨h5.1.symm, h5.2.symm⟩
    obtain ⟨rfl, rfl⟩ := e
    refine ⟨0, rfl, by omega, by omega, ?_⟩
    rw [mtsP_inv h1, d3, mtsP_inv h7, decL_one (by omega)]
    rfl
  · obtain ⟨m, ds, rfl, i2, i3, i4, i5⟩ := lenR_inv r2 k (by omega) (by omega) h5
    refine ⟨m, rfl, ?_, i3, ?_⟩
    · by_cases hm : m < k
      · exfalso
        have e1 : decL k = [dc k] := decL_one (by omega)
        have e2 : decL m = [dc m] := decL_one (by omega)
        rw [e1, e2] at i5
        simp at i5
        unfold dc at i5
        omega
      · omega
    · rw [mtsP_inv h1, d3, i4, mtsP_inv h7, i5, decL_one (show k < 10 by omega)]
      simp [dc]
/-- What a head is, when it was read. -/
def HdAt (least : Int) (coded : Bool) (l : List Fd) (b : List Int) (n : Int) (pc : Bool) (r : List Int) : Prop :=
  (n = -1 ∧ pc = false ∧ b = linesL l ++ ([13, 10] ++ r)) ∨ (∃ v : Nat, n = v ∧ pc = false ∧ least ≤ v ∧ v ≤ 8000 ∧ b = linesL l ++ (lenLine v ++ r)) ∨ (coded = true ∧ n = -1 ∧ pc = true ∧ b = linesL l ++ (codingN ++ (chunkedS ++ r)))
theorem last_inv {least : Int} (hl : 0 ≤ least) {coded : Bool} {m : List Int} {p : Pz (Int × Bool)} (h : lastP least coded m = some p) {b r : List Int} {v : Int × Bool} (hp : p b = (0, v, r)) :
    (m = lengthN ∧ v.2 = false ∧ ∃ n : Nat, v.1 = n ∧ least ≤ n ∧ n ≤ 8000 ∧ b = [32] ++ (decL n ++ ([13, 10] ++ r))) ∨ (m = codingN ∧ coded = true ∧ v = (-1, true) ∧ b = chunkedQ ++ r) := by
  unfold lastP at h
  split at h
  · rename_i e
    cases h
    obtain ⟨x, r1, h1, h2⟩ := bindP_inv hp
    obtain ⟨rfl, rfl⟩ := retP_inv h2
    exact Or.inl ⟨e, rfl, lenQ_inv hl h1⟩
  · split at h
    · rename_i e
      cases h
      obtain ⟨x, r1, h1, h2⟩ := bindP_inv hp
      obtain ⟨rfl, rfl⟩ := retP_inv h2
      exact Or.inr ⟨e.1, e.2, rfl, mtsP_inv h1⟩
    · cases h
theorem headB_inv {least : Int} (hl : 0 ≤ least) {coded : Bool} {acc : List Fd} {next : List Int → Pz Hd} {b : List Int} {l : List Fd} {n : Int} {pc : Bool} {r : List Int} (h : headB least coded acc next b = (0, (l, n, pc), r)) :
    (l = acc ∧ HdAt least coded [] b n pc r) ∨ (∃ m X, nameL m = true ∧ m ≠ hostN ∧ m ≠ lengthN ∧ m ≠ codingN ∧ b = m ++ ([58] ++ X) ∧ next m X = (0, (l, n, pc), r)) := by
  unfold headB at h
  match b with
  | [] => simp [lookP] at h
  | c :: q =>
    rw [lookP] at h
    by_cases hc : c = 13
    · rw [if_pos hc] at h
      obtain ⟨_, r1, h1, h2⟩ := bindP_inv h
      obtain ⟨e, rfl⟩ := retP_inv h2
      simp at e
      obtain ⟨rfl, rfl, rfl⟩ := e
      exact Or.inl ⟨rfl, Or.inl ⟨rfl, rfl, by rw [mtsP_inv h1]; rfl⟩⟩
    · rw [if_neg hc] at h
      obtain ⟨m, r1, h1, h2⟩ := bindP_inv h
      obtain ⟨e1, e2⟩ := txt_inv h1
      rw [form_name] at e1
      match hp : lastP least coded m with
      | some p =>
        simp only [hp] at h2
        obtain ⟨v, r2, h3, h4⟩ := bindP_inv h2
        obtain ⟨_, r3, h5, h6⟩ := bindP_inv h4
        obtain ⟨e, rfl⟩ := retP_inv h6
        simp at e
        obtain ⟨rfl, rfl, rfl⟩ := e
        rcases last_inv hl hp h3 with ⟨rfl, k1, k, k2, k3, k4, k5⟩ | ⟨rfl, k1, rfl, k2⟩
        · refine Or.inl ⟨rfl, Or.inr (Or.inl ⟨k, k2, k1, k3, k4, ?_⟩)⟩
          rw [e2, k5, mtsP_inv h5]
          simp [linesL, lenLine]
        · refine Or.inl ⟨rfl, Or.inr (Or.inr ⟨k1, rfl, rfl, ?_⟩)⟩
          rw [e2, k2, mtsP_inv h5]
          simp [linesL, chunkedQ, chunkedS]
      | none =>
        simp only [hp] at h2
        by_cases m3 : m = hostN ∨ m = lengthN ∨ m = codingN
        · rw [if_pos m3] at h2; simp [failP] at h2
        · rw [if_neg m3] at h2
          exact Or.inr ⟨m, r1, e1, fun e => m3 (Or.inl e), fun e => m3 (Or.inr (Or.inl e)), fun e => m3 (Or.inr (Or.inr e)), e2, h2⟩
theorem HdAt.more {least : Int} {coded : Bool} {l : List Fd} {b : List Int} {n : Int} {pc : Bool} {r : List Int} (h : HdAt least coded l b n pc r) (f : Fd) : HdAt least coded (f :: l) (lineOf f ++ b) n pc r := by
  rcases h with ⟨h1, h2, h3⟩ | ⟨v, h1, h2, h3, h4, h5⟩ | ⟨h1, h2, h3, h4⟩
  · exact Or.inl ⟨h1, h2, by rw [h3]; simp [linesL]⟩
  · exact Or.inr (Or.inl ⟨v, h1, h2, h3, h4, by rw [h5]; simp [linesL]⟩)
  · exact Or.inr (Or.inr ⟨h1, h2, h3, by rw [h4]; simp [linesL]⟩)
theorem head_inv {least : Int} (hl : 0 ≤ least) {coded : Bool} : ∀ (k : Nat) (acc : List Fd) {b : List Int} {l : List Fd} {n : Int} {pc : Bool} {r : List Int}, headP least coded k acc b = (0, (l, n, pc), r) → ∃ l', l = acc ++ l' ∧ l'.length ≤ k ∧ fldsE l' = 0 ∧ HdAt least coded l' b n pc r
  | 0, acc, b, l, n, pc, r, h => by
    rcases headB_inv hl h with ⟨rfl, h1⟩ | ⟨m, X, _, _, _, _, _, h1⟩
    · exact ⟨[], by simp, by simp, rfl, h1⟩
    · simp [failP] at h1
  | k + 1, acc, b, l, n, pc, r, h => by
    rcases headB_inv hl h with ⟨rfl, h1⟩ | ⟨m, X, m1, m2, m3, m4, rfl, h1⟩
    · exact ⟨[], by simp, by simp, rfl, h1⟩
    · obtain ⟨_, r0, h0, h1'⟩ := bindP_inv h1
      obtain ⟨v, r1, h2, h3⟩ := bindP_inv h1'
      obtain ⟨p1, _, p2⟩ := val_inv h2
      obtain ⟨l', i1, i2, i3, i4⟩ := head_inv hl k _ h3
      refine ⟨(m, v) :: l', by rw [i1]; simp, by simp; omega, flds_cons.2 ⟨fld_of m1 p1 m2 m3 m4, i3⟩, ?_⟩
      have := i4.more (m, v)
      rw [mtsP_inv h0, p2]
      simpa [lineOf] using this
theorem ask_inv {b : List Int} {r : Rq} {X : List Int} (h : askP b = (0, r, X)) : askE r = 0 ∧ b = askL r ++ X := by
  unfold askP at h
  obtain ⟨m, r1, h1, h2⟩ := bindP_inv h
  obtain ⟨a1, a2⟩ := txt_inv h1
  rw [form_tok] at a1
  obtain ⟨p, r3, h5, h6⟩ := bindP_inv h2
  obtain ⟨b1, b2⟩ := txt_inv h5
  rw [form_word] at b1
  obtain ⟨_, r4, h7, h8⟩ := bindP_inv h6
  obtain ⟨ho, r5, h9, h10⟩ := bindP_inv h8
  obtain ⟨v1, v0, v2⟩ := val_inv h9
  have ho0 : ho ≠ [] := fun e => by rw [e] at v0; simp at v0
  obtain ⟨⟨l, n, pc⟩, r6, h11, h12⟩ := bindP_inv h10
  obtain ⟨l', i1, i2, i3, i4⟩ := head_inv (by omega) 40 [] h11
  rw [List.nil_append] at i1
  subst i1
  have fin : ∀ B : List Int, B.length ≤ 8000 → r = ⟨m, p, ho, l, B⟩ → r5 = linesL l ++ (tailL B ++ X) → askE r = 0 ∧ b = askL r ++ X := by
    rintro B hB rfl e5
    refine ⟨?_, ?_⟩
    · unfold askE
      rw [if_neg (by simp; omega), if_pos ⟨a1, b1, v1, ho0⟩]
      exact i3
    · rw [a2, b2, mtsP_inv h7, v2, e5]
      simp [askL, edgeHostQ, edgeHost]
  simp only at h12
  obtain ⟨B, r7, h13, h14⟩ := bindP_inv h12
  obtain ⟨e, rfl⟩ := retP_inv h14
  unfold bodyP at h13
  split at h13
  · simp at h13
  · rename_i hl
    simp at h13
    obtain ⟨rfl, rfl⟩ := h13
    rcases i4 with ⟨j1, j2, j3⟩ | ⟨v, j1, j2, j3, j4, j5⟩ | ⟨j1, _⟩
    · subst j1
      refine fin _ (by simp) e ?_
      rw [j3]
      simp [tailL]
    · subst j1
      simp only [Int.toNat_natCast] at e hl fin ⊢
      have hlen : (r6.take v).length = v := by simp; omega
      refine fin (r6.take v) (by omega) e ?_
      have hne : r6.take v ≠ [] := fun e9 => by rw [e9] at hlen; simp at hlen; omega
      rw [j5]
      unfold tailL
      rw [if_neg hne, hlen]
      simp
    · cases j1
end Go.Proofs.YtibjbdcmhjbndaaDoor
