/-
  NOT TOO OFTEN: one key alone, beside two rows of numbers; what was taken is no more than was granted. No claim by itself.
-/
import Derived.Test.YtdcjkdoedkjpfahBl3
import Derived.Test.YtdcjkdoedkjpfahNopen
import Derived.Maps.AppendAt
namespace Go.Proofs.Ytdcjkdoedkjpfah
open Go.RowKit Go.Maps
set_option maxRecDepth 100000
def keyB : ByteArray := ⟨#[107]⟩
def oneF (o : Option (Int × Int)) : BSt := fun t => if t = [107] then o else none
def oneN (o : Option (Int × Int)) : Nat := if o.isSome then 1 else 0
theorem oneF_at (o : Option (Int × Int)) : oneF o [107] = o := by unfold oneF; rw [if_pos rfl]
theorem oneF_put (o : Option (Int × Int)) (p : Int × Int) : blPut (oneF o) [107] p = oneF (some p) := by
  funext t
  unfold blPut oneF
  by_cases h : t = [107] <;> simp [h]
theorem oneF_none : (fun _ => none : BSt) = oneF none := by
  funext t
  unfold oneF
  simp
theorem oneF_sz (o : Option (Int × Int)) : blSz (oneF o) [107] (oneN o) = 1 := by
  unfold blSz oneN
  rw [oneF_at]
  cases o <;> rfl
theorem oneI {r b : Int} {o : Option (Int × Int)} (r0 : 1 ≤ r) (r1 : r ≤ 1000000) (b0 : 1 ≤ b) (b1 : b ≤ 1000000) (h : ∀ l a, o = some (l, a) → 0 ≤ l ∧ l ≤ b ∧ 0 ≤ a ∧ a ≤ 1000000) : BlI r b (oneF o) (oneN o) :=
  ⟨r0, r1, b0, b1, by unfold oneN; split <;> omega, fun s l a he => by
    unfold oneF at he
    by_cases hs : s = [107]
    · rw [if_pos hs] at he; exact h l a he
    · rw [if_neg hs] at he; cases he⟩
/-- One limit of one key in memory, beside two rows of numbers. -/
structure LH (w0 w : World) (lb mb : Nat) (r b : Int) (o : Option (Int × Int)) (av tv : Value) (A T : List Int) : Prop where
  old : Below w0.heap.size w0 w
  lim : ∃ D, LimM w lb mb r b D (oneF o) (oneN o)
  rowA : w.ownsRow w0.heap.size 3 1 av A.length (A.map (Value.int .i64))
  rowT : w.ownsRow w0.heap.size 3 1 tv T.length (T.map (Value.int .i64))
  hS : ∀ k, Bl2 lb mb k → w0.heap.size ≤ k
  nA : ∀ k, av.ownBlock = some k → ¬ Bl2 lb mb k ∧ tv.ownBlock ≠ some k
  nT : ∀ k, tv.ownBlock = some k → ¬ Bl2 lb mb k
theorem row_kept {w w' : World} {base e size n : Nat} {v : Value} {xs : List Value} (h : w.ownsRow base e size v n xs) (hk : ∀ q, v.ownBlock = some q → w'.heap[q]? = w.heap[q]?) : w'.ownsRow base e size v n xs := by
  obtain ⟨h1, h2⟩ := h
  refine ⟨h1, ?_⟩
  rcases h2 with h | ⟨g, cap, cur, hv, hb, hc, r⟩
  · exact Or.inl h
  · exact Or.inr ⟨g, cap, cur, hv, hb, (hk g (by rw [hv]; rfl)).trans hc, r⟩
theorem row_lt {w : World} {base e size n : Nat} {v : Value} {xs : List Value} (h : w.ownsRow base e size v n xs) : ∀ q, v.ownBlock = some q → base ≤ q ∧ q < w.heap.size := by
  intro q hq
  rcases h.2 with ⟨hv, _⟩ | ⟨g, cap, cur, hv, hb, hc, _⟩
  · rw [hv] at hq; cases hq
  · rw [hv] at hq
    have e : g = q := by simpa [Value.ownBlock] using hq
    subst e
    refine ⟨hb, ?_⟩
    rcases Nat.lt_or_ge g w.heap.size with h1 | h1
    · exact h1
    · rw [Array.getElem?_eq_none h1] at hc; cases hc
section
variable {w0 w w' : World} {lb mb : Nat} {r b : Int} {o : Option (Int × Int)} {av tv : Value} {A T : List Int} (h : LH w0 w lb mb r b o av tv A T)
include h
theorem LH.tn {o' : Option (Int × Int)} (ht : Tn (Bl2 lb mb) w w') (hl : ∃ D, LimM w' lb mb r b D (oneF o') (oneN o')) : LH w0 w' lb mb r b o' av tv A T :=
  ⟨Tn.below h.old ht h.old.size h.hS, hl, row_kept h.rowA (fun q hq => ht.block q (row_lt h.rowA q hq).2 (h.nA q hq).1), row_kept h.rowT (fun q hq => ht.block q (row_lt h.rowT q hq).2 (h.nT q hq)), h.hS, h.nA, h.nT⟩
theorem LH.below (hb : Below w.heap.size w w') : LH w0 w' lb mb r b o av tv A T :=
  h.tn (Tn.of_below hb) (by obtain ⟨D, hl⟩ := h.lim; exact ⟨D, hl.below (Nat.le_refl _) hb⟩)
theorem LH.lt {k : Nat} (hk : Bl2 lb mb k) : k < w.heap.size := by
  obtain ⟨D, hl⟩ := h.lim
  rcases hk with rfl | rfl
  · exact hl.lt.1
  · exact hl.lt.2
theorem LH.appA {av' : Value} {x : Int} (hr : w'.ownsRow w0.heap.size 3 1 av' (A.length + 1) (A.map (Value.int .i64) ++ [.int .i64 x])) (hg : w.grownBy w' av.ownBlock) (hat : av'.ownBlock = av.ownBlock ∨ av'.ownBlock = some w.heap.size) : LH w0 w' lb mb r b o av' tv (A ++ [x]) T := by
  have hb : ∀ k, k < w.heap.size → av.ownBlock ≠ some k → w'.heap[k]? = w.heap[k]? := fun k hk hn => hg.block k hk (fun e => hn e.symm)
  refine ⟨⟨hg.os.trans h.old.os, hg.tape.trans h.old.tape, hg.output.trans h.old.output, Nat.le_trans h.old.size hg.size, fun i hi => (hb i (Nat.lt_of_lt_of_le hi h.old.size) (fun e => by have := (row_lt h.rowA i e).1; omega)).trans (h.old.block i hi)⟩, ?_, ?_, row_kept h.rowT (fun q hq => hb q (row_lt h.rowT q hq).2 (fun e => (h.nA q e).2 hq)), h.hS, ?_, h.nT⟩
  · obtain ⟨D, hl⟩ := h.lim
    exact ⟨D, hl.kept (hb _ hl.lt.1 (fun e => (h.nA _ e).1 (Or.inl rfl))) (hb _ hl.lt.2 (fun e => (h.nA _ e).1 (Or.inr rfl)))⟩
  · rw [List.length_append, List.map_append]
    exact hr
  · intro k hk
    rcases hat with e | e
    · rw [e] at hk; exact h.nA k hk
    · rw [e] at hk
      cases hk
      exact ⟨fun hx => by have := h.lt hx; omega, fun hx => by have := (row_lt h.rowT _ hx).2; omega⟩
theorem LH.appT {tv' : Value} {x : Int} (hr : w'.ownsRow w0.heap.size 3 1 tv' (T.length + 1) (T.map (Value.int .i64) ++ [.int .i64 x])) (hg : w.grownBy w' tv.ownBlock) (hat : tv'.ownBlock = tv.ownBlock ∨ tv'.ownBlock = some w.heap.size) : LH w0 w' lb mb r b o av tv' A (T ++ [x]) := by
  have hb : ∀ k, k < w.heap.size → tv.ownBlock ≠ some k → w'.heap[k]? = w.heap[k]? := fun k hk hn => hg.block k hk (fun e => hn e.symm)
  refine ⟨⟨hg.os.trans h.old.os, hg.tape.trans h.old.tape, hg.output.trans h.old.output, Nat.le_trans h.old.size hg.size, fun i hi => (hb i (Nat.lt_of_lt_of_le hi h.old.size) (fun e => by have := (row_lt h.rowT i e).1; omega)).trans (h.old.block i hi)⟩, ?_, row_kept h.rowA (fun q hq => hb q (row_lt h.rowA q hq).2 (fun e => (h.nA q hq).2 e)), ?_, h.hS, ?_, ?_⟩
  · obtain ⟨D, hl⟩ := h.lim
    exact ⟨D, hl.kept (hb _ hl.lt.1 (fun e => (h.nT _ e) (Or.inl rfl))) (hb _ hl.lt.2 (fun e => (h.nT _ e) (Or.inr rfl)))⟩
  · rw [List.length_append, List.map_append]
    exact hr
  · intro k hk
    refine ⟨(h.nA k hk).1, fun hx => ?_⟩
    rcases hat with e | e
    · rw [e] at hx; exact (h.nA k hk).2 hx
    · rw [e] at hx
      cases hx
      have := (row_lt h.rowA _ hk).2
      omega
  · intro k hk
    rcases hat with e | e
    · rw [e] at hk; exact h.nT k hk
    · rw [e] at hk
      cases hk
      exact fun hx => by have := h.lt hx; omega
end
/-- What is known of the numbers. -/
structure LN (r b : Int) (o : Option (Int × Int)) : Prop where
  r0 : 1 ≤ r
  r1 : r ≤ 1000
  b0 : 1 ≤ b
  b1 : b ≤ 1000
  o1 : ∀ l a, o = some (l, a) → 0 ≤ l ∧ l ≤ b ∧ 0 ≤ a ∧ a ≤ 100000
theorem LN.bi {r b : Int} {o : Option (Int × Int)} (h : LN r b o) : BlI r b (oneF o) (oneN o) :=
  oneI h.r0 (by have := h.r1; omega) h.b0 (by have := h.b1; omega) (fun l a e => by have := h.o1 l a e; omega)
/-- What is left now. -/
def nowL (r b : Int) (o : Option (Int × Int)) (now : Int) : Int := match o with
  | some q => min (q.1 + (now - q.2) * r) b
  | none => b
def AheadOf (o : Option (Int × Int)) (now : Int) : Prop := ∀ l a, o = some (l, a) → a ≤ now
theorem one_look {r b : Int} {o : Option (Int × Int)} {now k : Int} (h1 : 1 ≤ k ∧ k ≤ b) (h2 : 0 ≤ now ∧ now ≤ 1000000) (h3 : AheadOf o now) : lookF r b (oneF o) (oneN o) [107] now k = (0, nowL r b o now, now) := by
  cases o with
  | none =>
    rw [lookF_none h1 h2 (oneF_at none)]
    unfold oneN nowL
    rw [if_neg (by simp)]
  | some q =>
    obtain ⟨l, a⟩ := q
    rw [lookF_some h1 h2 (oneF_at _)]
    have := h3 l a rfl
    unfold nowL
    rw [if_neg (by omega)]
section
variable {w0 w : World} {lb mb : Nat} {r b : Int} {o : Option (Int × Int)} {av tv : Value} {A T : List Int} (h : LH w0 w lb mb r b o av tv A T) (hN : LN r b o) {now : Int} (h2 : 0 ≤ now ∧ now ≤ 1000000) (h3 : AheadOf o now)
include h hN
theorem ask_bad (k : Int) (hk : ¬ (1 ≤ k ∧ k ≤ b)) : Calls Try.prog 5 #[lptr lb, .string keyB, .int .i64 now, .int .i64 k] w fun e w' => e = .returned (.tuple #[.bool false, .iface 35 (.int .i64 1)]) ∧ Below w0.heap.size w0 w' := by
  obtain ⟨D, hl⟩ := h.lim
  refine (ask_any hl hN.bi (s := keyB) (by decide) now k).mono ?_
  rintro e w' ⟨rfl, hk'⟩
  rw [show keyB.data.toList = [107] from rfl, lookF_bad (Or.inl hk)] at *
  exact ⟨rfl, Tn.below h.old hk'.tn h.old.size h.hS⟩
include h2 h3
theorem ask_one (k : Int) (hk : 1 ≤ k ∧ k ≤ b) : Calls Try.prog 5 #[lptr lb, .string keyB, .int .i64 now, .int .i64 k] w fun e w' => e = .returned (.tuple #[.bool (decide (k ≤ nowL r b o now)), .nilIface]) ∧ LH w0 w' lb mb r b (some (if k ≤ nowL r b o now then nowL r b o now - k else nowL r b o now, now)) av tv A T := by
  obtain ⟨D, hl⟩ := h.lim
  refine (ask_any hl hN.bi (s := keyB) (by decide) now k).mono ?_
  rintro e w' ⟨rfl, hk'⟩
  rw [show keyB.data.toList = [107] from rfl, one_look hk h2 h3] at *
  refine ⟨by unfold askOk errW; simp, h.tn hk'.tn ?_⟩
  have := hk'.lim
  unfold askSt askN at this
  simp only [if_true] at this
  rw [oneF_put, oneF_sz] at this
  exact this
theorem left_one (p : Int × Int) (ho : o = some p) : Calls Try.prog 6 #[lptr lb, .string keyB, .int .i64 now] w fun e w' => e = .returned (.tuple #[.int .i64 (nowL r b o now), .nilIface]) ∧ LH w0 w' lb mb r b (some (nowL r b o now, now)) av tv A T := by
  obtain ⟨D, hl⟩ := h.lim
  have hb0 := hN.b0
  refine (left_any hl hN.bi (s := keyB) (by decide) now).mono ?_
  rintro e w' ⟨rfl, hk'⟩
  rw [show keyB.data.toList = [107] from rfl, one_look ⟨by omega, by omega⟩ h2 h3] at *
  refine ⟨rfl, h.tn hk'.tn ?_⟩
  have := hk'.lim
  simp only [if_true] at this
  unfold renewF at this
  rw [oneF_at, oneF_put] at this
  subst ho
  exact this
theorem wait_one (p : Int × Int) (ho : o = some p) (k : Int) (hk : 1 ≤ k ∧ k ≤ b) : Calls Try.prog 7 #[lptr lb, .string keyB, .int .i64 now, .int .i64 k] w fun e w' => e = .returned (.tuple #[.int .i64 (waitF r (nowL r b o now) k), .nilIface]) ∧ LH w0 w' lb mb r b (some (nowL r b o now, now)) av tv A T := by
  obtain ⟨D, hl⟩ := h.lim
  refine (wait_any hl hN.bi (s := keyB) (by decide) now k).mono ?_
  rintro e w' ⟨rfl, hk'⟩
  rw [show keyB.data.toList = [107] from rfl, one_look hk h2 h3] at *
  refine ⟨rfl, h.tn hk'.tn ?_⟩
  have := hk'.lim
  simp only [if_true] at this
  unfold renewF at this
  rw [oneF_at, oneF_put] at this
  subst ho
  exact this
end
/-- No more was taken than was granted: from each ask on. -/
structure Gr (r b now : Int) (o : Option (Int × Int)) (A T : List Int) : Prop where
  len : A.length = T.length
  took : ∀ j, 0 ≤ T.getD j 0 ∧ T.getD j 0 ≤ 1000
  at_ : ∀ j, j < A.length → 0 ≤ A.getD j 0 ∧ A.getD j 0 ≤ now
  none_ : o = none → A = []
  some_ : ∀ l a, o = some (l, a) → a ≤ now ∧ ∀ j, j < A.length → (T.drop j).sum + l ≤ b + r * (a - A.getD j 0)
theorem nowL_range {r b : Int} {o : Option (Int × Int)} {now : Int} (hN : LN r b o) (h : AheadOf o now) : 0 ≤ nowL r b o now ∧ nowL r b o now ≤ b := by
  unfold nowL
  have hb := hN.b0
  cases o with
  | none => simp; omega
  | some q =>
    obtain ⟨l, a⟩ := q
    have h1 := hN.o1 l a rfl
    have h2 := h l a rfl
    have h3 : 0 ≤ (now - a) * r := Int.mul_nonneg (by omega) (by have := hN.r0; omega)
    simp only
    omega
theorem getD_snoc (L : List Int) (x : Int) (j : Nat) : (L ++ [x]).getD j 0 = if j < L.length then L.getD j 0 else if j = L.length then x else 0 := by
  by_cases h : j < L.length
  · rw [if_pos h]; simp [List.getD, List.getElem?_append_left h]
  · rw [if_neg h]
    by_cases h2 : j = L.length
    · subst h2; simp [List.getD]
    · rw [if_neg h2]
      have : (L ++ [x]).length ≤ j := by simp; omega
      simp [List.getD, List.getElem?_eq_none this]
theorem sum_drop_snoc (L : List Int) (x : Int) (j : Nat) (h : j ≤ L.length) : ((L ++ [x]).drop j).sum = (L.drop j).sum + x := by
  rw [List.drop_append_of_le_length h, List.sum_append]
  simp
theorem Gr.ask {r b now now' : Int} {o : Option (Int × Int)} {A T : List Int} (h : Gr r b now o A T) (hN : LN r b o) (hn : now ≤ now') (hp : 0 ≤ now) {n : Int} (hn0 : 0 ≤ n) (hn1 : n ≤ nowL r b o now') : Gr r b now' (some (nowL r b o now' - n, now')) (A ++ [now']) (T ++ [n]) := by
  have hA : AheadOf o now' := fun l a e => by have := (h.some_ l a e).1; omega
  have hR := nowL_range hN hA
  have hb1 := hN.b1
  have hl := h.len
  refine ⟨by simp [h.len], fun j => ?_, fun j hj => ?_, (fun e => by cases e), fun l a e => ?_⟩
  · rw [getD_snoc]
    have := h.took j
    split
    · exact this
    · split <;> omega
  · rw [getD_snoc]
    split
    · rename_i hq
      have := h.at_ j hq
      omega
    · split <;> omega
  · injection e with e
    injection e with e1 e2
    subst e1 e2
    refine ⟨by omega, fun j hj => ?_⟩
    rw [List.length_append] at hj
    simp only [List.length_cons, List.length_nil] at hj
    rw [sum_drop_snoc T n j (by omega), getD_snoc]
    by_cases hq : j < A.length
    · rw [if_pos hq]
      cases o with
      | none =>
        have := h.none_ rfl
        subst this
        simp at hq
      | some q =>
        obtain ⟨l0, a0⟩ := q
        obtain ⟨h1, h2⟩ := h.some_ l0 a0 rfl
        have h3 := h2 j hq
        have h4 : nowL r b (some (l0, a0)) now' ≤ l0 + (now' - a0) * r := by unfold nowL; simp only; omega
        have e1 : (now' - a0) * r = r * now' - r * a0 := by rw [Int.sub_mul, Int.mul_comm now', Int.mul_comm a0]
        rw [Int.mul_sub] at h3 ⊢
        omega
    · have hj2 : j = A.length := by omega
      subst hj2
      rw [if_neg hq, if_pos rfl, h.len, List.drop_length]
      simp
      omega
theorem Gr.wait {r b now now' : Int} {l : Int} {A T : List Int} (h : Gr r b now (some (l, now)) A T) (hn : now ≤ now') : Gr r b now' (some (nowL r b (some (l, now)) now', now')) A T := by
  refine ⟨h.len, h.took, fun j hj => by have := h.at_ j hj; omega, (fun e => by cases e), fun l2 a e => ?_⟩
  injection e with e
  injection e with e1 e2
  subst e1 e2
  refine ⟨by omega, fun j hj => ?_⟩
  have h3 := (h.some_ l now rfl).2 j hj
  have h4 : nowL r b (some (l, now)) now' ≤ l + (now' - now) * r := by unfold nowL; simp only; omega
  have e1 : (now' - now) * r = r * now' - r * now := by rw [Int.sub_mul, Int.mul_comm now', Int.mul_comm now]
  rw [Int.mul_sub] at h3 ⊢
  omega
theorem wait_range {r l k : Int} (r0 : 1 ≤ r) (hl : 0 ≤ l) (hk : 0 ≤ k) : 0 ≤ waitF r l k ∧ waitF r l k ≤ k ∧ k ≤ l + waitF r l k * r := by
  unfold waitF
  have hm0 : 0 ≤ max (k - l) 0 := by omega
  have hm1 : max (k - l) 0 ≤ k := by omega
  have hm2 : k - l ≤ max (k - l) 0 := by omega
  generalize max (k - l) 0 = m at *
  have e := Int.mul_ediv_add_emod (m + r - 1) r
  have e1 := Int.emod_nonneg (m + r - 1) (show r ≠ 0 by omega)
  have e2 := Int.emod_lt_of_pos (m + r - 1) (show 0 < r by omega)
  have q0 : 0 ≤ (m + r - 1) / r := Int.ediv_nonneg (by omega) (by omega)
  have q1 : (m + r - 1) / r ≤ m := by
    have : (m + r - 1) / r < m + 1 := by
      apply Int.ediv_lt_of_lt_mul (by omega)
      have : m * r ≥ m := by
        have := Int.mul_le_mul_of_nonneg_left r0 hm0
        omega
      rw [Int.add_mul]
      omega
    omega
  rw [Int.mul_comm]at e
  generalize (m + r - 1) / r = q at *
  exact ⟨q0, by omega, by omega⟩
end Go.Proofs.Ytdcjkdoedkjpfah
