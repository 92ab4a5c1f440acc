/-
  IDS FROM 1 ON: what a picker of these is; and that all get their part: mathematics. No claim by itself.
-/
import Derived.Test.YtbhjgpbdfcppkaePkm
namespace Go.Proofs.Ytbhjgpbdfcppkae
set_option maxRecDepth 100000
def upd {α : Type} (f : Nat → α) (i : Nat) (v : α) : Nat → α := fun j => if j = i then v else f j
theorem upd_same {α : Type} (f : Nat → α) (i : Nat) (v : α) : upd f i v i = v := by simp [upd]
theorem upd_other {α : Type} (f : Nat → α) (i j : Nat) (v : α) (h : j ≠ i) : upd f i v j = f j := by simp [upd, h]
def mkO (W sc : Nat → Int) (b : Nat → Bool) (i : Nat) : PkO := ⟨(i : Int) + 1, W i, sc i, b i⟩
def mkL (n : Nat) (W sc : Nat → Int) (b : Nat → Bool) : PL := (List.range n).map (mkO W sc b)
theorem mkL_zero (W sc : Nat → Int) (b : Nat → Bool) : mkL 0 W sc b = [] := rfl
theorem mkL_mem {n : Nat} {W sc : Nat → Int} {b : Nat → Bool} {o : PkO} : o ∈ mkL n W sc b ↔ ∃ i, i < n ∧ mkO W sc b i = o := by
  unfold mkL
  rw [List.mem_map]
  simp
theorem mkL_len (n : Nat) (W sc : Nat → Int) (b : Nat → Bool) : (mkL n W sc b).length = n := by simp [mkL]
theorem mkL_nodup (n : Nat) (W sc : Nat → Int) (b : Nat → Bool) : ((mkL n W sc b).map PkO.id).Nodup := by
  induction n with
  | zero => exact List.nodup_nil
  | succ n ih =>
    unfold mkL at *
    rw [List.range_succ, List.map_append, List.map_append, List.nodup_append]
    refine ⟨ih, by simp, fun x hx y hy => ?_⟩
    simp at hx hy
    obtain ⟨i, hi, rfl⟩ := hx
    subst hy
    simp only [mkO]
    omega
theorem mkL_inv {n : Nat} {W sc : Nat → Int} {b : Nat → Bool} (hn : n ≤ 100) (h : ∀ i, i < n → 1 ≤ W i ∧ W i ≤ 256 ∧ 0 ≤ sc i ∧ sc i ≤ 4611686018427387904) : PkI (mkL n W sc b) := by
  refine ⟨fun o ho => ?_, mkL_nodup n W sc b, by rw [mkL_len]; exact hn⟩
  obtain ⟨i, hi, rfl⟩ := mkL_mem.1 ho
  have := h i hi
  simp only [mkO]
  omega
theorem mkL_find {n i : Nat} {W sc : Nat → Int} {b : Nat → Bool} (h : i < n) : pkFind (mkL n W sc b) ((i : Int) + 1) = some (mkO W sc b i) := by
  have := find_mem (mkL_nodup n W sc b) (mkL_mem.2 ⟨i, h, rfl⟩)
  exact this
theorem mkL_none {n : Nat} {W sc : Nat → Int} {b : Nat → Bool} {id : Int} (h : (n : Int) < id) : pkFind (mkL n W sc b) id = none := by
  rw [find_none]
  intro o ho
  obtain ⟨i, hi, rfl⟩ := mkL_mem.1 ho
  simp only [mkO]
  omega
theorem mkL_congr {n : Nat} {W sc W' sc' : Nat → Int} {b b' : Nat → Bool} (h : ∀ i, i < n → W i = W' i ∧ sc i = sc' i ∧ b i = b' i) : mkL n W sc b = mkL n W' sc' b' := by
  unfold mkL
  apply List.map_congr_left
  intro i hi
  simp at hi
  obtain ⟨h1, h2, h3⟩ := h i hi
  simp [mkO, h1, h2, h3]
theorem mkL_map {n i : Nat} {W sc : Nat → Int} {b : Nat → Bool} (f : PkO → PkO) (s : Int) (c : Bool) (hf : f (mkO W sc b i) = ⟨(i : Int) + 1, W i, s, c⟩) : pkMap (mkL n W sc b) ((i : Int) + 1) f = mkL n W (upd sc i s) (upd b i c) := by
  unfold pkMap mkL
  rw [List.map_map]
  apply List.map_congr_left
  intro j _
  simp only [Function.comp]
  by_cases e : j = i
  · subst e
    rw [if_pos (show (mkO W sc b j).id = (j : Int) + 1 from rfl), hf]
    simp [mkO, upd]
  · rw [if_neg (by simp only [mkO]; omega)]
    simp [mkO, upd, e]
theorem mkL_add {n : Nat} {W sc : Nat → Int} {b : Nat → Bool} {wt : Int} (hn : n < 100) (h1 : 1 ≤ wt) (h2 : wt ≤ 256) : addF (mkL n W sc b) ((n : Int) + 1) wt = (0, mkL (n + 1) (upd W n wt) (upd sc n (leastSc (mkL n W sc b))) (upd b n false)) := by
  unfold addF
  rw [if_neg (by omega), mkL_none (by omega), mkL_len, if_neg (by simp), if_neg (by omega)]
  congr 1
  conv => rhs; unfold mkL
  rw [List.range_succ, List.map_append]
  congr 1
  · apply List.map_congr_left
    intro i hi
    simp at hi
    simp [mkO, upd, show i ≠ n by omega]
  · simp [mkO, upd]
    rfl
theorem mkL_want {n i : Nat} {W sc : Nat → Int} {b : Nat → Bool} (yes : Bool) (h : i < n) : wantF (mkL n W sc b) ((i : Int) + 1) yes = (0, mkL n W (upd sc i (if yes && !(b i) then max (sc i) (leastSc (mkL n W sc b)) else sc i)) (upd b i yes)) := by
  unfold wantF
  rw [mkL_find h, mkL_map (wantO (mkL n W sc b) yes) _ _ rfl]
  rfl
theorem mkL_sent {n i : Nat} {W sc : Nat → Int} {b : Nat → Bool} (m : Int) (h : i < n) : sentF (mkL n W sc b) ((i : Int) + 1) m = if m < 0 ∨ 1000000 < m then (1, mkL n W sc b) else (0, mkL n W (upd sc i (min (sc i + m * 65536 / W i) 4611686018427387904)) b) := by
  unfold sentF
  rw [mkL_find h, mkL_map (sentO m) _ _ rfl]
  simp only [Option.isSome_some, if_true]
  congr 2
  apply mkL_congr
  intro j _
  refine ⟨rfl, rfl, ?_⟩
  by_cases e : j = i
  · subst e; simp [upd, mkO]
  · simp [upd, e]
theorem mkL_next {n : Nat} {W sc : Nat → Int} {b : Nat → Bool} : (nextF (mkL n W sc b) = (0, false) ∧ ∀ i, i < n → b i = false) ∨ ∃ i, i < n ∧ nextF (mkL n W sc b) = ((i : Int) + 1, true) ∧ b i = true ∧ ∀ j, j < n → b j = true → sc i ≤ sc j := by
  unfold nextF
  match e : leastF (mkL n W sc b) with
  | none =>
    refine Or.inl ⟨rfl, fun i hi => ?_⟩
    exact least_none.1 e _ (mkL_mem.2 ⟨i, hi, rfl⟩)
  | some y =>
    obtain ⟨h1, h2, h3⟩ := least_some e
    obtain ⟨i, hi, rfl⟩ := mkL_mem.1 h1
    refine Or.inr ⟨i, hi, rfl, h2, fun j hj hb => ?_⟩
    have := h3 _ (mkL_mem.2 ⟨j, hj, rfl⟩) hb
    simp [pkb, mkO] at this
    have h4 := of_decide_eq_false this.1
    omega
theorem mkL_leastSc0 {n : Nat} {W sc : Nat → Int} {b : Nat → Bool} (h : ∀ i, i < n → sc i = 0) : leastSc (mkL n W sc b) = 0 := by
  unfold leastSc
  match e : leastF (mkL n W sc b) with
  | none => rfl
  | some y =>
    obtain ⟨h1, _, _⟩ := least_some e
    obtain ⟨i, hi, rfl⟩ := mkL_mem.1 h1
    exact h i hi
/-- No one is ahead of another one by more than its own turn. -/
def Fair (n : Nat) (x s : Nat → Int) : Prop := ∀ i, i < n → ∀ k, k < n → s i * x i ≤ s k * x k + x i
theorem Fair.step {n j : Nat} {x s : Nat → Int} (h : Fair n x s) (hx : ∀ i, i < n → 0 ≤ x i) (hj : ∀ k, k < n → s j * x j ≤ s k * x k) : Fair n x (upd s j (s j + 1)) := by
  intro i hi k hk
  have h0 := h i hi k hk
  have h1 := hx i hi
  have h2 := hx k hk
  have h3 := hj k hk
  by_cases e : i = j
  · subst e
    rw [upd_same]
    have e1 : (s i + 1) * x i = s i * x i + x i := by rw [Int.add_mul, Int.one_mul]
    by_cases e' : k = i
    · subst e'
      rw [upd_same]
      omega
    · rw [upd_other _ _ _ _ e']
      omega
  · rw [upd_other _ _ _ _ e]
    by_cases e' : k = j
    · subst e'
      rw [upd_same]
      have e1 : (s k + 1) * x k = s k * x k + x k := by rw [Int.add_mul, Int.one_mul]
      omega
    · rw [upd_other _ _ _ _ e']
      omega
theorem mmm (a b c d : Int) : a * b * (c * d) = a * c * (b * d) := by rw [Int.mul_assoc, Int.mul_assoc, Int.mul_left_comm b c d]
theorem fair_end {M wi wk xi xk si sk : Int} (hM : 65536 ≤ M) (i1 : 1 ≤ wi) (i2 : wi ≤ 256) (k1 : 1 ≤ wk) (hsi : 0 ≤ si) (hsk : 0 ≤ sk) (hs2 : sk ≤ 200) (hxi : xi = M / wi) (hxk : xk = M / wk) (h : si * xi ≤ sk * xk + xi) : si * wk ≤ sk * wi + wi + wk := by
  by_cases h0 : si = 0
  · subst h0
    have := Int.mul_nonneg hsk (show 0 ≤ wi by omega)
    omega
  have a1 : xi * wi ≤ M := by rw [hxi]; exact Int.ediv_mul_le _ (by omega)
  have a2 : M < xi * wi + wi := by rw [hxi]; have := Int.lt_ediv_add_one_mul_self M (show 0 < wi by omega); rw [Int.add_mul, Int.one_mul] at this; exact this
  have a3 : xk * wk ≤ M := by rw [hxk]; exact Int.ediv_mul_le _ (by omega)
  -- multiplied by both weights
  have b1 : (si - 1) * xi ≤ sk * xk := by rw [Int.sub_mul, Int.one_mul]; omega
  have b2 : (si - 1) * wk * (xi * wi) ≤ sk * wi * (xk * wk) := by
    have e1 : (si - 1) * wk * (xi * wi) = (si - 1) * xi * (wk * wi) := mmm _ _ _ _
    have e2 : sk * wi * (xk * wk) = sk * xk * (wk * wi) := by rw [mmm, Int.mul_comm wi wk]
    rw [e1, e2]
    exact Int.mul_le_mul_of_nonneg_right b1 (Int.mul_nonneg (by omega) (by omega))
  obtain ⟨A, hA⟩ : ∃ A, A = (si - 1) * wk := ⟨_, rfl⟩
  obtain ⟨B, hB⟩ : ∃ B, B = sk * wi := ⟨_, rfl⟩
  rw [← hA, ← hB] at b2
  have hA0 : 0 ≤ A := by rw [hA]; exact Int.mul_nonneg (by omega) (by omega)
  have hB0 : 0 ≤ B := by rw [hB]; exact Int.mul_nonneg hsk (by omega)
  have hB2 : B ≤ 200 * wi := by rw [hB]; exact Int.mul_le_mul_of_nonneg_right hs2 (by omega)
  have c1 : A * (M - 255) ≤ A * (xi * wi) := Int.mul_le_mul_of_nonneg_left (by omega) hA0
  have c2 : B * (xk * wk) ≤ B * M := Int.mul_le_mul_of_nonneg_left a3 hB0
  have c3 : A * (M - 255) ≤ B * M := by omega
  have hAe : si * wk = A + wk := by rw [hA, Int.sub_mul, Int.one_mul]; omega
  rw [hAe]
  by_cases hc : A ≤ B + wi
  · omega
  exfalso
  have d1 : (B + wi + 1) * (M - 255) ≤ A * (M - 255) := Int.mul_le_mul_of_nonneg_right (by omega) (by omega)
  have d2 : (B + wi + 1) * (M - 255) = B * M + (wi + 1) * M - 255 * (B + wi + 1) := by
    rw [Int.mul_sub, Int.add_assoc, Int.add_mul]; omega
  have d3 : (wi + 1) * 65536 ≤ (wi + 1) * M := Int.mul_le_mul_of_nonneg_left hM (by omega)
  omega
end Go.Proofs.Ytbhjgpbdfcppkae
