/-
  WHAT WAS DONE: digits and numbers (as in stage 15's texts). No claim by itself.
-/
import Derived.Test.YteohgkgahkkjlaaGreatDoorG4
namespace Go.Proofs.YteohgkgahkkjlaaGreatDoor
open Go Go.RowKit
set_option maxRecDepth 100000
def numsU (l : List UInt8) : List Int := l.map fun c => (c.toNat : Int)
theorem zpu_one {acc : Nat} {c : UInt8} {r : List UInt8} (hacc : acc < 1000000) : Lib.parseUint10 acc (c :: r) = if 48 ≤ c.toNat ∧ c.toNat ≤ 57 then Lib.parseUint10 (acc * 10 + (c.toNat - 48)) r else .syntax := by
  rw [Lib.parseUint10]
  split
  · rw [if_neg (by omega), if_neg (by omega)]
  · rfl
theorem dc_at {n : Nat} (_h : n < 10) : dc n = 48 + (n : Int) := by unfold dc; omega
theorem pu_dec : ∀ (k : Nat), k < 10000000 → ∀ (l : List UInt8), numsU l = decL k → ∀ r, Lib.parseUint10 0 (l ++ r) = Lib.parseUint10 k r := by
  intro k
  induction k using Nat.strongRecOn with
  | _ k ih =>
    intro hk l hl r
    by_cases h : k < 10
    · rw [decL_one h, dc_at h] at hl
      match l, hl with
      | [c], hl =>
        simp only [numsU, List.map_cons, List.map_nil, List.cons.injEq, and_true] at hl
        rw [List.singleton_append, zpu_one (by omega), if_pos (by omega)]
        congr 1
        omega
      | [], hl => cases hl
      | _ :: _ :: _, hl => simp [numsU] at hl
    · rw [decL_more h, dc_at (Nat.mod_lt _ (by omega))] at hl
      rcases List.eq_nil_or_concat l with rfl | ⟨l1, c, rfl⟩
      · exact absurd hl (by simp [numsU])
      · have hl' : numsU l1 ++ [(c.toNat : Int)] = decL (k / 10) ++ [48 + ((k % 10 : Nat) : Int)] := by
          rw [← hl]; simp [numsU]
        obtain ⟨e1, e2⟩ := List.append_inj' hl' rfl
        have e3 : (c.toNat : Int) = 48 + ((k % 10 : Nat) : Int) := by simpa using e2
        rw [List.concat_eq_append, List.append_assoc, ih (k / 10) (by omega) (by omega) l1 e1, List.singleton_append, zpu_one (by omega), if_pos (by omega)]
        congr 1
        omega
theorem decL_ge : ∀ (k : Nat), ∀ c ∈ decL k, 48 ≤ c ∧ c ≤ 57 := by
  intro k
  induction k using Nat.strongRecOn with
  | _ k ih =>
    intro c hc
    by_cases h : k < 10
    · rw [decL_one h, dc_at h] at hc
      rw [List.mem_singleton.1 hc]
      omega
    · rw [decL_more h, dc_at (Nat.mod_lt _ (by omega))] at hc
      rcases List.mem_append.1 hc with hc | hc
      · exact ih (k / 10) (by omega) c hc
      · rw [List.mem_singleton.1 hc]
        omega
theorem atoi_dec {k : Nat} {l : List UInt8} (hk : k < 10000000) (hl : numsU l = decL k) : Lib.atoiAll l = .ok (k : Int) := by
  have hp := pu_dec k hk l hl []
  rw [List.append_nil] at hp
  match l, hl with
  | [], hl => have := decL_pos k; rw [← hl] at this; simp [numsU] at this
  | x :: r, hl =>
    have hx := decL_ge k (x.toNat : Int) (by rw [← hl]; simp [numsU])
    unfold Lib.atoiAll
    simp only
    rw [if_neg (by omega)]
    unfold Lib.parseMag
    rw [hp, Lib.parseUint10]
    have e45 : ¬ x.toNat = 45 := by omega
    simp only [List.cons_ne_nil, if_false, e45, not_false_eq_true, true_and, false_and]
    rw [if_neg (by omega)]
theorem decL_inj {a b : Nat} (ha : a < 10000000) (hb : b < 10000000) (h : decL a = decL b) : a = b := by
  have e : ∀ n, numsU ((Lib.decDigits n)) = decL n := fun n => dec_digits n
  have h1 := atoi_dec ha (e a)
  have h2 := atoi_dec hb ((e a).trans h)
  rw [h1] at h2
  injection h2 with h2
  omega
theorem gdecL_le : ∀ n : Nat, (decL n).length ≤ n + 1 := by
  intro n
  induction n using Nat.strongRecOn with
  | _ n ih =>
    by_cases h : n < 10
    · rw [decL_one h]; simp
    · rw [decL_more h, List.length_append]
      have := ih (n / 10) (by omega)
      simp
      omega
theorem decL_no (n : Nat) : (32 : Int) ∉ decL n := fun h => by have := decL_ge n 32 h; omega
/-- An entry as text. -/
def printE (t c b k : Nat) (M P : List Int) : List Int := decL t ++ 32 :: (decL c ++ 32 :: (decL b ++ 32 :: (decL k ++ 32 :: (M ++ 32 :: P))))
theorem cut_print (t c b k : Nat) {M : List Int} (P : List Int) (h : tokL M = true) : cutN 32 5 (printE t c b k M P) = [decL t, decL c, decL b, decL k, M, P] := by
  unfold printE
  rw [cutN_at 32 4 (decL_no t), cutN_at 32 3 (decL_no c), cutN_at 32 2 (decL_no b), cutN_at 32 1 (decL_no k), cutN_at 32 0 (tok_no h).1]
  rfl
theorem chkE_ok {t c b k : Int} {M P : List Int} (h : chkE t c b k M P = 0) : (0 ≤ t ∧ t ≤ 1000000) ∧ (100 ≤ c ∧ c ≤ 599) ∧ (0 ≤ b ∧ b ≤ 1000000) ∧ (0 ≤ k ∧ k ≤ 1000000) ∧ tokL M = true ∧ wordL P = true := by
  unfold chkE at h
  split at h
  · rename_i h1
    split at h
    · rename_i h2
      simp only [cntB, betB, Bool.and_eq_true, decide_eq_true_eq] at h1 h2
      exact ⟨h1.1, h1.2.2.2, h1.2.1, h1.2.2.1, h2⟩
    · omega
  · omega
theorem gerr_pos {n : Int} (h : n ≠ 0) : errW n = .iface 52 (.int .i64 n) := if_neg h
end Go.Proofs.YteohgkgahkkjlaaGreatDoor
