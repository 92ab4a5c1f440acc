/-
  PLAIN MATHEMATICS: bits that are cleared one by one. Nothing of the program stands here. No claim by itself.
-/
import Derived.Laws.CopyOwn
import Derived.Lib.MakeNoZero
import Derived.Lib.MinMax
import Derived.Deep.RegionLaw
import Derived.Deep.DeepMust
import Derived.Test.YtkjfhgoddhigmacGreatDoorM15
import Derived.Test.YtkjfhgoddhigmacGreatDoorM07
namespace Go.Proofs.YtkjfhgoddhigmacGreatDoor
open Go
theorem val_set : ∀ (l : List Int) (r : Nat), r < l.length → l.getD r 0 = 1 → val (l.set r 0) = val l - 2 ^ (l.length - 1 - r)
  | [], r, h, _ => by simp at h
  | y :: l, 0, _, h1 => by
    simp at h1
    rw [List.set_cons_zero, val_cons, val_cons, h1, List.length_cons]
    simp
    omega
  | y :: l, r + 1, h, h1 => by
    have ih := val_set l r (by simpa using h) (by simpa using h1)
    rw [List.set_cons_succ, val_cons, val_cons, ih, List.length_set, List.length_cons]
    rw [show l.length + 1 - 1 - (r + 1) = l.length - 1 - r from by omega]
    omega
theorem pack_set : ∀ (N : Nat) (X : List Int) (t : Nat), X.length = 8 * N → t < 8 * N → X.getD t 0 = 1 →
    pack N (X.set t 0) = (pack N X).set (t / 8) ((pack N X).getD (t / 8) 0 - 2 ^ (7 - t % 8))
  | 0, _, t, _, ht, _ => by omega
  | N + 1, X, t, hl, ht, h1 => by
    show val ((X.set t 0).take 8) :: pack N ((X.set t 0).drop 8) = (val (X.take 8) :: pack N (X.drop 8)).set (t / 8) ((val (X.take 8) :: pack N (X.drop 8)).getD (t / 8) 0 - 2 ^ (7 - t % 8))
    have hlt : (X.take 8).length = 8 := by rw [List.length_take]; omega
    by_cases h8 : t < 8
    · have e1 : t / 8 = 0 := by omega
      have e2 : t % 8 = t := by omega
      rw [List.take_set, List.drop_set, if_pos h8, e1, e2, List.set_cons_zero, List.getD_cons_zero]
      rw [val_set (X.take 8) t (by omega) (by rw [← h1]; simp [List.getD, h8]), hlt]
    · have ih := pack_set N (X.drop 8) (t - 8) (by rw [List.length_drop]; omega) (by omega) (by rw [← h1]; simp [List.getD, show 8 + (t - 8) = t from by omega])
      have e1 : t / 8 = (t - 8) / 8 + 1 := by omega
      have e2 : (t - 8) % 8 = t % 8 := by omega
      rw [List.take_set, List.drop_set, if_neg h8, List.set_eq_of_length_le (by omega), ih, e1, List.set_cons_succ, List.getD_cons_succ, e2]
theorem pack_getD : ∀ (N : Nat) (X : List Int) (j : Nat), j < N → (pack N X).getD j 0 = val ((X.drop (8 * j)).take 8)
  | 0, _, _, h => by omega
  | N + 1, X, 0, _ => by simp [pack]
  | N + 1, X, j + 1, h => by
    have ih := pack_getD N (X.drop 8) j (by omega)
    show (val (X.take 8) :: pack N (X.drop 8)).getD (j + 1) 0 = _
    rw [List.getD_cons_succ, ih, List.drop_drop, show 8 + 8 * j = 8 * (j + 1) from by omega]
theorem val_at (l : List Int) (hb : ∀ y ∈ l, y = 0 ∨ y = 1) (r : Nat) (h : r < l.length) : val l / 2 ^ (l.length - 1 - r) % 2 = l.getD r 0 := by
  have h1 := bin_val l hb
  have h2 : ∀ (k : Nat) (x : Int) (t : Nat), t < k → (bin k x).getD t 0 = x / 2 ^ (k - 1 - t) % 2 := by
    intro k
    induction k with
    | zero => intro x t h; omega
    | succ k ih =>
      intro x t h
      match t with
      | 0 => simp [bin]
      | t + 1 =>
        show ((x / 2 ^ k % 2) :: bin k x).getD (t + 1) 0 = _
        rw [List.getD_cons_succ, ih x t (by omega), show k + 1 - 1 - (t + 1) = k - 1 - t from by omega]
  rw [← h2 l.length (val l) r h, h1]
theorem bin_at (k : Nat) (x : Int) (t : Nat) (h : t < k) : (bin k x).getD t 0 = x / 2 ^ (k - 1 - t) % 2 := by
  induction k generalizing t with
  | zero => omega
  | succ k ih =>
    match t with
    | 0 => simp [bin]
    | t + 1 =>
      show ((x / 2 ^ k % 2) :: bin k x).getD (t + 1) 0 = _
      rw [List.getD_cons_succ, ih t (by omega), show k + 1 - 1 - (t + 1) = k - 1 - t from by omega]
theorem clear_fin : ∀ (r : Fin 8) (c : Fin 256), c.val / 2 ^ (7 - r.val) % 2 = 1 → c.val &&& (255 - 128 / 2 ^ r.val) = c.val - 2 ^ (7 - r.val) ∧ 2 ^ (7 - r.val) ≤ c.val := by decide +kernel
/-- A bit that is 1 is cleared. -/
theorem clear_bit (c : Int) (r : Nat) (h0 : 0 ≤ c) (h1 : c < 256) (hr : r < 8) (hb : c / 2 ^ (7 - r) % 2 = 1) : bits .andNot .u8 c (128 / 2 ^ r) = c - 2 ^ (7 - r) := by
  obtain ⟨a, rfl⟩ := Int.eq_ofNat_of_zero_le h0
  have hp : ((2 ^ (7 - r) : Nat) : Int) = (2 : Int) ^ (7 - r) := by simp
  have hp2 : ((128 / 2 ^ r : Nat) : Int) = (128 : Int) / 2 ^ r := by simp
  have hle : 128 / 2 ^ r < 256 := Nat.lt_of_le_of_lt (Nat.div_le_self _ _) (by decide)
  have hb2 : a / 2 ^ (7 - r) % 2 = 1 := by
    rw [← hp] at hb
    omega
  obtain ⟨k1, k2⟩ := clear_fin ⟨r, hr⟩ ⟨a, by omega⟩ hb2
  rw [← hp2, u8_andNot_nat a _ (by omega) hle, ← hp]
  simp only at k1 k2
  rw [k1]
  omega
/-- The bits that are written so far, all others 1. -/
def sofar (B : List Int) (N t : Nat) : List Int := B.take t ++ List.replicate (8 * N - t) 1
theorem sofar_len (B : List Int) (N t : Nat) (h : t ≤ B.length) (hN : B.length ≤ 8 * N) : (sofar B N t).length = 8 * N := by
  unfold sofar; rw [List.length_append, List.length_take, List.length_replicate]; omega
theorem sofar_bit (B : List Int) (hB : ∀ y ∈ B, y = 0 ∨ y = 1) (N t : Nat) : ∀ y ∈ sofar B N t, y = 0 ∨ y = 1 := by
  intro y hy
  unfold sofar at hy
  rcases List.mem_append.1 hy with hy | hy
  · exact hB y (List.take_subset _ _ hy)
  · right; exact List.eq_of_mem_replicate hy
theorem sofar_at (B : List Int) (N t : Nat) (h : t < B.length) (hN : B.length ≤ 8 * N) : (sofar B N t).getD t 0 = 1 := by
  unfold sofar
  have hl : (B.take t).length = t := by rw [List.length_take]; omega
  simp [List.getD, hl, show 0 < 8 * N - t from by omega]
theorem sofar_succ (B : List Int) (N t : Nat) (h : t < B.length) (hN : B.length ≤ 8 * N) : sofar B N (t + 1) = (sofar B N t).set t (B.getD t 0) := by
  unfold sofar
  have hl : (B.take t).length = t := by rw [List.length_take]; omega
  rw [take_snocZ B t _ h rfl, List.set_append_right t _ (by omega), hl, Nat.sub_self]
  obtain ⟨d, hd⟩ : ∃ d, 8 * N - t = d + 1 := ⟨8 * N - t - 1, by omega⟩
  rw [hd, List.replicate_succ, List.set_cons_zero, show 8 * N - (t + 1) = d from by omega, List.append_assoc]
  rfl
theorem sofar_one (B : List Int) (N t : Nat) (h : t < B.length) (hN : B.length ≤ 8 * N) (h1 : B.getD t 0 = 1) : sofar B N (t + 1) = sofar B N t := by
  rw [sofar_succ B N t h hN, h1]
  have hl := sofar_len B N t (by omega) hN
  have h2 := sofar_at B N t h hN
  have h3 : t < (sofar B N t).length := by omega
  apply List.ext_getElem?
  intro j
  by_cases hj : t = j
  · subst hj
    rw [List.getElem?_set_self h3]
    simp [List.getD, List.getElem?_eq_getElem h3] at h2
    rw [List.getElem?_eq_getElem h3, h2]
  · rw [List.getElem?_set_ne hj]
/-- The bytes so far. -/
def bytesF (B : List Int) (N t : Nat) : List Int := pack N (sofar B N t)
theorem bytesF_len (B : List Int) (N t : Nat) : (bytesF B N t).length = N := pack_len _ _
theorem bytesF_byte (B : List Int) (hB : ∀ y ∈ B, y = 0 ∨ y = 1) (N t j : Nat) : 0 ≤ (bytesF B N t).getD j 0 ∧ (bytesF B N t).getD j 0 < 256 := by
  by_cases hj : j < N
  · unfold bytesF
    rw [pack_getD N _ j hj]
    have h := val_bd (((sofar B N t).drop (8 * j)).take 8) (fun y hy => sofar_bit B hB N t y (List.drop_subset _ _ (List.take_subset _ _ hy)))
    have hl : (((sofar B N t).drop (8 * j)).take 8).length ≤ 8 := by rw [List.length_take]; omega
    have hp : (2 : Nat) ^ (((sofar B N t).drop (8 * j)).take 8).length ≤ 2 ^ 8 := Nat.pow_le_pow_right (by decide) hl
    have e : ((2 ^ (((sofar B N t).drop (8 * j)).take 8).length : Nat) : Int) = (2 : Int) ^ (((sofar B N t).drop (8 * j)).take 8).length := by simp
    omega
  · have e : (bytesF B N t).getD j 0 = 0 := by simp [List.getD, List.getElem?_eq_none (show (bytesF B N t).length ≤ j by rw [bytesF_len]; omega)]
    rw [e]; omega
theorem bytesF_one (B : List Int) (N t : Nat) (h : t < B.length) (hN : B.length ≤ 8 * N) (h1 : B.getD t 0 = 1) : bytesF B N (t + 1) = bytesF B N t := by
  unfold bytesF; rw [sofar_one B N t h hN h1]
theorem bytesF_zero (B : List Int) (hB : ∀ y ∈ B, y = 0 ∨ y = 1) (N t : Nat) (h : t < B.length) (hN : B.length ≤ 8 * N) (h0 : B.getD t 0 = 0) :
    bytesF B N (t + 1) = (bytesF B N t).set (t / 8) (bits .andNot .u8 ((bytesF B N t).getD (t / 8) 0) (128 / 2 ^ (t % 8))) := by
  have hl := sofar_len B N t (by omega) hN
  have hby := bytesF_byte B hB N t (t / 8)
  have hg : (bytesF B N t).getD (t / 8) 0 = val (((sofar B N t).drop (8 * (t / 8))).take 8) := by unfold bytesF; exact pack_getD N _ _ (by omega)
  have hl8 : (((sofar B N t).drop (8 * (t / 8))).take 8).length = 8 := by rw [List.length_take, List.length_drop, hl]; omega
  have hv := val_at (((sofar B N t).drop (8 * (t / 8))).take 8) (fun y hy => sofar_bit B hB N t y (List.drop_subset _ _ (List.take_subset _ _ hy))) (t % 8) (by omega)
  rw [hl8, ← hg] at hv
  have hone : (((sofar B N t).drop (8 * (t / 8))).take 8).getD (t % 8) 0 = 1 := by
    rw [← sofar_at B N t h hN]
    simp [List.getD, show t % 8 < 8 from by omega, show 8 * (t / 8) + t % 8 = t from by omega]
  rw [hone] at hv
  rw [clear_bit _ (t % 8) hby.1 hby.2 (by omega) hv]
  unfold bytesF
  rw [sofar_succ B N t h hN, h0]
  exact pack_set N _ t hl (by omega) (sofar_at B N t h hN)
theorem pack_ones : ∀ (N : Nat), pack N (List.replicate (8 * N) 1) = List.replicate N 255
  | 0 => rfl
  | N + 1 => by
    have ih := pack_ones N
    rw [pack, List.take_replicate, List.drop_replicate, show min 8 (8 * (N + 1)) = 8 from by omega, show 8 * (N + 1) - 8 = 8 * N from by omega, ih, List.replicate_succ]
    rfl
theorem bytesF_none (B : List Int) (N : Nat) : bytesF B N 0 = List.replicate N 255 := by
  unfold bytesF sofar
  simp only [List.take_zero, List.nil_append, Nat.sub_zero]
  exact pack_ones N
theorem bytesF_all (s : List Int) : bytesF (bitsL s) (((bitsL s).length + 7) / 8) (bitsL s).length = codeL s := by
  unfold bytesF sofar codeL fill
  rw [List.take_length, List.length_append, List.length_replicate]
  rw [show 8 * (((bitsL s).length + 7) / 8) - (bitsL s).length = (8 - (bitsL s).length % 8) % 8 from by omega]
  rw [show ((bitsL s).length + 7) / 8 = ((bitsL s).length + (8 - (bitsL s).length % 8) % 8) / 8 from by omega]
end Go.Proofs.YtkjfhgoddhigmacGreatDoor
/-
  CONTRACTS of the Go functions bits.Mul64 and bits.Mul at 1 and a number below 4294967296. No claim by itself.
-/
namespace Go.Proofs.YtkjfhgoddhigmacGreatDoor
open Go.RowKit
theorem u64_mask32 (y : Int) (h0 : 0 ≤ y) (h1 : y < 18446744073709551616) : bits .and .u64 y 4294967295 = y % 4294967296 := by
  obtain ⟨a, rfl⟩ := Int.eq_ofNat_of_zero_le h0
  rw [show (4294967295 : Int) = ((4294967295 : Nat) : Int) from rfl, u64_and_nat a _ (by omega) (by decide)]
  have := Nat.and_two_pow_sub_one_eq_mod a 32
  rw [show (2 : Nat) ^ 32 - 1 = 4294967295 from by decide] at this
  rw [this, show (2 : Nat) ^ 32 = 4294967296 from by decide]
  omega
set_option maxHeartbeats 2000000 in
theorem mul64_one (y : Nat) (h : y ≤ 281474976710656) (w : World) :
    Calls Tryz.prog 89 #[.int .u64 1, .int .u64 y] w fun e w' => e = .returned (.tuple #[.int .u64 0, .int .u64 y]) ∧ w = w' := by
  have e1 : bits .and .u64 1 4294967295 = 1 := u64_mask32 1 (by decide) (by decide)
  have e2 := u64_mask32 y (by omega) (by omega)
  have e3 : bits .and .u64 0 4294967295 = 0 := u64_mask32 0 (by decide) (by decide)
  obtain ⟨y0, hy0⟩ : ∃ y0 : Int, (y : Int) % 4294967296 = y0 := ⟨_, rfl⟩
  obtain ⟨y1, hy1⟩ : ∃ y1 : Int, (y : Int) / 4294967296 = y1 := ⟨_, rfl⟩
  rw [hy0] at e2
  have b0 : 0 ≤ y0 := by omega
  have b1 : y0 < 4294967296 := by omega
  have b2 : 0 ≤ y1 := by omega
  have b3 : y1 ≤ 65536 := by omega
  have e4 : y0 / 4294967296 = 0 := by omega
  have e5 : y1 / 4294967296 = 0 := by omega
  clear hy0
  go_enter Tryz.func89, Tryz.ntmps89
  go_wp2
  go_ret2
  exact ⟨rfl, rfl⟩
theorem mul_one_ (y : Nat) (h : y ≤ 281474976710656) (w : World) :
    Calls Tryz.prog 82 #[.int .u64 1, .int .u64 y] w fun e w' => e = .returned (.tuple #[.int .u64 0, .int .u64 y]) ∧ w = w' := by
  go_enter Tryz.func82, Tryz.ntmps82
  go_wp2_with fail
  refine (mul64_one y h _).mono ?_
  rintro _ _ ⟨rfl, rfl⟩
  go_wp2
  go_ret2
  exact ⟨rfl, rfl⟩
end Go.Proofs.YtkjfhgoddhigmacGreatDoor
/-
  CONTRACT of the Go function bytes.Repeat at one byte. No claim by itself.
-/
namespace Go.Proofs.YtkjfhgoddhigmacGreatDoor
open Go.RowKit
/-- The first cells of a block of bytes. -/
def Blk (w : World) (g n : Nat) (L : List Value) : Prop :=
  ∃ cur : List Value, w.heap[g]? = some (.cells cur.toArray 5 (0, 0)) ∧ n ≤ cur.length ∧ cur.take n = L
theorem blk_src {w : World} {g k q : Nat} {cur : List Value} {v : Value} (h : w.heap[g]? = some (.cells cur.toArray 5 (0, 0))) (ht : cur.take k = List.replicate k v) (hq : q ≤ k) :
    Hid (∀ j u, (List.replicate q v)[j]? = some u → w.drew.cell? ((⟨g, 0, none⟩ : Addr).add j) = some u) := by
  show ∀ j u, _
  intro j u hj
  rw [List.getElem?_replicate] at hj
  split at hj
  · rename_i hlt
    obtain rfl := Option.some.inj hj
    have h1 : cur[j]? = some v := by
      have h2 : (cur.take k)[j]? = some v := by rw [ht, List.getElem?_replicate, if_pos (by omega)]
      rw [List.getElem?_take, if_pos (by omega)] at h2
      exact h2
    have h3 : w.drew.heap[g]? = some (.cells cur.toArray 5 (0, 0)) := h
    have hplain : (⟨g, 0, none⟩ : Addr).add j = ⟨g, j, none⟩ := by unfold Addr.add; split <;> simp_all
    rw [hplain]
    simp [World.cell?, h3, h1]
  · cases hj
theorem blk_more {k q : Nat} {cur : List Value} {v : Value} (ht : cur.take k = List.replicate k v) :
    Hid ((splice cur k (List.replicate q v)).take (k + q) = List.replicate (k + q) v) := by
  show _ = _
  unfold splice
  rw [ht, ← List.append_assoc, List.replicate_append_replicate]
  rw [List.take_left' (by simp)]
set_option maxRecDepth 100000 in
set_option maxHeartbeats 4000000 in
theorem rep_any (g n : Nat) (w : World) (hn : n ≤ 281474976710656) (hc : w.cell? ⟨g, 0, none⟩ = some (.int .u8 255)) :
    Calls Tryz.prog 73 #[.slice (some ⟨g, 0, none⟩) 1 1, .int .i64 n] w fun e w' => ∃ h, e = .returned (.slice (some ⟨h, 0, none⟩) n n) ∧ w.heap.size ≤ h ∧ Blk w' h n (List.replicate n (.int .u8 255)) ∧ Below w.heap.size w w' := by
  by_cases h0 : n = 0
  · subst h0
    go_enter Tryz.func73, Tryz.ntmps73
    go_wp2_with fail
    go_ret
    refine ⟨_, rfl, Nat.le_refl _, ⟨[], ?_, Nat.le_refl _, rfl⟩, ?_⟩
    · exact Array.getElem?_push_size
    · exact (Below.refl _ w).alloc (Nat.le_refl _) _
  · have hnz : ((n : Int) == 0) = false := by rw [beq_eq_false_iff_ne]; omega
    have hx := @run_callFunc_extern Tryz.prog 83 _ (Extern.BytealgMakeNoZero.makeNoZero #[3] #[35]) Tryz.func83 (by kernel_rfl) (by kernel_rfl) (by kernel_rfl) (by kernel_rfl)
    obtain ⟨cs, hrun, hcs1, hcs2⟩ := Lib.run_makeNoZero (P := Tryz.prog) w #[3] 35 5 Tryz.underlying35 n (by omega)
    have hgl : g < w.heap.size := by
      rcases Nat.lt_or_ge g w.heap.size with h1 | h1
      · exact h1
      · simp [World.cell?, Array.getElem?_eq_none h1] at hc
    have hcs3 := hcs2 (by unfold maxLen; omega)
    unfold maxLen at hcs3
    have hs5 : (Tryz.prog.info? 5).map (·.size) = some 1 := by kernel_rfl
    have HW1 : Hid ((w.drew.drew.alloc (.cells cs 5)).heap[w.heap.size]? = some (.cells cs.toList.toArray 5 (0, 0))) := by
      show (w.drew.drew.heap.push (.cells cs 5 (0, 0)))[w.drew.drew.heap.size]? = _
      rw [Array.toArray_toList]
      exact Array.getElem?_push_size
    have HB1 : Hid (Below w.heap.size w (w.drew.drew.alloc (.cells cs 5))) := by
      show Below _ _ _
      exact ((Below.refl _ w).drew.drew).alloc (by simp) _
    have HC1 : Hid ((w.drew.drew.alloc (.cells cs 5)).cell? ⟨g, 0, none⟩ = some (.int .u8 255)) := by
      show _ = _
      rw [HB1.out.cell (p := ⟨g, 0, none⟩) hgl]; exact hc
    obtain ⟨M, hM⟩ : ∃ M : Nat, (if n ≤ 8192 then n else 8192) = M := ⟨_, rfl⟩
    have hM1 : 1 ≤ M := by rw [← hM]; split <;> omega
    have hM2 : M ≤ 8192 := by rw [← hM]; split <;> omega
    have hcase : (decide (8192 < (n : Int)) = false ∧ Hid (n = M)) ∨ (decide (8192 < (n : Int)) = true ∧ Hid (M = 8192)) := by
      by_cases h8 : n ≤ 8192
      · left; rw [if_pos h8] at hM; exact ⟨by simp; omega, hM⟩
      · right; rw [if_neg h8] at hM; exact ⟨by simp; omega, hM.symm⟩
    clear hM
    go_enter Tryz.func73, Tryz.ntmps73
    go_wp2_with fail
    refine (mul_one_ n hn _).mono ?_
    rintro _ _ ⟨rfl, rfl⟩
    rcases hcase with ⟨hd8, hM3⟩ | ⟨hd8, hM3⟩
    all_goals
      go_wp2_with (refine wpList_copy_splice rfl _ _ 35 35 rfl 5 Tryz.underlying35 hs5 _ _ _ _ _ _ rfl rfl w.heap.size 0 cs.toList 5 HW1.out [.int .u8 255] ?b2 ?b3 ?b4 ?b5 w.heap.size w HB1.out (Nat.le_refl _) ?_)
      case b2 => exact (Nat.min_eq_left (show 1 ≤ n by omega)).symm
      case b3 => intro j v hj; cases j with | zero => (simp at hj; subst hj; exact hc) | succ j => simp at hj
      case b4 => simp; omega
      case b5 => intro v hv; simp at hv; subst hv; rfl
      intro w1 hk1 hb1
      go_wp2_with fail
      go_loopw [10] (fun i wr => ∃ (k : Nat) (cur : List Value), i = .int .i64 k ∧ 1 ≤ k ∧ k ≤ n ∧ Hid (wr.heap[w.heap.size]? = some (.cells cur.toArray 5 (0, 0))) ∧ cur.length = cs.size ∧ Hid (cur.take k = List.replicate k (.int .u8 255)) ∧ Below w.heap.size w wr) (fun i _ => n - (intOf i).toNat)
      case atStart => exact ⟨1, _, rfl, by omega, by omega, hk1, by rw [length_splice _ _ _ (by simp; omega)]; simp, by show _ = _; simp [splice], hb1⟩
      case round =>
        obtain ⟨k, cur, rfl, hk1, hk2, HK, hcl, HT, hbel⟩ := hrel
        by_cases hlt : k < n
        · obtain ⟨c, hmin, hc1, hc2⟩ : ∃ c : Nat, min (k : Int) 8192 = c ∧ 1 ≤ c ∧ c ≤ k := ⟨min k 8192, by omega, by omega, by omega⟩
          try (have hminn : min (k : Int) (n : Int) = c := by have := hM3.out; omega)
          have hcn : c ≤ n := by omega
          obtain ⟨q, HQ, hq1, hq2⟩ : ∃ q : Nat, Hid (q = Nat.min c (n - k)) ∧ 1 ≤ q ∧ k + q ≤ n := ⟨min c (n - k), rfl, by omega, by omega⟩
          have hqc : q ≤ c := by have : q = min c (n - k) := HQ.out; omega
          have HSRC := blk_src HK.out HT.out (show q ≤ k by omega)
          have HN : Hid ((List.replicate q (Value.int .u8 255)).length = Nat.min c (n - k)) := by show _ = _; rw [List.length_replicate]; exact HQ.out
          have HFIT : Hid (k + (List.replicate q (Value.int .u8 255)).length ≤ cur.length) := by show _ ≤ _; rw [List.length_replicate]; omega
          have H1C : Hid (∀ v ∈ List.replicate q (Value.int .u8 255), v.oneCell' = true) := fun v hv => by rw [List.eq_of_mem_replicate hv]; rfl
          have HBD : Hid (Below w.heap.size w wr.drew) := hbel.drew
          have HT2 := blk_more (q := q) HT.out
          have hcl2 : (splice cur k (List.replicate q (Value.int .u8 255))).length = cs.size := by rw [length_splice _ _ _ HFIT.out]; exact hcl
          have HW : Hid (IntKind.i64.wrap ((k : Int) + (q : Int)) = ((k + q : Nat) : Int)) := by show _ = _; rw [IntKind.wrap_i64]; omega
          go_wp2_with fail
          go_region_law (refine step_copy_splice rfl (.tmp 70) (.tmp 73) 35 35 rfl 5 Tryz.underlying35 hs5 (some ⟨w.heap.size, k, none⟩) (some ⟨w.heap.size, 0, none⟩) (n - k) (n - k) c n (by simp [Act.eval, Act.put]; omega) (by simp [Act.eval, Act.put]) w.heap.size k cur 5 HK.out (List.replicate q (Value.int .u8 255)) HN.out (fun _ => ⟨rfl, _, rfl, HSRC.out⟩) HFIT.out H1C.out w.heap.size w HBD.out (Nat.le_refl _) ?_; intro w4 hg4 hb4)
          all_goals
            go_simp
            go_wp2_with fail
            go_roundw
            case rel => exact ⟨k + q, _, by rw [HW.out], by omega, by omega, hg4, hcl2, HT2, hb4⟩
            case measure => rw [HW.out]; simp [intOf]; omega
        · have e : k = n := by omega
          subst e
          go_wp2
          go_ret
          exact ⟨_, rfl, Nat.le_refl _, ⟨cur, HK.out, by omega, HT.out⟩, hbel⟩
end Go.Proofs.YtkjfhgoddhigmacGreatDoor
