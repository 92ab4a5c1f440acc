/-
  WHAT WAS DONE: the document's answer, digits of a number and an entry as text. No claim by itself.
-/
import Derived.Test.YteohgkgahkkjlaaGreatDoorG5
import Derived.Test.YteohgkgahkkjlaaGreatDoorH1
namespace Go.Proofs.YteohgkgahkkjlaaGreatDoor
open Go Go.RowKit
set_option maxRecDepth 100000
theorem hstr_app (A B : List Int) : strOfNums A ++ strOfNums B = strOfNums (A ++ B) := by
  apply ByteArray.ext
  rw [ByteArray.data_append]
  unfold strOfNums
  simp
def tensH : ByteArray := ⟨#[48, 49, 50, 51, 52, 53, 54, 55, 56, 57]⟩
theorem ext_tenH {d : Nat} (h : d < 10) : tensH.extract d (d + 1) = strOfNums [dc d] := by
  match d with
  | 0 => rfl
  | 1 => rfl
  | 2 => rfl
  | 3 => rfl
  | 4 => rfl
  | 5 => rfl
  | 6 => rfl
  | 7 => rfl
  | 8 => rfl
  | 9 => rfl
  | d + 10 => omega
theorem hdig_any : ∀ (n : Nat) (w : World), n ≤ 1000000 → Calls Tryz.prog 18 #[.int .i64 n] w fun e w' => e = .returned (.string (strOfNums (decL n))) ∧ w = w' := by
  intro n
  induction n using Nat.strongRecOn with
  | _ n ih =>
    intro w hn
    by_cases h : n < 10
    · rw [decL_one h]
      have h1 : (n : Int) < 10 := by omega
      go_enter Tryz.func18, Tryz.ntmps18
      go_wp2
      go_ret
      refine ⟨?_, rfl⟩
      have := ext_tenH h
      unfold tensH at this
      show Ending.returned (Value.string _) = _
      rw [this]
    · have h1 : ¬ ((n : Int) < 10) := by omega
      have hd : n % 10 < 10 := by omega
      have HC := vl (ih (n / 10) (by omega) w (by omega))
      have HE := vl (ext_tenH hd)
      have HX := vl (decL_more h)
      clear ih
      have hS : (strOfNums (decL (n / 10))).size ≤ 1000001 := by rw [strOfNums_size]; have := gdecL_le (n / 10); omega
      obtain ⟨S, hSe⟩ : ∃ S, strOfNums (decL (n / 10)) = S := ⟨_, rfl⟩
      rw [hSe] at hS HC
      have HS := vl hSe
      clear hSe
      go_enter Tryz.func18, Tryz.ntmps18
      go_wp2_with fail
      refine HC.out.mono ?_
      rintro r w' ⟨rfl, rfl⟩
      go_wp2
      go_ret
      refine ⟨?_, rfl⟩
      have e1 := HE.out
      unfold tensH at e1
      show Ending.returned (Value.string (_ ++ _)) = _
      rw [e1, ← HS.out, hstr_app, HX.out]
theorem dec_bytes : ∀ n : Nat, Bytes (decL n) := by
  intro n c hc
  have := decL_ge n c hc
  omega
theorem hdig2 (n : Nat) (hn : n ≤ 1000000) (w : World) : Calls Tryz.prog 18 #[.int .i64 n] w fun e w' => ∃ s : ByteArray, e = .returned (.string s) ∧ unums s = decL n ∧ s.size ≤ 1000001 ∧ w = w' :=
  (hdig_any n w hn).mono fun e w' ⟨h1, h2⟩ => ⟨_, h1, unums_str (dec_bytes n), by rw [strOfNums_size]; have := gdecL_le n; omega, h2⟩
set_option maxHeartbeats 4000000 in
theorem rprint_any (t c b k : Nat) (m p : ByteArray) (w : World) (ht : t ≤ 1000000) (hc : c ≤ 1000000) (hb : b ≤ 1000000) (hk : k ≤ 1000000) (hm : m.size ≤ 400) (hp : p.size ≤ 400) :
    Calls Tryz.prog 6 #[entV t c b k m p] w fun e w' => (∃ s : ByteArray, e = .returned (.string s) ∧ unums s = printE t c b k (unums m) (unums p)) ∧ Below w.heap.size w w' := by
  unfold entV
  obtain ⟨W1, hW1⟩ : ∃ W1, W1 = w.alloc (.cells #[.int .i64 t, .int .i64 c, .int .i64 b, .int .i64 k, .string m, .string p] 23) := ⟨_, rfl⟩
  obtain ⟨W2, hW2⟩ : ∃ W2, W2 = W1.alloc (.cells #[.int .i64 t, .int .i64 c, .int .i64 b, .int .i64 k] 3) := ⟨_, rfl⟩
  have HB1 : Below w.heap.size w W1 := by rw [hW1]; exact (Below.refl _ w).alloc (Nat.le_refl _) _
  have hsz : w.heap.size < W1.heap.size := by rw [hW1]; simp
  have HB2 : Vl (Below w.heap.size w W2) := by rw [hW2]; exact vl (HB1.alloc (Nat.le_of_lt hsz) _)
  have HBB : Below W1.heap.size W1 W2 := by rw [hW2]; exact (Below.refl _ W1).alloc (Nat.le_refl _) _
  have HBX : EnC W2 w.heap.size t c b k m p := EnC.below (by rw [hW1]; exact enc_new w t c b k m p _) HBB hsz
  have e1 : W1.heap.size = w.heap.size + 1 := by rw [hW1]; simp
  have hr := heap_alloc_new W1 (.cells #[.int .i64 t, .int .i64 c, .int .i64 b, .int .i64 k] 3)
  rw [← hW2, e1] at hr
  obtain ⟨r0, r1, r2, r3⟩ : W2.cell? ⟨w.heap.size + 1, 0, none⟩ = some (.int .i64 t) ∧ W2.cell? ⟨w.heap.size + 1, 1, none⟩ = some (.int .i64 c) ∧ W2.cell? ⟨w.heap.size + 1, 2, none⟩ = some (.int .i64 b) ∧ W2.cell? ⟨w.heap.size + 1, 3, none⟩ = some (.int .i64 k) := by
    simp only [World.cell?, hr]
    exact ⟨rfl, rfl, rfl, rfl⟩
  obtain ⟨d0, d1, d2, d3, d4, d5⟩ := HBX
  have H1 := vl (hdig2 t ht W2)
  have H2 := vl (hdig2 c hc W2)
  have H3 := vl (hdig2 b hb W2)
  have H4 := vl (hdig2 k hk W2)
  subst hW1
  clear HB1 HBB hr e1 hsz ht hc hb hk d0 d1 d2 d3
  go_enter Tryz.func6, Tryz.ntmps6
  go_upto_region 4 with fail
  rw [← hW2]
  clear hW2
  refine wp_loop_rounds 5 ?_
  rw [rounds_succ]
  go_wp2_with fail
  refine H1.out.mono ?_
  rintro _ _ ⟨s1, rfl, u1, z1, rfl⟩
  have U1 := vl u1
  clear u1
  have y1 : ¬ 9223372036854775807 < s1.size + 1 := by omega
  go_wp2_with fail
  rw [rounds_succ]
  go_wp2_with fail
  refine H2.out.mono ?_
  rintro _ _ ⟨s2, rfl, u2, z2, rfl⟩
  have U2 := vl u2
  clear u2
  go_wp2_with fail
  rw [rounds_succ]
  go_wp2_with fail
  refine H3.out.mono ?_
  rintro _ _ ⟨s3, rfl, u3, z3, rfl⟩
  have U3 := vl u3
  clear u3
  go_wp2_with fail
  rw [rounds_succ]
  go_wp2_with fail
  refine H4.out.mono ?_
  rintro _ _ ⟨s4, rfl, u4, z4, rfl⟩
  have U4 := vl u4
  clear u4
  go_wp2_with fail
  rw [rounds_succ]
  go_wp2_with fail
  go_ret
  refine ⟨⟨_, rfl, ?_⟩, HB2.out⟩
  simp only [un_add, U1.out, U2.out, U3.out, U4.out]
  unfold printE
  simp [unums]
end Go.Proofs.YteohgkgahkkjlaaGreatDoor
