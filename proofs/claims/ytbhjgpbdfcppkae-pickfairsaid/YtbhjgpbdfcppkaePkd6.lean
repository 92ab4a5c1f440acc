/-
  WHOSE TURN IT IS: the Go function Sent of package pick. No claim by itself.
-/
import Derived.Test.YtbhjgpbdfcppkaePkd5
namespace Go.Proofs.Ytbhjgpbdfcppkae
open Go.RowKit Go.Maps
set_option maxRecDepth 100000
set_option maxHeartbeats 1000000 in
theorem psent_none {w : World} {pb mb : Nat} {D : Dat} {L : PL} (h : PkM w pb mb D L) (id n : Int) (hi : I64 id) (hf : pkFind L id = none) :
    Calls Try.prog 16 #[kptr pb, .int .i64 id, .int .i64 n] w (PkSaid pb mb w 5 L) := by
  have HM := vl h
  have c0 := h.c0
  have lk := h.lookk0 hi hf
  have HF : Vl (PkSaid pb mb w 5 L (.returned (.iface 46 (.int .i64 5))) (w.alloc (.cells #[.int .i64 0, .int .i64 0, .bool false] 53))) := said_same HM.out ((Below.refl _ _).alloc (Nat.le_refl _) _) rfl
  clear h hi hf HM
  unfold kptr
  go_enter Try.func16, Try.ntmps16
  go_wp2
  go_ret
  exact HF.out
set_option maxHeartbeats 1000000 in
theorem psent_range {w : World} {pb mb : Nat} {D : Dat} {L : PL} (h : PkM w pb mb D L) (id n : Int) (hi : I64 id) {o : PkO} (hf : pkFind L id = some o) (hn : n < 0 ∨ 1000000 < n) :
    Calls Try.prog 16 #[kptr pb, .int .i64 id, .int .i64 n] w (PkSaid pb mb w 1 L) := by
  have HM := vl h
  have c0 := h.c0
  have lk := h.lookk hi hf
  have HF : Vl (PkSaid pb mb w 1 L (.returned (.iface 46 (.int .i64 1))) (w.alloc (.cells #[.int .i64 o.wt, .int .i64 o.sc, .bool o.wants] 53))) := said_same HM.out ((Below.refl _ _).alloc (Nat.le_refl _) _) rfl
  clear h hi hf HM
  unfold kptr
  by_cases h1 : n < 0
  · clear hn
    go_enter Try.func16, Try.ntmps16
    go_wp2
    go_ret
    exact HF.out
  · have h2 : 0 ≤ n := by omega
    have h3 : 1000000 < n := by omega
    clear hn h1
    go_enter Try.func16, Try.ntmps16
    go_wp2
    go_ret
    exact HF.out
set_option maxHeartbeats 2000000 in
theorem psent_ok {w : World} {pb mb : Nat} {D : Dat} {L : PL} (h : PkM w pb mb D L) (hI : PkI L) (id n : Int) (hi : I64 id) {o : PkO} (hf : pkFind L id = some o) (n0 : 0 ≤ n) (n1 : n ≤ 1000000) :
    Calls Try.prog 16 #[kptr pb, .int .i64 id, .int .i64 n] w (PkSaid pb mb w 0 (pkMap L id (sentO n))) := by
  have HM := vl h
  have HI := vl hI
  have HII := vl hi
  have c0 := h.c0
  have lk := h.lookk hi hf
  have HFI := vl hf
  have he := hI.each o (find_some hf).1
  have hr := sent_room (n := n) (wt := o.wt) n0 n1 he.2.2.1
  obtain ⟨oi, ow, os, on⟩ := o
  dsimp only at *
  obtain ⟨q, hq⟩ : ∃ q, n * 65536 / ow = q := ⟨_, rfl⟩
  rw [hq] at hr
  have HQ := vl hq
  have hq' : (n * 65536).tdiv ow = q := by rw [Int.tdiv_eq_ediv_of_nonneg (by omega)]; exact hq
  have w0 : ¬ ow = 0 := by omega
  have s0 : 0 ≤ os := he.2.2.2.2.1
  have s1 : os ≤ 4611686018427387904 := he.2.2.2.2.2
  have q0 : 0 ≤ q := hr.1
  have q1 : q ≤ 65536000000 := hr.2
  clear h hI hi hf he hr hq
  unfold kptr
  go_enter Try.func16, Try.ntmps16
  go_wp2_with fail
  go_region
  obtain ⟨mn, hmn⟩ : ∃ mn, min (os + q) 4611686018427387904 = mn := ⟨_, rfl⟩
  rw [hmn]
  have HMN := vl hmn
  obtain ⟨W4, hW4⟩ : ∃ W4, W4 = (w.alloc (.cells #[.int .i64 ow, .int .i64 mn, .bool on] 53)).drew := ⟨_, rfl⟩
  have hxA : W4.heap[w.heap.size]? = some (.cells #[.int .i64 ow, .int .i64 mn, .bool on] 53 (0, 0)) := by rw [hW4]; exact heap_alloc_new w _
  have m0 : W4.cell? ⟨w.heap.size, 0, none⟩ = some (.int .i64 ow) := by simp only [World.cell?, hxA]; rfl
  have m1 : W4.cell? ⟨w.heap.size, 1, none⟩ = some (.int .i64 mn) := by simp only [World.cell?, hxA]; rfl
  have m2 : W4.cell? ⟨w.heap.size, 2, none⟩ = some (.bool on) := by simp only [World.cell?, hxA]; rfl
  have HB4 : Vl (Below w.heap.size w W4.drew) := by rw [hW4]; exact (((Below.refl _ _).alloc (Nat.le_refl _) _).drew).drew
  have cA : W4.cell? ⟨pb, 0, none⟩ = some (.map (some mb)) := (HM.out.below (Nat.le_refl _) HB4.out).c0
  obtain ⟨w5, hst, ho5, hg5, _⟩ := (HM.out.below (Nat.le_refl _) HB4.out).store HI.out HII.out ow mn on
  have HO5 := vl ho5
  have HG5 := vl hg5
  rw [← hW4]
  clear hW4 hxA hmn ho5 hg5 lk c0 hq'
  go_wp2_with fail
  go_region
  go_wp2
  go_ret
  exact said_turn HM.out HB4.out HO5.out HG5.out HFI.out _ (fun _ => rfl) (by simp [sentO, HQ.out, HMN.out])
theorem psent_any : PSentSaid PkP := by
  rintro pb L S id n w ⟨mb, D, h, rfl⟩ hI hi hn
  show Calls Try.prog 16 #[kptr pb, .int .i64 id, .int .i64 n] w (PkSaid pb mb w (sentF L id n).1 (sentF L id n).2)
  unfold sentF
  cases hf : pkFind L id with
  | none =>
    rw [if_neg (by simp)]
    exact psent_none h id n hi hf
  | some o =>
    rw [if_pos (by simp)]
    by_cases hc : n < 0 ∨ 1000000 < n
    · rw [if_pos hc]
      exact psent_range h id n hi hf hc
    · rw [if_neg hc]
      exact psent_ok h hI id n hi hf (by omega) (by omega)
end Go.Proofs.Ytbhjgpbdfcppkae
