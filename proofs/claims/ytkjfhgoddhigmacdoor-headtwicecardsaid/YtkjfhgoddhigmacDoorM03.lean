/-
  THE TABLE as the developers laid it out in memory; its functions that only read. No claim by itself.
-/
import Derived.Laws.CopyRow
import Derived.Deep.QuietTactic
import Derived.BigQuiet
import Derived.Deep.RegionHeld3
import Derived.Handy
import Derived.Test.YtkjfhgoddhigmacDoorM02
namespace Go.Proofs.YtkjfhgoddhigmacDoor
open Go.RowKit
/-- A list of fields as a table keeps it: its slice, its own block. -/
def LRow (w : World) (tb : Nat) (v : Value) (A : List (ByteArray × ByteArray)) : Prop :=
  (v = .slice none 0 0 ∧ A = []) ∨ ∃ g cap cur, v = .slice (some ⟨g, 0, none⟩) A.length cap ∧ 0 ≠ g ∧ g ≠ tb ∧ w.heap[g]? = some (.cells cur 33 (0, 0)) ∧ A.length ≤ cap ∧ cap ≤ maxLen ∧ cur.size = cap * 2 ∧ cur.toList.take (A.length * 2) = fcells A
/-- A table. -/
structure TabP (w : World) (tb : Nat) (max : Int) (A : List (ByteArray × ByteArray)) (S : Nat → Prop) : Prop where
  alw : Alw w
  row : ∃ v, w.heap[tb]? = some (.cells #[.int .i64 max, .int .i64 (weight A : Int), v] 55 (0, 0)) ∧ LRow w tb v A ∧ ∀ k, S k ↔ k = tb ∨ v.ownBlock = some k
theorem lt_of_heap {w : World} {g : Nat} {o : Obj} (h : w.heap[g]? = some o) : g < w.heap.size := (Array.getElem?_eq_some_iff.1 h).1
theorem cell_at {w : World} {g : Nat} {cur : Array Value} {t : TypeId} {fr : Nat × Nat} (h : w.heap[g]? = some (.cells cur t fr)) (j : Nat) : w.cell? ⟨g, j, none⟩ = cur[j]? := cell_of_row w g j cur t fr h
theorem frozen_at {w : World} {g : Nat} {cur : Array Value} {t : TypeId} (h : w.heap[g]? = some (.cells cur t (0, 0))) (j : Nat) : w.frozen? ⟨g, j, none⟩ = false := by
  unfold World.frozen?; rw [h]; simp
theorem LRow.frow {w : World} {A : List (ByteArray × ByteArray)} {g cap : Nat} {cur : Array Value} (h1 : w.heap[g]? = some (.cells cur 33 (0, 0))) (h2 : A.length ≤ cap) (h3 : cap ≤ maxLen) (h5 : cur.toList.take (A.length * 2) = fcells A) : FRow w g 0 A.length cap A := by
  have key : ∀ j, j < A.length * 2 → w.cell? ⟨g, j, none⟩ = (fcells A)[j]? := fun j hj => by
    rw [cell_at h1, ← h5, List.getElem?_take, if_pos hj, Array.getElem?_toList]
  refine ⟨rfl, h2, h3, fun t ht => ?_, fun t ht => ?_⟩
  · rw [key _ (by omega), show 0 + t * 2 = 2 * t by omega]; exact (fcells_at A t ht).1
  · rw [key _ (by omega), show 0 + t * 2 + 1 = 2 * t + 1 by omega]; exact (fcells_at A t ht).2
theorem tabKeeps : TabKeeps TabP where
  lt := by
    rintro w tb max A S ⟨_, v, h1, h2, h3⟩ k hk
    rcases (h3 k).1 hk with rfl | hk
    · exact lt_of_heap h1
    · rcases h2 with ⟨rfl, _⟩ | ⟨g, cap, cur, rfl, _, _, hg, _⟩
      · simp [Value.ownBlock] at hk
      · simp [Value.ownBlock] at hk
        subst hk
        exact lt_of_heap hg
  alw := fun h => h.alw
  frame := by
    rintro w w' tb max A S ⟨ha, v, h1, h2, h3⟩ _ hk hA
    refine ⟨ha.kept hA, v, (hk tb ((h3 tb).2 (Or.inl rfl))).trans h1, ?_, h3⟩
    rcases h2 with h2 | ⟨g, cap, cur, rfl, a1, a2, hg, r⟩
    · exact Or.inl h2
    · exact Or.inr ⟨g, cap, cur, rfl, a1, a2, (hk g ((h3 g).2 (Or.inr rfl))).trans hg, r⟩
theorem sizeof_any (n v : ByteArray) (w : World) (h : n.size + v.size ≤ 1152921504606846976) :
    Calls Tryd.prog 19 #[.agg #[.string n, .string v]] w fun e w' => e = .returned (.int .i64 (fsize (n, v) : Int)) ∧ w' = w.alloc (.cells #[.string n, .string v] 33) := by
  have E : Hid (((n.size : Int) + (v.size : Int) + 32) = (fsize (n, v) : Int)) := by show _ = (fsize (n, v) : Int); unfold fsize; push_cast; rfl
  have h1 : (n.size : Int) + (v.size : Int) ≤ 1152921504606846976 := by omega
  go_enter Tryd.func19, Tryd.ntmps19
  go_wp2
  rw [E.out]
  go_ret
  exact ⟨rfl, rfl⟩
theorem maymax_yes (m : Int) (w : World) (h0 : 0 ≤ m) (h1 : m ≤ 4096) : Calls Tryd.prog 20 #[.int .i64 m] w fun e w' => e = .returned (.bool true) ∧ w = w' := by
  go_enter Tryd.func20, Tryd.ntmps20
  go_wp2
  go_ret
  exact ⟨rfl, rfl⟩
theorem maymax_no (m : Int) (w : World) (h : ¬ (0 ≤ m ∧ m ≤ 4096)) : Calls Tryd.prog 20 #[.int .i64 m] w fun e w' => e = .returned (.bool false) ∧ w = w' := by
  rcases Int.lt_or_le m 0 with h0 | h0
  · go_enter Tryd.func20, Tryd.ntmps20
    go_wp2
    go_ret
    exact ⟨rfl, rfl⟩
  · have h1 : decide (m ≤ 4096) = false := by simp; omega
    go_enter Tryd.func20, Tryd.ntmps20
    go_wp2
    go_ret
    exact ⟨rfl, rfl⟩
theorem heap_new (w : World) (o : Obj) : (w.alloc o).heap[w.heap.size]? = some o := Array.getElem?_push_size
theorem tnew : TNewSaid TabP := by
  intro max w hal
  by_cases hm : 0 ≤ max ∧ max ≤ 4096
  · have HAL : Hid (Alw w) := hal
    have hm' := hm
    obtain ⟨m0, m1⟩ := hm'
    clear hal
    go_enter Tryd.func11, Tryd.ntmps11
    go_wp2_with fail
    refine (maymax_yes max w m0 m1).mono ?_
    rintro e w' ⟨rfl, rfl⟩
    go_wp2
    go_ret2
    have hb : Below w.heap.size w (w.alloc (.cells #[.int .i64 max, .int .i64 0, .slice none 0 0] 55)) := (Below.refl _ _).alloc (Nat.le_refl _) _
    refine ⟨hb, Or.inl ⟨m0, m1, w.heap.size, fun k => k = w.heap.size, rfl, ⟨HAL.out.below hb, .slice none 0 0, heap_new _ _, Or.inl ⟨rfl, rfl⟩, fun k => ⟨Or.inl, fun h => ?_⟩⟩, fun k hk => by omega⟩⟩
    rcases h with h | h
    · exact h
    · simp [Value.ownBlock] at h
  · clear hal
    go_enter Tryd.func11, Tryd.ntmps11
    go_wp2_with fail
    refine (maymax_no max w hm).mono ?_
    rintro e w' ⟨rfl, rfl⟩
    go_wp2
    go_ret2
    exact ⟨Below.refl _ _, Or.inr ⟨hm, _, rfl⟩⟩
theorem len_read (tb : Nat) (max : Int) (A : List (ByteArray × ByteArray)) (S : Nat → Prop) (w : World) (hD : TabP w tb max A S) (hF : Fit max A) :
    Calls Tryd.prog 32 #[.pointer (some ⟨tb, 0, none⟩)] w fun e w' => e = .returned (.int .i64 ((12 + A.length : Nat) : Int)) ∧ w = w' := by
  obtain ⟨_, v, hb, hl, _⟩ := hD
  have hal := hF.len
  have c2 := cell_at hb 2
  simp at c2
  have E : Hid ((12 : Int) + (A.length : Int) = ((12 + A.length : Nat) : Int)) := by show _ = _; push_cast; rfl
  rcases hl with ⟨rfl, rfl⟩ | ⟨g, cap, cur, rfl, _⟩
  · clear hb
    go_enter Tryd.func32, Tryd.ntmps32
    go_wp2
    go_ret
    exact ⟨rfl, rfl⟩
  · clear hb
    go_enter Tryd.func32, Tryd.ntmps32
    go_wp2
    rw [E.out]
    go_ret
    exact ⟨rfl, rfl⟩
theorem tlen : TLenSaid TabP := fun tb max A S w hD hF => (len_read tb max A S w hD hF).mono fun _ _ ⟨he, hw⟩ => ⟨he, hw ▸ Below.refl _ _⟩
theorem tlenq : TLenQuiet TabP := fun tb max A S w hD hF => (len_read tb max A S w hD hF).mono fun _ _ ⟨he, hw⟩ => ⟨he, 0, hw.symm⟩
theorem tmax : TMaxSaid TabP := by
  intro tb max A S w hD _
  obtain ⟨_, v, hb, _, _⟩ := hD
  have c1 := cell_at hb 0
  simp at c1
  clear hb
  unfold tval
  go_enter Tryd.func24, Tryd.ntmps24
  go_wp2
  go_ret
  exact ⟨rfl, Below.refl _ _⟩
theorem getD_left (A : List (ByteArray × ByteArray)) (k : Nat) (h : k < 12) : (alwaysL ++ A).getD k fnone = alwaysL.getD k fnone := by
  simp only [List.getD]; rw [List.getElem?_append_left (by rw [always_len]; exact h)]
theorem getD_right (A : List (ByteArray × ByteArray)) (k : Nat) (h : 12 ≤ k) : (alwaysL ++ A).getD k fnone = A.getD (k - 12) fnone := by
  simp only [List.getD]; rw [List.getElem?_append_right (by rw [always_len]; exact h), always_len]
set_option maxHeartbeats 1000000 in
theorem at_any (tb : Nat) (max : Int) (A : List (ByteArray × ByteArray)) (S : Nat → Prop) (k : Nat) (w : World) (hD : TabP w tb max A S) (hF : Fit max A) (hk : k < 12 + A.length) :
    Calls Tryd.prog 33 #[.pointer (some ⟨tb, 0, none⟩), .int .i64 ((k : Int) + 1)] w fun e w' => e = .returned (.agg #[.string ((alwaysL ++ A).getD k fnone).1, .string ((alwaysL ++ A).getD k fnone).2]) ∧ Below w.heap.size w w' := by
  obtain ⟨hal, v, hb, hl, _⟩ := hD
  have hAl := hF.len
  have hpos := hal.pos
  by_cases h12 : k < 12
  · rw [getD_left A k h12]
    obtain ⟨c1, c2⟩ := hal k h12
    generalize alwaysL.getD k fnone = f at *
    obtain ⟨n, u⟩ := f
    have hk12 : (k : Int) < 12 := by omega
    clear hal hb hl
    go_enter Tryd.func33, Tryd.ntmps33
    go_wp2
    go_returns
    refine ⟨rfl, ?_⟩
    repeat (first | exact Below.refl _ _ | refine Below.setCell ?_ (by simp) _ | refine Below.alloc ?_ (by first | (simp; done) | (simp; omega)) _)
  · rw [getD_right A k (by omega)]
    have htb := lt_of_heap hb
    have d2 := cell_at hb 2
    simp at d2
    rcases hl with ⟨_, rfl⟩ | ⟨g, cap, cur, rfl, _, _, hg, q1, q2, _, q4⟩
    · simp at hk; omega
    · have hr := LRow.frow hg q1 q2 q4
      have hgl := lt_of_heap hg
      unfold maxLen at q2
      obtain ⟨j, rfl⟩ : ∃ j, k = 12 + j := ⟨k - 12, by omega⟩
      rw [show 12 + j - 12 = j by omega]
      have c1 := hr.hname j (by omega)
      have c2 := hr.hvalue j (by omega)
      rw [Nat.zero_add] at c1 c2
      have hj : j < A.length := by omega
      generalize A.getD j fnone = f at *
      obtain ⟨n, u⟩ := f
      have hk12 : ¬ ((((12 + j : Nat) : Int) + 1) ≤ 12) := by omega
      clear hal hb hr hg q4 hk hF
      go_enter Tryd.func33, Tryd.ntmps33
      go_wp2
      go_returns
      refine ⟨rfl, ?_⟩
      repeat (first | exact Below.refl _ _ | refine Below.setCell ?_ (by simp) _ | refine Below.alloc ?_ (by first | (simp; done) | (simp; omega)) _)
end Go.Proofs.YtkjfhgoddhigmacDoor
/-
  CONTRACTS of the methods Get and Find of the developers' table. No claim by itself.
-/
namespace Go.Proofs.YtkjfhgoddhigmacDoor
open Go.RowKit
set_option maxHeartbeats 1000000 in
theorem tget : TGetSaid TabP := by
  intro tb max A S i w hD hF
  unfold tval
  have hAl := hF.len
  have hL : (alwaysL ++ A).length = 12 + A.length := by rw [List.length_append, always_len]
  have hb1 : Below w.heap.size w (w.alloc (.cells #[.string ⟨#[]⟩, .string ⟨#[]⟩] 33)) := (Below.refl _ _).alloc (Nat.le_refl _) _
  have HD1 : Hid (TabP (w.alloc (.cells #[.string ⟨#[]⟩, .string ⟨#[]⟩] 33)) tb max A S) := tabKeeps.below hD hb1
  by_cases h1 : i < 1
  · have hn : ¬ (1 ≤ i ∧ i ≤ ((alwaysL ++ A).length : Int)) := by omega
    clear hD
    go_enter Tryd.func48, Tryd.ntmps48
    go_wp2
    go_returns
    refine ⟨_, rfl, Or.inr ⟨hn, rfl⟩, ?_⟩
    repeat (first | exact Below.refl _ _ | refine Below.setCell ?_ (by simp) _ | refine Below.alloc ?_ (by first | (simp; done) | (simp; omega)) _)
  · have h1' : decide (i < 1) = false := by simp; omega
    by_cases h2 : i ≤ ((12 + A.length : Nat) : Int)
    · obtain ⟨k, rfl⟩ : ∃ k : Nat, i = (k : Int) + 1 := ⟨(i - 1).toNat, by omega⟩
      have hk : k < 12 + A.length := by omega
      have h2' : decide (((12 + A.length : Nat) : Int) < (k : Int) + 1) = false := by simp; omega
      have hy : 1 ≤ (k : Int) + 1 ∧ (k : Int) + 1 ≤ ((alwaysL ++ A).length : Int) := by omega
      have ek : ((k : Int) + 1 - 1).toNat = k := by omega
      have HY : Hid (1 ≤ (k : Int) + 1 ∧ (k : Int) + 1 ≤ ((alwaysL ++ A).length : Int)) := hy
      have hat := at_any tb max A S k _ HD1.out hF hk
      have hlen := len_read tb max A S _ HD1.out hF
      generalize hx : ((12 + A.length : Nat) : Int) = x at *
      have HG : Hid (∀ v, v = .tuple #[.agg #[.string ((alwaysL ++ A).getD k fnone).1, .string ((alwaysL ++ A).getD k fnone).2], .nilIface] → GotAt (alwaysL ++ A) ((k : Int) + 1) v) := fun v hv => Or.inl ⟨HY.out.1, HY.out.2, by rw [hv, ek]; rfl⟩
      clear hD hx hy ek hk hL h2 h1
      generalize (alwaysL ++ A).getD k fnone = f at *
      obtain ⟨n, u⟩ := f
      go_enter Tryd.func48, Tryd.ntmps48
      go_wp2_with fail
      refine hlen.mono ?_
      rintro e w' ⟨rfl, rfl⟩
      go_wp2_with fail
      refine hat.mono ?_
      rintro e w2 ⟨rfl, hb2⟩
      have hs2 := hb2.size
      simp at hs2
      have f0 : w2.frozen? ⟨w.heap.size, 0, none⟩ = false := by rw [hb2.frozen (p := ⟨w.heap.size, 0, none⟩) (by simp)]; simp
      have f1 : w2.frozen? ⟨w.heap.size, 1, none⟩ = false := by rw [hb2.frozen (p := ⟨w.heap.size, 1, none⟩) (by simp)]; simp
      have k0 : w2.cell? ⟨w.heap.size, 0, none⟩ = some (.string ⟨#[]⟩) := by rw [hb2.cell (p := ⟨w.heap.size, 0, none⟩) (by simp)]; simp
      have k1 : w2.cell? ⟨w.heap.size, 1, none⟩ = some (.string ⟨#[]⟩) := by rw [hb2.cell (p := ⟨w.heap.size, 1, none⟩) (by simp)]; simp
      have r0 : (w2.setCell ⟨w.heap.size, 0, none⟩ (.string n)).cell? ⟨w.heap.size, 0, none⟩ = some (.string n) := World.cell?_setCell_same _ _ _ k0
      have r1 : ((w2.setCell ⟨w.heap.size, 0, none⟩ (.string n)).setCell ⟨w.heap.size, 1, none⟩ (.string u)).cell? ⟨w.heap.size, 1, none⟩ = some (.string u) := World.cell?_setCell_same _ _ _ (by rw [World.cell?_setCell_other _ ⟨w.heap.size, 0, none⟩ ⟨w.heap.size, 1, none⟩ _ (by simp)]; exact k1)
      clear hat hlen
      go_wp2
      (try simp only [Exit.inBlock, Exit.then])
      refine bodyPost_ret (by simp [results, Tryd.results48, go_sem, r0, r1]; try rfl) rfl ?_
      refine ⟨_, rfl, HG.out _ rfl, ?_⟩
      exact Below.setCell (Below.setCell (hb1.trans (hb2.mono (by simp))) (by simp) _) (by simp) _
    · have h2' : decide (((12 + A.length : Nat) : Int) < i) = true := by simp; omega
      have hn : ¬ (1 ≤ i ∧ i ≤ ((alwaysL ++ A).length : Int)) := by omega
      have hlen := len_read tb max A S _ HD1.out hF
      generalize hx : ((12 + A.length : Nat) : Int) = x at *
      clear hD hx hL h2 h1
      go_enter Tryd.func48, Tryd.ntmps48
      go_wp2_with fail
      refine hlen.mono ?_
      rintro e w' ⟨rfl, rfl⟩
      clear hlen
      go_wp2
      go_returns
      refine ⟨_, rfl, Or.inr ⟨hn, rfl⟩, ?_⟩
      repeat (first | exact Below.refl _ _ | refine Below.setCell ?_ (by simp) _ | refine Below.alloc ?_ (by first | (simp; done) | (simp; omega)) _)
end Go.Proofs.YtkjfhgoddhigmacDoor
