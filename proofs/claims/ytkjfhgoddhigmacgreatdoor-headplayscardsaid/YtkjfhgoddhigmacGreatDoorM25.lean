/-
  CONTRACTS of the methods All and Find of tollref1.T. No claim by itself.
-/
import Derived.Laws.AppendOwnNone
import Derived.Deep.QuietTactic
import Derived.BigQuiet
import Derived.Deep.RegionHeld3
import Derived.Laws.StructEq
import Derived.Test.YtkjfhgoddhigmacGreatDoorM24
namespace Go.Proofs.YtkjfhgoddhigmacGreatDoor
open Go.RowKit
theorem infoF : (Tryz.prog.info? 60).map (fun i => (i.zero, i.size, i.bytes)) = some (some (.agg #[.string ⟨#[]⟩, .string ⟨#[]⟩]), 2, 32) := by kernel_rfl
theorem rshrink_nil (tb o : Nat) (most : Int) (w : World) (h0 : w.cell? ⟨tb, o, none⟩ = some (.slice none 0 0)) (hf : w.frozen? ⟨tb, o, none⟩ = false) :
    Calls Tryz.prog 18 #[.pointer (some ⟨tb, o, none⟩), .int .i64 most] w fun e w' => e = .returned (.tuple #[]) ∧ w' = w.setCell ⟨tb, o, none⟩ (.slice none 0 0) := by
  go_enter Tryz.func18, Tryz.ntmps18
  go_wp2_with fail
  refine wp_loop_rounds 1 ?_
  rw [rounds_succ]
  go_wp2
  go_end0
  exact ⟨rfl, rfl⟩
theorem fcells_get {w : World} {g off len cap : Nat} {L : List (ByteArray × ByteArray)} (h : FRow w g off len cap L) : ∀ j u, (fcells L)[j]? = some u → w.cell? ((⟨g, off, none⟩ : Addr).add j) = some u := by
  intro j u hu
  have hj : j < L.length * 2 := by
    rw [← fcells_len]
    rcases Nat.lt_or_ge j (fcells L).length with h | h
    · exact h
    · rw [List.getElem?_eq_none h] at hu; cases hu
  have hplain : (⟨g, off, none⟩ : Addr).add j = ⟨g, off + j, none⟩ := by unfold Addr.add; split <;> simp_all
  rw [hplain]
  have ht : j / 2 < L.length := by omega
  have hc := fcells_at L (j / 2) ht
  have hl := h.hlen
  rcases Nat.mod_two_eq_zero_or_one j with hm | hm
  · have ej : j = 2 * (j / 2) := by omega
    rw [ej, hc.1] at hu
    have h1 := h.hname (j / 2) (by omega)
    rw [show off + j = off + j / 2 * 2 from by omega, h1]; exact hu
  · have ej : j = 2 * (j / 2) + 1 := by omega
    rw [ej, hc.2] at hu
    have h1 := h.hvalue (j / 2) (by omega)
    rw [show off + j = off + j / 2 * 2 + 1 from by omega, h1]; exact hu
theorem fcells_one (L : List (ByteArray × ByteArray)) : ∀ u ∈ fcells L, u.oneCell' = true := by
  intro u hu
  obtain ⟨f, _, hf⟩ := List.mem_flatMap.1 hu
  simp at hf
  rcases hf with rfl | rfl <;> rfl
/-- A row of fields that the call itself made. -/
theorem frow_of {w : World} {base g n cap : Nat} {L : List (ByteArray × ByteArray)} (hl : L.length = n) (h : w.ownsRow base 60 2 (.slice (some ⟨g, 0, none⟩) n cap) n (fcells L)) : FRow w g 0 n cap L := by
  have hcap : n ≤ cap ∧ cap ≤ maxLen := by
    obtain ⟨_, ⟨hv, _⟩ | ⟨g', cap', cur, hv, _, _, hc, hm, _⟩⟩ := h
    · cases hv
    · cases hv; exact ⟨hc, hm⟩
  refine ⟨hl, hcap.1, hcap.2, fun t ht => ?_, fun t ht => ?_⟩
  · have hc := h.cellAt (2 * t) (by omega)
    rw [show 0 + t * 2 = 2 * t from by omega, hc, (fcells_at L t (by omega)).1]
  · have hc := h.cellAt (2 * t + 1) (by omega)
    rw [show 0 + t * 2 + 1 = 2 * t + 1 from by omega, hc, (fcells_at L t (by omega)).2]
set_option maxHeartbeats 1000000 in
theorem rall_row (tb o g cap : Nat) (A : List (ByteArray × ByteArray)) (w : World) (h0 : w.cell? ⟨tb, o, none⟩ = some (.slice (some ⟨g, 0, none⟩) A.length cap))
    (hr : FRow w g 0 A.length cap A) (hn : A.length ≤ 1048576) :
    Calls Tryz.prog 37 #[.pointer (some ⟨tb, o, none⟩)] w fun e w' => ∃ gg cc, e = .returned (.slice (some ⟨gg, 0, none⟩) (12 + A.length) cc) ∧ FRow w' gg 0 (12 + A.length) cc (alwaysL ++ A) ∧ Below w.heap.size w w' := by
  obtain ⟨i0, hi, hz0, hz1, hz2⟩ := info_parts infoF
  have htb : tb < w.heap.size := by
    rcases Nat.lt_or_ge tb w.heap.size with h1 | h1
    · exact h1
    · simp [World.cell?, Array.getElem?_eq_none h1] at h0
  go_enter Tryz.func37, Tryz.ntmps37
  go_wp2_with fail
  refine (ralways_any w).mono ?_
  rintro e w1 ⟨g1, rfl, ho1, hb1⟩
  have s1 := hb1.size
  have h01 : w1.cell? ⟨tb, o, none⟩ = some (.slice (some ⟨g, 0, none⟩) A.length cap) := (hb1.cell (p := ⟨tb, o, none⟩) htb).trans h0
  have hr1 := hr.below hb1
  have HC : Hid (∀ j u, (fcells A)[j]? = some u → w1.cell? ((⟨g, 0, none⟩ : Addr).add j) = some u) := fcells_get hr1
  have HL : Hid ((fcells A).length = A.length * 2) := fcells_len A
  go_wp2_with (at_builtin; refine wpList_append_own _ rfl _ _ 38 rfl w.heap.size 60 i0 _ 2 32 Tryz.underlying38 hi hz0 hz1 hz2 rfl (by decide) _ _ _ rfl ho1 ⟨g, 0, none⟩ A.length cap (fcells A) rfl HL.out HC.out (fcells_one A) ?c3 ?c4 ?c5 ?_)
  case c3 => unfold maxLen; omega
  case c4 => omega
  case c5 => omega
  intro v' w3 hown' hgrow _
  have hb3 : Below w.heap.size w w3 := hb1.grown hgrow (by omega) (fun k hk => (ho1.lt k hk).1)
  have hsh : ∃ gg cc, v' = .slice (some ⟨gg, 0, none⟩) (12 + A.length) cc := by
    obtain ⟨_, ⟨_, h0⟩ | ⟨g', cap', cur, hv, _⟩⟩ := id hown'
    · omega
    · exact ⟨g', cap', hv⟩
  obtain ⟨gg, cc, rfl⟩ := hsh
  rw [← fcells_append] at hown'
  have hfr := frow_of (by rw [List.length_append]; rfl) hown'
  clear hown' hgrow
  go_wp2
  go_ret
  exact ⟨gg, cc, rfl, hfr, hb3⟩
set_option maxHeartbeats 1000000 in
theorem rall_nil (tb o : Nat) (w : World) (h0 : w.cell? ⟨tb, o, none⟩ = some (.slice none 0 0)) :
    Calls Tryz.prog 37 #[.pointer (some ⟨tb, o, none⟩)] w fun e w' => ∃ gg cc, e = .returned (.slice (some ⟨gg, 0, none⟩) 12 cc) ∧ FRow w' gg 0 12 cc alwaysL ∧ Below w.heap.size w w' := by
  obtain ⟨i0, hi, hz0, hz1, hz2⟩ := info_parts infoF
  have htb : tb < w.heap.size := by
    rcases Nat.lt_or_ge tb w.heap.size with h1 | h1
    · exact h1
    · simp [World.cell?, Array.getElem?_eq_none h1] at h0
  go_enter Tryz.func37, Tryz.ntmps37
  go_wp2_with fail
  refine (ralways_any w).mono ?_
  rintro e w1 ⟨g1, rfl, ho1, hb1⟩
  have h01 : w1.cell? ⟨tb, o, none⟩ = some (.slice none 0 0) := (hb1.cell (p := ⟨tb, o, none⟩) htb).trans h0
  have hfr := frow_of rfl ho1
  go_wp2_with (at_builtin; refine wpList_append_own_none rfl _ _ 38 rfl w.heap.size 60 i0 2 Tryz.underlying38 hi _ _ _ rfl ho1 rfl ?_)
  go_wp2
  go_ret
  exact ⟨g1, 12, rfl, hfr, hb1⟩
end Go.Proofs.YtkjfhgoddhigmacGreatDoor
/-
  CONTRACTS of the method Find of tollref1.T. No claim by itself.
-/
namespace Go.Proofs.YtkjfhgoddhigmacGreatDoor
open Go.RowKit
set_option maxHeartbeats 2000000 in
theorem find_loop (tb o : Nat) (L : List (ByteArray × ByteArray)) (n v : ByteArray) (w : World) (N : Nat) (hN : N ≤ 1048588)
    (hall : ∀ wx : World, Below w.heap.size w wx → Calls Tryz.prog 37 #[.pointer (some ⟨tb, o, none⟩)] wx fun e w' => ∃ gg cc, e = .returned (.slice (some ⟨gg, 0, none⟩) N cc) ∧ FRow w' gg 0 N cc L ∧ Below wx.heap.size wx w') :
    Calls Tryz.prog 21 #[.pointer (some ⟨tb, o, none⟩), .agg #[.string n, .string v]] w fun e w' => e = .returned (.tuple #[.int .i64 (fnd (isF n v) L 0), .int .i64 (fnd (isN n) L 0)]) ∧ Below w.heap.size w w' := by
  have heq := run_eqlF
  have hgd := eqGuardF
  have HALL := hide hall
  clear hall
  go_enter Tryz.func21, Tryz.ntmps21
  go_wp2_with fail
  refine (HALL.out _ ((Below.refl _ _).alloc (Nat.le_refl _) _)).mono ?_
  rintro e w1 ⟨gg, cc, rfl, hr, hb1⟩
  have hl := hr.hlen
  have hcap := hr.hcap
  have hmax := hr.hmax
  unfold maxLen at hmax
  have s1 := hb1.size
  simp at s1
  have hB : Below w.heap.size w w1 := ((Below.refl _ _).alloc (Nat.le_refl _) _).trans (hb1.mono (by simp))
  have k1 : w1.cell? ⟨w.heap.size, 0, none⟩ = some (.string n) := by
    rw [hb1.cell (p := ⟨w.heap.size, 0, none⟩) (by simp)]; simp
  have k2 : w1.cell? ⟨w.heap.size, 1, none⟩ = some (.string v) := by
    rw [hb1.cell (p := ⟨w.heap.size, 1, none⟩) (by simp)]; simp
  have HR : Hid (FRow w1 gg 0 N cc L) := hr
  have HLn : Hid (L.length = N) := hl
  clear HALL hl hr
  go_wp2_with fail
  go_loopw [7, 8, 9] (fun x y i wr => ∃ k : Nat, i = .int .i64 ((k : Int) - 1) ∧ k ≤ N ∧ x = .int .i64 (fnd (isF n v) (L.drop k) k) ∧ y = .int .i64 (fnd (isN n) (L.drop k) k) ∧ ∃ m, wr = w1.drewN m) (fun _ _ i _ => (intOf i + 1).toNat)
  case atStart => exact ⟨N, rfl, Nat.le_refl _, by rw [List.drop_of_length_le (by rw [HLn.out]; exact Nat.le_refl _)]; rfl, by rw [List.drop_of_length_le (by rw [HLn.out]; exact Nat.le_refl _)]; rfl, 0, rfl⟩
  case round =>
    obtain ⟨k, rfl, hk, rfl, rfl, m, rfl⟩ := hrel
    by_cases hk0 : k = 0
    · subst hk0
      go_wp2
      go_ret2
      exact ⟨rfl, drewN_below hB _⟩
    · obtain ⟨j, rfl⟩ : ∃ j, k = j + 1 := ⟨k - 1, by omega⟩
      have ej : (((j + 1 : Nat) : Int) - 1) = (j : Int) := by omega
      rw [ej]
      have HW := fnd_step (isF n v) L j (by rw [HLn.out]; omega)
      have HM := fnd_step (isN n) L j (by rw [HLn.out]; omega)
      have b1 := fnd_le (isF n v) (L.drop (j + 1)) (j + 1)
      have b2 := fnd_le (isN n) (L.drop (j + 1)) (j + 1)
      rw [List.length_drop, HLn.out] at b1 b2
      have q1 := HR.out.hname j (by omega)
      have q2 := HR.out.hvalue j (by omega)
      rw [Nat.zero_add] at q1 q2
      generalize L.getD j fnone = f at *
      obtain ⟨fn, fv⟩ := f
      generalize fnd (isF n v) (L.drop (j + 1)) (j + 1) = x at *
      generalize fnd (isN n) (L.drop (j + 1)) (j + 1) = y at *
      have HW2 := hide HW
      have HM2 := hide HM
      clear HW HM
      have hj0 : (0 : Int) ≤ (j : Int) := Int.natCast_nonneg _
      have hj1 : (j : Int) < (N : Int) := by omega
      have hnc : (fn.toList == n.toList) = true ∨ (fn.toList == n.toList) = false := by cases (fn.toList == n.toList) <;> simp
      have hvc : (fv.toList == v.toList) = true ∨ (fv.toList == v.toList) = false := by cases (fv.toList == v.toList) <;> simp
      rcases hnc with hn | hn <;> rcases hvc with hv | hv
      all_goals
        have e1 := HW2.out
        have e2 := HM2.out
        simp [isF, isN, hn, hv] at e1 e2
        have E1 := hide e1
        have E2 := hide e2
        clear e1 e2 HW2 HM2
        go_wp2_with fail
        go_quiet (fail)
        go_wp2_with fail
        go_quiet (fail)
        go_wp2
        go_roundw
        case rel => exact ⟨j, rfl, by omega, by (rw [E1.out]; try go_num), by (rw [E2.out]; try go_num), _, rfl⟩
        case measure => simp [intOf]
end Go.Proofs.YtkjfhgoddhigmacGreatDoor
/-
  CONTRACT of the method Add of tollref1.T. No claim by itself.
-/
namespace Go.Proofs.YtkjfhgoddhigmacGreatDoor
open Go.RowKit
/-- Behind a call that turns the block tb alone: all other old blocks are as they were. -/
structure But (tb o : Nat) (w w' : World) : Prop where
  os : w'.os = w.os
  tape : w'.tape = w.tape
  output : w'.output = w.output
  size : w.heap.size ≤ w'.heap.size
  block : ∀ k, k < w.heap.size → k ≠ tb → w'.heap[k]? = w.heap[k]?
  cells : ∀ i, i ≠ o → tb < w.heap.size → w'.cell? ⟨tb, i, none⟩ = w.cell? ⟨tb, i, none⟩
  froz : ∀ i, tb < w.heap.size → w'.frozen? ⟨tb, i, none⟩ = w.frozen? ⟨tb, i, none⟩
theorem But.of_below {tb o : Nat} {w w' : World} (h : Below w.heap.size w w') : But tb o w w' := ⟨h.os, h.tape, h.output, h.size, fun k hk _ => h.block k hk, fun i _ hl => h.cell (p := ⟨tb, i, none⟩) hl, fun i hl => h.frozen (p := ⟨tb, i, none⟩) hl⟩
theorem But.trans {tb o : Nat} {a b c : World} (h : But tb o a b) (k : But tb o b c) : But tb o a c :=
  ⟨k.os.trans h.os, k.tape.trans h.tape, k.output.trans h.output, Nat.le_trans h.size k.size, fun i hi hn => (k.block i (Nat.lt_of_lt_of_le hi h.size) hn).trans (h.block i hi hn), fun i hi hl => (k.cells i hi (Nat.lt_of_lt_of_le hl h.size)).trans (h.cells i hi hl), fun i hl => (k.froz i (Nat.lt_of_lt_of_le hl h.size)).trans (h.froz i hl)⟩
theorem But.setCell {tb o : Nat} {w w' : World} (h : But tb o w w') (u : Value) : But tb o w (w'.setCell ⟨tb, o, none⟩ u) := by
  have hs : (w'.setCell ⟨tb, o, none⟩ u).heap.size = w'.heap.size := by simp
  exact ⟨h.os, h.tape, h.output, by rw [hs]; exact h.size, fun k hk hn => (Below.heap_setCell w' ⟨tb, o, none⟩ u k hn).trans (h.block k hk hn), fun i hi hl => (World.cell?_setCell_other w' ⟨tb, o, none⟩ ⟨tb, i, none⟩ u (by intro h2; cases h2; exact hi rfl)).trans (h.cells i hi hl), fun i hl => (World.frozen?_setCell w' _ _ _).trans (h.froz i hl)⟩
theorem But.cell {tb o : Nat} {w w' : World} (h : But tb o w w') {p : Addr} (hp : p.block < w.heap.size) (hn : p.block ≠ tb) : w'.cell? p = w.cell? p := World.cell?_of_block (w := w) (h.block p.block hp hn)
/-- A table as it lies: its list, its greatest size. -/
structure TabR (w : World) (tb o : Nat) (max : Int) (A : List (ByteArray × ByteArray)) (G : Nat → Prop) : Prop where
  hmax : w.cell? ⟨tb, o + 1, none⟩ = some (.int .i64 max)
  hfz : w.frozen? ⟨tb, o, none⟩ = false ∧ w.frozen? ⟨tb, o + 1, none⟩ = false
  hadd : ∃ v, w.cell? ⟨tb, o, none⟩ = some v ∧ ((v = .slice none 0 0 ∧ A = []) ∨ ∃ g cap, v = .slice (some ⟨g, 0, none⟩) A.length cap ∧ g ≠ tb ∧ (A ≠ [] → G g) ∧ FRow w g 0 A.length cap A)
theorem blk_lt {w : World} {a : Addr} {v : Value} (h : w.cell? a = some v) : a.block < w.heap.size := by
  rcases Nat.lt_or_ge a.block w.heap.size with h1 | h1
  · exact h1
  · simp [World.cell?, Array.getElem?_eq_none h1] at h
theorem TabR.below {w w' : World} {tb o : Nat} {max : Int} {A : List (ByteArray × ByteArray)} {G : Nat → Prop} (h : TabR w tb o max A G) (hb : Below w.heap.size w w') : TabR w' tb o max A G := by
  obtain ⟨h1, h2, v, h3, h4⟩ := h
  have hlt : tb < w.heap.size := blk_lt h1
  refine ⟨(hb.cell (p := ⟨tb, o + 1, none⟩) hlt).trans h1, ⟨(hb.frozen (p := ⟨tb, o, none⟩) hlt).trans h2.1, (hb.frozen (p := ⟨tb, o + 1, none⟩) hlt).trans h2.2⟩, v, (hb.cell (p := ⟨tb, o, none⟩) hlt).trans h3, ?_⟩
  rcases h4 with h4 | ⟨g, cap, hv, hg, hG, hr⟩
  · exact Or.inl h4
  · exact Or.inr ⟨g, cap, hv, hg, hG, hr.below hb⟩
theorem FRow.setCell {w : World} {g off len cap tb o : Nat} {L : List (ByteArray × ByteArray)} (h : FRow w g off len cap L) (hg : g ≠ tb) (u : Value) : FRow (w.setCell ⟨tb, o, none⟩ u) g off len cap L := by
  have e : ∀ a, (w.setCell ⟨tb, o, none⟩ u).cell? ⟨g, a, none⟩ = w.cell? ⟨g, a, none⟩ := fun a => World.cell?_setCell_far w ⟨tb, o, none⟩ ⟨g, a, none⟩ u (fun h => hg h.symm)
  exact ⟨h.hlen, h.hcap, h.hmax, fun t ht => (e _).trans (h.hname t ht), fun t ht => (e _).trans (h.hvalue t ht)⟩
/-- A table whose list is set. -/
theorem TabR.set {w : World} {tb o : Nat} {max : Int} {A B : List (ByteArray × ByteArray)} {G G' : Nat → Prop} (h : TabR w tb o max A G) (v : Value) (hv : (v = .slice none 0 0 ∧ B = []) ∨ ∃ g cap, v = .slice (some ⟨g, 0, none⟩) B.length cap ∧ g ≠ tb ∧ (B ≠ [] → G' g) ∧ FRow w g 0 B.length cap B) : TabR (w.setCell ⟨tb, o, none⟩ v) tb o max B G' := by
  obtain ⟨h1, h2, v0, h3, _⟩ := h
  refine ⟨?_, ⟨by rw [World.frozen?_setCell]; exact h2.1, by rw [World.frozen?_setCell]; exact h2.2⟩, v, World.cell?_setCell_same w _ _ h3, ?_⟩
  · rw [World.cell?_setCell_other w ⟨tb, o, none⟩ ⟨tb, o + 1, none⟩ v (by simp)]; exact h1
  · rcases hv with hv | ⟨g, cap, hv, hg, hG, hr⟩
    · exact Or.inl hv
    · exact Or.inr ⟨g, cap, hv, hg, hG, hr.setCell hg _⟩
set_option maxHeartbeats 2000000 in
theorem radd_over (tb o : Nat) (max : Int) (A : List (ByteArray × ByteArray)) (n v : ByteArray) (w : World) {G : Nat → Prop} (hT : TabR w tb o max A G) (hnv : n.size + v.size ≤ 1152921504606846976) (hgt : max < (fsize (n, v) : Int)) :
    Calls Tryz.prog 23 #[.pointer (some ⟨tb, o, none⟩), .agg #[.string n, .string v]] w fun e w' => e = .returned (.bool false) ∧ But tb o w w' ∧ TabR w' tb o max [] (fun q => w.heap.size ≤ q) := by
  obtain ⟨hmax, hfz, v0, h0, hown⟩ := hT
  have htb : tb < w.heap.size := by
    rcases Nat.lt_or_ge tb w.heap.size with h1 | h1
    · exact h1
    · simp [World.cell?, Array.getElem?_eq_none h1] at h0
  have k1 : (w.alloc (.cells #[.string n, .string v] 60)).cell? ⟨tb, o + 1, none⟩ = some (.int .i64 max) := by rw [World.cell?_alloc_lt _ _ ⟨tb, o + 1, none⟩ htb]; exact hmax
  have k0 : (w.alloc (.cells #[.string n, .string v] 60)).cell? ⟨tb, o, none⟩ = some v0 := by rw [World.cell?_alloc_lt _ _ ⟨tb, o, none⟩ htb]; exact h0
  go_enter Tryz.func23, Tryz.ntmps23
  go_wp2_with fail
  go_region_held3 (fun w' => w'.cell? ⟨w.heap.size, 0, none⟩ = some (.string n) ∧ w'.cell? ⟨w.heap.size, 1, none⟩ = some (.string v) ∧ w'.cell? ⟨tb, o + 1, none⟩ = some (.int .i64 max))
    (first | go_keep | (simp [World.cell?_alloc_lt, htb, hmax]))
    ((go_at_call 30; refine (rsize_any n v _ hnv).mono ?_; rintro e w' ⟨rfl, rfl⟩))
  generalize fsize (n, v) = y at *
  go_wp2
  go_ret
  have hT0 : TabR w tb o max A G := ⟨hmax, hfz, v0, h0, hown⟩
  have hT1 := hT0.set (B := []) (G' := fun q => w.heap.size ≤ q) (.slice none 0 0) (Or.inl ⟨rfl, rfl⟩)
  have hs0 : (w.setCell ⟨tb, o, none⟩ (.slice none 0 0)).heap.size = w.heap.size := by simp
  have hb2 : Below (w.setCell ⟨tb, o, none⟩ (.slice none 0 0)).heap.size (w.setCell ⟨tb, o, none⟩ (.slice none 0 0)) (((w.setCell ⟨tb, o, none⟩ (.slice none 0 0)).alloc (.cells #[.string n, .string v] 60)).alloc (.cells #[.string n, .string v] 60)).drew :=
    (((Below.refl _ _).alloc (Nat.le_refl _) _).alloc (by simp) _).drew
  exact ⟨rfl, ((But.of_below (Below.refl _ _)).setCell _).trans (But.of_below hb2), hT1.below hb2⟩
/-- A table whose greatest size is set. -/
theorem TabR.setMax {w : World} {tb o : Nat} {max : Int} {A : List (ByteArray × ByteArray)} {G : Nat → Prop} (h : TabR w tb o max A G) (m : Int) : TabR (w.setCell ⟨tb, o + 1, none⟩ (.int .i64 m)) tb o m A G := by
  obtain ⟨h1, h2, v0, h3, h4⟩ := h
  refine ⟨World.cell?_setCell_same w _ _ h1, ⟨by rw [World.frozen?_setCell]; exact h2.1, by rw [World.frozen?_setCell]; exact h2.2⟩, v0, ?_, ?_⟩
  · rw [World.cell?_setCell_other w ⟨tb, o + 1, none⟩ ⟨tb, o, none⟩ _ (by simp)]; exact h3
  · rcases h4 with h4 | ⟨g, cap, hv, hg, hG, hr⟩
    · exact Or.inl h4
    · exact Or.inr ⟨g, cap, hv, hg, hG, hr.setCell hg _⟩
end Go.Proofs.YtkjfhgoddhigmacGreatDoor
