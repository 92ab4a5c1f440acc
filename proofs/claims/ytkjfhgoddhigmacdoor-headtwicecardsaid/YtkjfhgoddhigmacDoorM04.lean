/-
  CONTRACT of the method Find of the developers' table. No claim by itself.
-/
import Derived.Deep.RegionLaw
import Derived.Lib.SliceRun
import Derived.Test.YtkjfhgoddhigmacDoorM03
namespace Go.Proofs.YtkjfhgoddhigmacDoor
open Go.RowKit
/-- What was found of a name so far: a number, or none yet. -/
def NSo (n : ByteArray) (L : List (ByteArray × ByteArray)) (k m : Nat) : Prop := (m = 0 ∧ fnd (isN n) L 0 = fnd (isN n) (L.drop k) k) ∨ (0 < m ∧ fnd (isN n) L 0 = m)
theorem NSo.hit {n : ByteArray} {L : List (ByteArray × ByteArray)} {k m : Nat} (h : NSo n L k 0) (e : fnd (isN n) (L.drop k) k = m) : fnd (isN n) L 0 = m := by
  rcases h with ⟨_, h⟩ | ⟨h, _⟩
  · exact h.trans e
  · omega
theorem NSo.got {n : ByteArray} {L : List (ByteArray × ByteArray)} {k m : Nat} (h : NSo n L k m) (hm : 0 < m) : fnd (isN n) L 0 = m := by
  rcases h with ⟨h, _⟩ | ⟨_, h⟩
  · omega
  · exact h
set_option maxRecDepth 100000 in
set_option maxHeartbeats 4000000 in
theorem tfind : TFindSaid TabP := by
  intro tb max A S n v w hD hF
  unfold tval
  have heq := run_eqlF
  have hgd := eqGuardF
  have hAl := hF.len
  have HL : Hid ((alwaysL ++ A).length = 12 + A.length) := by show _ = _; rw [List.length_append, always_len]
  have hb1 : Below w.heap.size w (w.alloc (.cells #[.string n, .string v] 33)) := (Below.refl _ _).alloc (Nat.le_refl _) _
  have HD : Hid (∀ wx, Below w.heap.size w wx → TabP wx tb max A S) := fun wx hb => tabKeeps.below hD hb
  have HF := hide hF
  clear hD hF
  go_enter Tryd.func25, Tryd.ntmps25
  go_wp2_with fail
  obtain ⟨w1, hw1⟩ : ∃ w1, w1 = w.alloc (.cells #[.string n, .string v] 33) := ⟨_, rfl⟩
  have hs1 : w1.heap.size = w.heap.size + 1 := by rw [hw1]; simp
  have c0 : w1.cell? ⟨w.heap.size, 0, none⟩ = some (.string n) := by rw [hw1]; simp
  have c1 : w1.cell? ⟨w.heap.size, 1, none⟩ = some (.string v) := by rw [hw1]; simp
  rw [← hw1] at hb1 ⊢
  clear hw1
  go_loopw [5, 6] (fun x i wr => ∃ k m : Nat, i = .int .i64 ((k : Int) + 1) ∧ k ≤ 12 + A.length ∧ x = .int .i64 (m : Int) ∧ m ≤ 12 + A.length ∧ Hid (fnd (isF n v) (alwaysL ++ A) 0 = fnd (isF n v) ((alwaysL ++ A).drop k) k) ∧ Hid (NSo n (alwaysL ++ A) k m) ∧ Below w1.heap.size w1 wr) (fun _ i _ => (12 + A.length + 1) - (intOf i).toNat)
  case atStart => exact ⟨0, 0, rfl, by omega, rfl, by omega, rfl, Or.inl ⟨rfl, rfl⟩, Below.refl _ _⟩
  case round =>
    obtain ⟨k, m, rfl, hk, rfl, hm, HW, HN, hbel⟩ := hrel
    have hsz := hbel.size
    have hBw : Below w.heap.size w wr := hb1.trans (hbel.mono (by omega))
    have hlen := len_read tb max A S wr (HD.out wr hBw) HF.out
    by_cases hlt : k < 12 + A.length
    · have hat := at_any tb max A S k wr (HD.out wr hBw) HF.out hlt
      have FW := fnd_step (isF n v) (alwaysL ++ A) k (by rw [HL.out]; omega)
      have FN := fnd_step (isN n) (alwaysL ++ A) k (by rw [HL.out]; omega)
      have d1 : decide ((k : Int) + 1 ≤ ((12 + A.length : Nat) : Int)) = true := by simp; omega
      generalize hx : ((12 + A.length : Nat) : Int) = x at *
      clear hx
      generalize (alwaysL ++ A).getD k fnone = f at *
      obtain ⟨fn, fv⟩ := f
      have HFW := hide FW
      have HFN := hide FN
      clear FW FN
      go_wp2_with fail
      refine hlen.mono ?_
      rintro e w' ⟨rfl, rfl⟩
      go_wp2_with fail
      refine hat.mono ?_
      rintro e w2 ⟨rfl, hb2⟩
      have hb3 : Below w1.heap.size w1 w2 := hbel.trans (hb2.mono hsz)
      have hs2 := hb2.size
      have k0 : w2.cell? ⟨w.heap.size, 0, none⟩ = some (.string n) := (hb3.cell (p := ⟨w.heap.size, 0, none⟩) (by show w.heap.size < w1.heap.size; omega)).trans c0
      have k1 : w2.cell? ⟨w.heap.size, 1, none⟩ = some (.string v) := (hb3.cell (p := ⟨w.heap.size, 1, none⟩) (by show w.heap.size < w1.heap.size; omega)).trans c1
      have hlw : w.heap.size < w2.heap.size := by omega
      clear hlen hat c0 c1 hb2
      have hmc : m = 0 ∨ 0 < m := by omega
      have hnc : (fn.toList == n.toList) = true ∨ (fn.toList == n.toList) = false := by cases (fn.toList == n.toList) <;> simp
      have hvc : (fv.toList == v.toList) = true ∨ (fv.toList == v.toList) = false := by cases (fv.toList == v.toList) <;> simp
      rcases hmc with rfl | hm0 <;> rcases hnc with hn | hn <;> rcases hvc with hv | hv
      all_goals
        have e1 := HFW.out
        have e2 := HFN.out
        simp [isF, isN, hn, hv] at e1 e2
        have E1 := hide (HW.out.trans e1)
        have E2 := hide e2
        clear e1 e2 HFW HFN
      · have E3 := hide (HN.out.hit E2.out)
        go_wp2
        go_ret2
        refine ⟨?_, hb1.trans ((hb3.mono (by omega)).alloc (by omega) _)⟩
        rw [E1.out, E3.out]; push_cast; rfl
      · have E3 := hide (HN.out.hit E2.out)
        go_wp2
        go_roundw
        case rel => exact ⟨k + 1, k + 1, by go_num, by omega, by go_num, by omega, E1.out, Or.inr ⟨by omega, E3.out⟩, hb3.alloc (by omega) _⟩
        case measure => simp [intOf]; omega
      · have E3 := hide (HN.out.hit E2.out)
        go_wp2
        go_roundw
        case rel => exact ⟨k + 1, 0, by go_num, by omega, by go_num, by omega, E1.out, Or.inl ⟨rfl, E3.out⟩, hb3.alloc (by omega) _⟩
        case measure => simp [intOf]; omega
      · have E3 := hide (HN.out.hit E2.out)
        go_wp2
        go_roundw
        case rel => exact ⟨k + 1, 0, by go_num, by omega, by go_num, by omega, E1.out, Or.inl ⟨rfl, E3.out⟩, hb3.alloc (by omega) _⟩
        case measure => simp [intOf]; omega
      · have E3 := hide (HN.out.got hm0)
        have hnz : ¬ ((m : Int) = 0) := by omega
        go_wp2
        go_ret2
        refine ⟨?_, hb1.trans ((hb3.mono (by omega)).alloc (by omega) _)⟩
        rw [E1.out, E3.out]; push_cast; rfl
      all_goals
        have E3 := hide (HN.out.got hm0)
        have hnz : ¬ ((m : Int) = 0) := by omega
        go_wp2
        go_roundw
        case rel => exact ⟨k + 1, m, by go_num, by omega, rfl, by omega, E1.out, Or.inr ⟨hm0, E3.out⟩, hb3.alloc (by omega) _⟩
        case measure => simp [intOf]; omega
    · have hd : decide ((k : Int) + 1 ≤ ((12 + A.length : Nat) : Int)) = false := by simp; omega
      have hk2 : k = 12 + A.length := by omega
      have ed : (alwaysL ++ A).drop k = [] := List.drop_of_length_le (by rw [HL.out]; omega)
      have E1 : Hid (fnd (isF n v) (alwaysL ++ A) 0 = 0) := by show _ = _; rw [HW.out, ed]; rfl
      have E2 : Hid (fnd (isN n) (alwaysL ++ A) 0 = m) := by
        rcases Nat.eq_zero_or_pos m with h | h
        · subst h; exact HN.out.hit (by rw [ed]; rfl)
        · exact HN.out.got h
      generalize hx : ((12 + A.length : Nat) : Int) = x at *
      clear hx ed hlt hk2 hk hm
      go_wp2_with fail
      refine hlen.mono ?_
      rintro e w' ⟨rfl, rfl⟩
      clear hlen
      go_wp2
      go_ret2
      refine ⟨?_, hBw⟩
      rw [E1.out, E2.out]; rfl
end Go.Proofs.YtkjfhgoddhigmacDoor
/-
  CONTRACT of the Go function slices.Delete at fields, where the last ones go. No claim by itself.
-/
namespace Go.Proofs.YtkjfhgoddhigmacDoor
open Go.RowKit
theorem zeroF : ∀ w, (zeroValue 33).run Tryd.prog w = .ok (.agg #[.string ⟨#[]⟩, .string ⟨#[]⟩]) w := by
  intro w
  obtain ⟨i0, hi, hz0, _, _⟩ := info_parts (show (Tryd.prog.info? 33).map (fun i => (i.zero, i.size, i.bytes)) = some (some (.agg #[.string ⟨#[]⟩, .string ⟨#[]⟩]), 2, 32) by kernel_rfl)
  simp [zeroValue, typeInfo, hi, hz0]
/-- 'clear(s)': its cells hold zero values. -/
theorem run_clear_rowF (w : World) (ty : TypeId) (g o n c : Nat) (cur : Array Value) (t : TypeId) (hg : w.heap[g]? = some (.cells cur t (0, 0))) (hn : 0 < n) (hfit : o + n * 2 ≤ cur.size) :
    ∃ zs : List Value, zs.length = n * 2 ∧ (Builtin.clear_ #[34] ty #[.slice (some ⟨g, o, none⟩) n c]).run Tryd.prog w = .ok (.tuple #[]) (w.setRow g (cur.toList.take o ++ zs ++ cur.toList.drop (o + zs.length)).toArray) := by
  obtain ⟨zs, hzs⟩ : ∃ zs, zs = (Builtin.zeroCells (Value.agg #[.string ⟨#[]⟩, .string ⟨#[]⟩]).cells n).toList := ⟨_, rfl⟩
  have hl : zs.length = n * 2 := by rw [hzs]; simp [Builtin.zeroCells, Value.cells]
  have h1 : ∀ v ∈ zs, v.oneCell' = true := by
    intro v hv
    rw [hzs] at hv
    simp [Builtin.zeroCells, Value.cells] at hv
    obtain ⟨i, _, rfl⟩ := hv
    rcases Nat.mod_two_eq_zero_or_one i with h | h <;> simp [h] <;> rfl
  have hst := run_storeCells_at Tryd.prog g o t zs 0 cur w hg (by omega) h1
  refine ⟨zs, hl, ?_⟩
  obtain ⟨m, rfl⟩ : ∃ m, n = m + 1 := ⟨n - 1, by omega⟩
  simp only [Nat.add_zero] at hst
  simp [Builtin.clear_, run_underlying Tryd.underlying34, ← hzs, hst]
theorem off_setRow {S : Nat → Prop} {w w' : World} (h : Off S w w') (g : Nat) (hg : S g) (cs : Array Value) : Off S w (w'.setRow g cs) :=
  ⟨h.os, h.tape, h.output, by simpa [World.setRow] using h.size, fun k hk hs => (setRow_other w' g k cs (fun e => hs (e ▸ hg))).trans (h.block k hk hs)⟩
set_option maxHeartbeats 4000000 in
set_option maxRecDepth 100000 in
theorem del_row (g cap N n : Nat) (cur : Array Value) (w : World) (hg : w.heap[g]? = some (.cells cur 33 (0, 0))) (hn : n ≤ N) (hN : N ≤ cap) (hcap : cap ≤ maxLen) (hsz : cur.size = cap * 2) :
    Calls Tryd.prog 39 #[.slice (some ⟨g, 0, none⟩) N cap, .int .i64 n, .int .i64 N] w fun e w' => e = .returned (.slice (some ⟨g, 0, none⟩) n cap) ∧ Off (fun k => k = g) w w' ∧ w'.heap.size = w.heap.size ∧
      ∃ cur' : Array Value, w'.heap[g]? = some (.cells cur' 33 (0, 0)) ∧ cur'.size = cap * 2 ∧ cur'.toList.take (n * 2) = cur.toList.take (n * 2) := by
  have hcp := hcap
  unfold maxLen at hcp
  by_cases heq : n = N
  · subst heq
    have h0 : Calls Tryd.prog 39 #[.slice (some ⟨g, 0, none⟩) n cap, .int .i64 n, .int .i64 n] w fun e w' => e = .returned (.slice (some ⟨g, 0, none⟩) n cap) ∧ w = w' := by
      clear hg
      go_enter Tryd.func39, Tryd.ntmps39
      go_wp2
      all_goals (go_ret; exact ⟨rfl, rfl⟩)
    refine h0.mono ?_
    rintro e w' ⟨rfl, rfl⟩
    exact ⟨rfl, Off.of_below (Below.refl _ _), rfl, cur, hg, hsz, rfl⟩
  · obtain ⟨i0, hi, hz0, hz1, hz2⟩ := info_parts (show (Tryd.prog.info? 33).map (fun i => (i.zero, i.size, i.bytes)) = some (some (.agg #[.string ⟨#[]⟩, .string ⟨#[]⟩]), 2, 32) by kernel_rfl)
    have hlt : n < N := by omega
    have hgd : w.drew.heap[g]? = some (.cells cur 33 (0, 0)) := hg
    obtain ⟨zs, hzl, hcl⟩ : ∃ zs : List Value, zs.length = (N - n) * 2 ∧ ∀ ty, (Builtin.clear_ #[34] ty #[.slice (some ⟨g, n * 2, none⟩) (N - n) (cap - n)]).run Tryd.prog w.drew = .ok (.tuple #[]) (w.drew.setRow g (cur.toList.take (n * 2) ++ zs ++ cur.toList.drop (n * 2 + zs.length)).toArray) := by
      obtain ⟨zs, h1, h2⟩ := run_clear_rowF w.drew 0 g (n * 2) (N - n) (cap - n) cur _ hgd (by omega) (by omega)
      exact ⟨zs, h1, fun ty => h2⟩
    obtain ⟨A, hA⟩ : ∃ A : Addr, (if cap = N then some (⟨g, 0, none⟩ : Addr) else some ⟨g, N * 2, none⟩) = some A := by
      by_cases h : cap = N
      · exact ⟨_, by rw [if_pos h]⟩
      · exact ⟨_, by rw [if_neg h]⟩
    have h1 : n ≤ cap := by omega
    have hcl2 : ∀ ty, (Builtin.clear_ #[34] ty #[.slice (some ⟨g, n * 2, none⟩) (N - n) (cap - n)]).run Tryd.prog (w.drew.setCells g (n * 2) []) = .ok (.tuple #[]) (w.drew.setRow g (cur.toList.take (n * 2) ++ zs ++ cur.toList.drop (n * 2 + zs.length)).toArray) := hcl
    clear hcl
    have HG := hide hg
    have hcn : ¬ (cap = n) := by omega
    clear hg hgd
    go_enter Tryd.func39, Tryd.ntmps39
    go_wp2_with fail
    go_region_law (refine step_append_room rfl (.tmp 22) (.tmp 25) 34 rfl 33 i0 2 Tryd.underlying34 hi hz1 g 0 n cap (by simp [Act.eval, Act.put]) A 0 (cap - N) [] (by simp [Act.eval, Act.put]) rfl (fun j u h => by simp at h) (fun u h => by simp at h) (by omega) (fun j h => by simp at h) ?_)
    go_simp
    go_wp2
    go_ret
    refine ⟨rfl, off_setRow (S := fun k => k = g) (Off.of_below ((Below.refl _ _).drew)) g rfl _, by simp [World.setRow], _, setRow_heap w.drew g cur _ 33 (0, 0) HG.out, ?_, ?_⟩
    · simp only [List.size_toArray, List.length_append, List.length_take, List.length_drop, Array.length_toList, hzl, hsz]; omega
    · show List.take (n * 2) (List.take (n * 2) cur.toList ++ _) = _
      rw [List.take_append_of_le_length (by rw [List.length_take, Array.length_toList]; omega), List.take_take, Nat.min_self]
theorem del_nil (w : World) : Calls Tryd.prog 39 #[.slice none 0 0, .int .i64 0, .int .i64 0] w fun e w' => e = .returned (.slice none 0 0) ∧ w = w' := by
  go_enter Tryd.func39, Tryd.ntmps39
  go_wp2
  go_ret
  exact ⟨rfl, rfl⟩
end Go.Proofs.YtkjfhgoddhigmacDoor
