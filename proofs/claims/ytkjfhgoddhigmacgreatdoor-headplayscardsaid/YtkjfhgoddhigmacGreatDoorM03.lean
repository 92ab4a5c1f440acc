/-
  CONTRACT of the method Find of the developers' table. No claim by itself.
-/
import Derived.Deep.RegionLaw
import Derived.Lib.SliceRun
import Derived.Deep.RegionWith
import Derived.Test.YtkjfhgoddhigmacGreatDoorM02
namespace Go.Proofs.YtkjfhgoddhigmacGreatDoor
open Go.RowKit
/-- What was found of a name so far: a number, or none yet. -/
def NSo (n : ByteArray) (L : List (ByteArray × ByteArray)) (k m : Nat) : Prop := (m = 0 ∧ fnd (isN n) L 0 = fnd (isN n) (L.drop k) k) ∨ (0 < m ∧ fnd (isN n) L 0 = m)
theorem NSo.hit {n : ByteArray} {L : List (ByteArray × ByteArray)} {k m : Nat} (h : NSo n L k 0) (e : fnd (isN n) (L.drop k) k = m) : fnd (isN n) L 0 = m := by
  rcases h with ⟨_, h⟩ | ⟨h, _⟩
  · exact h.trans e
  · omega
theorem NSo.got {n : ByteArray} {L : List (ByteArray × ByteArray)} {k m : Nat} (h : NSo n L k m) (hm : 0 < m) : fnd (isN n) L 0 = m := by
  rcases h with ⟨h, _⟩ | ⟨_, h⟩
  · omega
  · exact h
set_option maxRecDepth 100000 in
set_option maxHeartbeats 4000000 in
theorem tfind : TFindSaid TabP := by
  intro tb max A S n v w hD hF
  unfold tval
  have heq := run_eqlF
  have hgd := eqGuardF
  have hAl := hF.len
  have HL : Hid ((alwaysL ++ A).length = 12 + A.length) := by show _ = _; rw [List.length_append, always_len]
  have hb1 : Below w.heap.size w (w.alloc (.cells #[.string n, .string v] 60)) := (Below.refl _ _).alloc (Nat.le_refl _) _
  have HD : Hid (∀ wx, Below w.heap.size w wx → TabP wx tb max A S) := fun wx hb => tabKeeps.below hD hb
  have HF := hide hF
  clear hD hF
  go_enter Tryz.func43, Tryz.ntmps43
  go_wp2_with fail
  obtain ⟨w1, hw1⟩ : ∃ w1, w1 = w.alloc (.cells #[.string n, .string v] 60) := ⟨_, rfl⟩
  have hs1 : w1.heap.size = w.heap.size + 1 := by rw [hw1]; simp
  have c0 : w1.cell? ⟨w.heap.size, 0, none⟩ = some (.string n) := by rw [hw1]; simp
  have c1 : w1.cell? ⟨w.heap.size, 1, none⟩ = some (.string v) := by rw [hw1]; simp
  rw [← hw1] at hb1 ⊢
  clear hw1
  go_loopw [5, 6] (fun x i wr => ∃ k m : Nat, i = .int .i64 ((k : Int) + 1) ∧ k ≤ 12 + A.length ∧ x = .int .i64 (m : Int) ∧ m ≤ 12 + A.length ∧ Hid (fnd (isF n v) (alwaysL ++ A) 0 = fnd (isF n v) ((alwaysL ++ A).drop k) k) ∧ Hid (NSo n (alwaysL ++ A) k m) ∧ Below w1.heap.size w1 wr) (fun _ i _ => (12 + A.length + 1) - (intOf i).toNat)
  case atStart => exact ⟨0, 0, rfl, by omega, rfl, by omega, rfl, Or.inl ⟨rfl, rfl⟩, Below.refl _ _⟩
  case round =>
    obtain ⟨k, m, rfl, hk, rfl, hm, HW, HN, hbel⟩ := hrel
    have hsz := hbel.size
    have hBw : Below w.heap.size w wr := hb1.trans (hbel.mono (by omega))
    have hlen := len_read tb max A S wr (HD.out wr hBw) HF.out
    by_cases hlt : k < 12 + A.length
    · have hat := at_any tb max A S k wr (HD.out wr hBw) HF.out hlt
      have FW := fnd_step (isF n v) (alwaysL ++ A) k (by rw [HL.out]; omega)
      have FN := fnd_step (isN n) (alwaysL ++ A) k (by rw [HL.out]; omega)
      have d1 : decide ((k : Int) + 1 ≤ ((12 + A.length : Nat) : Int)) = true := by simp; omega
      generalize hx : ((12 + A.length : Nat) : Int) = x at *
      clear hx
      generalize (alwaysL ++ A).getD k fnone = f at *
      obtain ⟨fn, fv⟩ := f
      have HFW := hide FW
      have HFN := hide FN
      clear FW FN
      go_wp2_with fail
      refine hlen.mono ?_
      rintro e w' ⟨rfl, rfl⟩
      go_wp2_with fail
      refine hat.mono ?_
      rintro e w2 ⟨rfl, hb2⟩
      have hb3 : Below w1.heap.size w1 w2 := hbel.trans (hb2.mono hsz)
      have hs2 := hb2.size
      have k0 : w2.cell? ⟨w.heap.size, 0, none⟩ = some (.string n) := (hb3.cell (p := ⟨w.heap.size, 0, none⟩) (by show w.heap.size < w1.heap.size; omega)).trans c0
      have k1 : w2.cell? ⟨w.heap.size, 1, none⟩ = some (.string v) := (hb3.cell (p := ⟨w.heap.size, 1, none⟩) (by show w.heap.size < w1.heap.size; omega)).trans c1
      have hlw : w.heap.size < w2.heap.size := by omega
      clear hlen hat c0 c1 hb2
      have hmc : m = 0 ∨ 0 < m := by omega
      have hnc : (fn.toList == n.toList) = true ∨ (fn.toList == n.toList) = false := by cases (fn.toList == n.toList) <;> simp
      have hvc : (fv.toList == v.toList) = true ∨ (fv.toList == v.toList) = false := by cases (fv.toList == v.toList) <;> simp
      rcases hmc with rfl | hm0 <;> rcases hnc with hn | hn <;> rcases hvc with hv | hv
      all_goals
        have e1 := HFW.out
        have e2 := HFN.out
        simp [isF, isN, hn, hv] at e1 e2
        have E1 := hide (HW.out.trans e1)
        have E2 := hide e2
        clear e1 e2 HFW HFN
      · have E3 := hide (HN.out.hit E2.out)
        go_wp2
        go_ret2
        refine ⟨?_, hb1.trans ((hb3.mono (by omega)).alloc (by omega) _)⟩
        rw [E1.out, E3.out]; push_cast; rfl
      · have E3 := hide (HN.out.hit E2.out)
        go_wp2
        go_roundw
        case rel => exact ⟨k + 1, k + 1, by go_num, by omega, by go_num, by omega, E1.out, Or.inr ⟨by omega, E3.out⟩, hb3.alloc (by omega) _⟩
        case measure => simp [intOf]; omega
      · have E3 := hide (HN.out.hit E2.out)
        go_wp2
        go_roundw
        case rel => exact ⟨k + 1, 0, by go_num, by omega, by go_num, by omega, E1.out, Or.inl ⟨rfl, E3.out⟩, hb3.alloc (by omega) _⟩
        case measure => simp [intOf]; omega
      · have E3 := hide (HN.out.hit E2.out)
        go_wp2
        go_roundw
        case rel => exact ⟨k + 1, 0, by go_num, by omega, by go_num, by omega, E1.out, Or.inl ⟨rfl, E3.out⟩, hb3.alloc (by omega) _⟩
        case measure => simp [intOf]; omega
      · have E3 := hide (HN.out.got hm0)
        have hnz : ¬ ((m : Int) = 0) := by omega
        go_wp2
        go_ret2
        refine ⟨?_, hb1.trans ((hb3.mono (by omega)).alloc (by omega) _)⟩
        rw [E1.out, E3.out]; push_cast; rfl
      all_goals
        have E3 := hide (HN.out.got hm0)
        have hnz : ¬ ((m : Int) = 0) := by omega
        go_wp2
        go_roundw
        case rel => exact ⟨k + 1, m, by go_num, by omega, rfl, by omega, E1.out, Or.inr ⟨hm0, E3.out⟩, hb3.alloc (by omega) _⟩
        case measure => simp [intOf]; omega
    · have hd : decide ((k : Int) + 1 ≤ ((12 + A.length : Nat) : Int)) = false := by simp; omega
      have hk2 : k = 12 + A.length := by omega
      have ed : (alwaysL ++ A).drop k = [] := List.drop_of_length_le (by rw [HL.out]; omega)
      have E1 : Hid (fnd (isF n v) (alwaysL ++ A) 0 = 0) := by show _ = _; rw [HW.out, ed]; rfl
      have E2 : Hid (fnd (isN n) (alwaysL ++ A) 0 = m) := by
        rcases Nat.eq_zero_or_pos m with h | h
        · subst h; exact HN.out.hit (by rw [ed]; rfl)
        · exact HN.out.got h
      generalize hx : ((12 + A.length : Nat) : Int) = x at *
      clear hx ed hlt hk2 hk hm
      go_wp2_with fail
      refine hlen.mono ?_
      rintro e w' ⟨rfl, rfl⟩
      clear hlen
      go_wp2
      go_ret2
      refine ⟨?_, hBw⟩
      rw [E1.out, E2.out]; rfl
end Go.Proofs.YtkjfhgoddhigmacGreatDoor
/-
  CONTRACT of the Go function slices.Delete at fields, where the last ones go. No claim by itself.
-/
namespace Go.Proofs.YtkjfhgoddhigmacGreatDoor
open Go.RowKit
theorem zeroF : ∀ w, (zeroValue 60).run Tryz.prog w = .ok (.agg #[.string ⟨#[]⟩, .string ⟨#[]⟩]) w := by
  intro w
  obtain ⟨i0, hi, hz0, _, _⟩ := info_parts (show (Tryz.prog.info? 60).map (fun i => (i.zero, i.size, i.bytes)) = some (some (.agg #[.string ⟨#[]⟩, .string ⟨#[]⟩]), 2, 32) by kernel_rfl)
  simp [zeroValue, typeInfo, hi, hz0]
/-- 'clear(s)': its cells hold zero values. -/
theorem run_clear_rowF (w : World) (ty : TypeId) (g o n c : Nat) (cur : Array Value) (t : TypeId) (hg : w.heap[g]? = some (.cells cur t (0, 0))) (hn : 0 < n) (hfit : o + n * 2 ≤ cur.size) :
    ∃ zs : List Value, zs.length = n * 2 ∧ (Builtin.clear_ #[38] ty #[.slice (some ⟨g, o, none⟩) n c]).run Tryz.prog w = .ok (.tuple #[]) (w.setRow g (cur.toList.take o ++ zs ++ cur.toList.drop (o + zs.length)).toArray) := by
  obtain ⟨zs, hzs⟩ : ∃ zs, zs = (Builtin.zeroCells (Value.agg #[.string ⟨#[]⟩, .string ⟨#[]⟩]).cells n).toList := ⟨_, rfl⟩
  have hl : zs.length = n * 2 := by rw [hzs]; simp [Builtin.zeroCells, Value.cells]
  have h1 : ∀ v ∈ zs, v.oneCell' = true := by
    intro v hv
    rw [hzs] at hv
    simp [Builtin.zeroCells, Value.cells] at hv
    obtain ⟨i, _, rfl⟩ := hv
    rcases Nat.mod_two_eq_zero_or_one i with h | h <;> simp [h] <;> rfl
  have hst := run_storeCells_at Tryz.prog g o t zs 0 cur w hg (by omega) h1
  refine ⟨zs, hl, ?_⟩
  obtain ⟨m, rfl⟩ : ∃ m, n = m + 1 := ⟨n - 1, by omega⟩
  simp only [Nat.add_zero] at hst
  simp [Builtin.clear_, run_underlying Tryz.underlying38, ← hzs, hst]
theorem off_setRow {S : Nat → Prop} {w w' : World} (h : Off S w w') (g : Nat) (hg : S g) (cs : Array Value) : Off S w (w'.setRow g cs) :=
  ⟨h.os, h.tape, h.output, by simpa [World.setRow] using h.size, fun k hk hs => (setRow_other w' g k cs (fun e => hs (e ▸ hg))).trans (h.block k hk hs)⟩
set_option maxHeartbeats 4000000 in
set_option maxRecDepth 100000 in
theorem del_row (g cap N n : Nat) (cur : Array Value) (w : World) (hg : w.heap[g]? = some (.cells cur 60 (0, 0))) (hn : n ≤ N) (hN : N ≤ cap) (hcap : cap ≤ maxLen) (hsz : cur.size = cap * 2) :
    Calls Tryz.prog 54 #[.slice (some ⟨g, 0, none⟩) N cap, .int .i64 n, .int .i64 N] w fun e w' => e = .returned (.slice (some ⟨g, 0, none⟩) n cap) ∧ Off (fun k => k = g) w w' ∧ w'.heap.size = w.heap.size ∧
      ∃ cur' : Array Value, w'.heap[g]? = some (.cells cur' 60 (0, 0)) ∧ cur'.size = cap * 2 ∧ cur'.toList.take (n * 2) = cur.toList.take (n * 2) := by
  have hcp := hcap
  unfold maxLen at hcp
  by_cases heq : n = N
  · subst heq
    have h0 : Calls Tryz.prog 54 #[.slice (some ⟨g, 0, none⟩) n cap, .int .i64 n, .int .i64 n] w fun e w' => e = .returned (.slice (some ⟨g, 0, none⟩) n cap) ∧ w = w' := by
      clear hg
      go_enter Tryz.func54, Tryz.ntmps54
      go_wp2
      all_goals (go_ret; exact ⟨rfl, rfl⟩)
    refine h0.mono ?_
    rintro e w' ⟨rfl, rfl⟩
    exact ⟨rfl, Off.of_below (Below.refl _ _), rfl, cur, hg, hsz, rfl⟩
  · obtain ⟨i0, hi, hz0, hz1, hz2⟩ := info_parts (show (Tryz.prog.info? 60).map (fun i => (i.zero, i.size, i.bytes)) = some (some (.agg #[.string ⟨#[]⟩, .string ⟨#[]⟩]), 2, 32) by kernel_rfl)
    have hlt : n < N := by omega
    have hgd : w.drew.heap[g]? = some (.cells cur 60 (0, 0)) := hg
    obtain ⟨zs, hzl, hcl⟩ : ∃ zs : List Value, zs.length = (N - n) * 2 ∧ ∀ ty, (Builtin.clear_ #[38] ty #[.slice (some ⟨g, n * 2, none⟩) (N - n) (cap - n)]).run Tryz.prog w.drew = .ok (.tuple #[]) (w.drew.setRow g (cur.toList.take (n * 2) ++ zs ++ cur.toList.drop (n * 2 + zs.length)).toArray) := by
      obtain ⟨zs, h1, h2⟩ := run_clear_rowF w.drew 0 g (n * 2) (N - n) (cap - n) cur _ hgd (by omega) (by omega)
      exact ⟨zs, h1, fun ty => h2⟩
    obtain ⟨A, hA⟩ : ∃ A : Addr, (if cap = N then some (⟨g, 0, none⟩ : Addr) else some ⟨g, N * 2, none⟩) = some A := by
      by_cases h : cap = N
      · exact ⟨_, by rw [if_pos h]⟩
      · exact ⟨_, by rw [if_neg h]⟩
    have h1 : n ≤ cap := by omega
    have hcl2 : ∀ ty, (Builtin.clear_ #[38] ty #[.slice (some ⟨g, n * 2, none⟩) (N - n) (cap - n)]).run Tryz.prog (w.drew.setCells g (n * 2) []) = .ok (.tuple #[]) (w.drew.setRow g (cur.toList.take (n * 2) ++ zs ++ cur.toList.drop (n * 2 + zs.length)).toArray) := hcl
    clear hcl
    have HG := hide hg
    have hcn : ¬ (cap = n) := by omega
    clear hg hgd
    go_enter Tryz.func54, Tryz.ntmps54
    go_wp2_with fail
    go_region_law (refine step_append_room rfl (.tmp 22) (.tmp 25) 38 rfl 60 i0 2 Tryz.underlying38 hi hz1 g 0 n cap (by simp [Act.eval, Act.put]) A 0 (cap - N) [] (by simp [Act.eval, Act.put]) rfl (fun j u h => by simp at h) (fun u h => by simp at h) (by omega) (fun j h => by simp at h) ?_)
    go_simp
    go_wp2
    go_ret
    refine ⟨rfl, off_setRow (S := fun k => k = g) (Off.of_below ((Below.refl _ _).drew)) g rfl _, by simp [World.setRow], _, setRow_heap w.drew g cur _ 60 (0, 0) HG.out, ?_, ?_⟩
    · simp only [List.size_toArray, List.length_append, List.length_take, List.length_drop, Array.length_toList, hzl, hsz]; omega
    · show List.take (n * 2) (List.take (n * 2) cur.toList ++ _) = _
      rw [List.take_append_of_le_length (by rw [List.length_take, Array.length_toList]; omega), List.take_take, Nat.min_self]
theorem del_nil (w : World) : Calls Tryz.prog 54 #[.slice none 0 0, .int .i64 0, .int .i64 0] w fun e w' => e = .returned (.slice none 0 0) ∧ w = w' := by
  go_enter Tryz.func54, Tryz.ntmps54
  go_wp2
  go_ret
  exact ⟨rfl, rfl⟩
end Go.Proofs.YtkjfhgoddhigmacGreatDoor
/-
  CONTRACT of the method shrink of the developers' table. No claim by itself.
-/
namespace Go.Proofs.YtkjfhgoddhigmacGreatDoor
open Go.RowKit
theorem Off.trans {S : Nat → Prop} {a b c : World} (h : Off S a b) (k : Off S b c) : Off S a c :=
  ⟨k.os.trans h.os, k.tape.trans h.tape, k.output.trans h.output, Nat.le_trans h.size k.size, fun i hi hn => (k.block i (Nat.lt_of_lt_of_le hi h.size) hn).trans (h.block i hi hn)⟩
theorem Off.mono {S T : Nat → Prop} {a b : World} (h : Off S a b) (hi : ∀ k, S k → T k) : Off T a b :=
  ⟨h.os, h.tape, h.output, h.size, fun i hl hn => h.block i hl (fun hs => hn (hi i hs))⟩
theorem Off.setCell {S : Nat → Prop} {w w' : World} (h : Off S w w') (g o : Nat) (hg : S g) (u : Value) : Off S w (w'.setCell ⟨g, o, none⟩ u) := by
  have hs : (w'.setCell ⟨g, o, none⟩ u).heap.size = w'.heap.size := by simp
  exact ⟨h.os, h.tape, h.output, by rw [hs]; exact h.size, fun k hk hn => (Below.heap_setCell w' ⟨g, o, none⟩ u k (fun e => hn (e ▸ hg))).trans (h.block k hk hn)⟩
theorem heap_set {w : World} {g o : Nat} {cur : Array Value} {t : TypeId} {fr : Nat × Nat} (h : w.heap[g]? = some (.cells cur t fr)) (u : Value) : (w.setCell ⟨g, o, none⟩ u).heap[g]? = some (.cells (cur.setIfInBounds o u) t fr) := by
  have hlt : g < w.heap.size := lt_of_heap h
  have hv : w.heap[g] = .cells cur t fr := (Array.getElem?_eq_some_iff.1 h).2
  simp [World.setCell, Array.getElem_modify, hlt, hv]
theorem fcells_take : ∀ (A : List (ByteArray × ByteArray)) (n : Nat), (fcells A).take (n * 2) = fcells (A.take n)
  | [], _ => by simp [fcells]
  | f :: A, 0 => by simp [fcells]
  | f :: A, n + 1 => by
    have ih := fcells_take A n
    show List.take ((n + 1) * 2) (.string f.1 :: .string f.2 :: fcells A) = .string f.1 :: .string f.2 :: fcells (A.take n)
    rw [show (n + 1) * 2 = n * 2 + 1 + 1 by omega, List.take_succ_cons, List.take_succ_cons, ih]
set_option maxRecDepth 100000 in
set_option maxHeartbeats 4000000 in
theorem shrink_row (tb g cap : Nat) (max room : Int) (A : List (ByteArray × ByteArray)) (cur : Array Value) (w : World)
    (hb : w.heap[tb]? = some (.cells #[.int .i64 max, .int .i64 (weight A : Int), .slice (some ⟨g, 0, none⟩) A.length cap] 73 (0, 0)))
    (hgt : g ≠ tb) (hg : w.heap[g]? = some (.cells cur 60 (0, 0))) (h1 : A.length ≤ cap) (h2 : cap ≤ maxLen) (h3 : cur.size = cap * 2) (h4 : cur.toList.take (A.length * 2) = fcells A)
    (hw : weight A ≤ 4096) (h0 : 0 ≤ room) :
    Calls Tryz.prog 35 #[.pointer (some ⟨tb, 0, none⟩), .int .i64 room] w fun e w' => e = .returned (.tuple #[]) ∧ Off (fun k => k = tb ∨ k = g) w w' ∧
      w'.heap[tb]? = some (.cells #[.int .i64 max, .int .i64 (weight (A.take (keepN A room A.length)) : Int), .slice (some ⟨g, 0, none⟩) (keepN A room A.length) cap] 73 (0, 0)) ∧
      ∃ cur' : Array Value, w'.heap[g]? = some (.cells cur' 60 (0, 0)) ∧ cur'.size = cap * 2 ∧ cur'.toList.take (keepN A room A.length * 2) = fcells (A.take (keepN A room A.length)) := by
  have hwl := weight_len A
  have htb := lt_of_heap hb
  have hgl := lt_of_heap hg
  have c2 : w.cell? ⟨tb, 2, none⟩ = some (.slice (some ⟨g, 0, none⟩) A.length cap) := by rw [cell_at hb]; rfl
  have HB := hide hb
  have HG := hide hg
  have H4 := hide h4
  have HR := hide (LRow.frow hg h1 h2 h4)
  have h2' := h2
  unfold maxLen at h2'
  clear hb hg h4
  go_enter Tryz.func35, Tryz.ntmps35
  go_wp2_with fail
  go_loopw [4] (fun i wr => ∃ n : Nat, i = .int .i64 n ∧ n ≤ A.length ∧ Hid (keepN A room A.length = keepN A room n) ∧ Hid (wr.heap[tb]? = some (.cells #[.int .i64 max, .int .i64 (weight (A.take n) : Int), .slice (some ⟨g, 0, none⟩) A.length cap] 73 (0, 0))) ∧ Hid (Off (fun k => k = tb) w wr)) (fun i _ => (intOf i).toNat)
  case atStart => exact ⟨A.length, rfl, Nat.le_refl _, rfl, by rw [List.take_length]; exact HB.out, Off.of_below (Below.refl _ _)⟩
  case round =>
    clear c2
    obtain ⟨n, rfl, hn, HK, HT, HO⟩ := hrel
    have hsz := HO.out.size
    have e1 : wr.cell? ⟨tb, 1, none⟩ = some (.int .i64 (weight (A.take n) : Int)) := by rw [cell_at HT.out]; rfl
    have e2 : wr.cell? ⟨tb, 2, none⟩ = some (.slice (some ⟨g, 0, none⟩) A.length cap) := by rw [cell_at HT.out]; rfl
    have f1 : wr.frozen? ⟨tb, 1, none⟩ = false := frozen_at HT.out 1
    have f2 : wr.frozen? ⟨tb, 2, none⟩ = false := frozen_at HT.out 2
    have hwt := weight_take_le A n
    have htr : tb < wr.heap.size := by omega
    have hgr : g < wr.heap.size := by omega
    have HGr : Hid (wr.heap[g]? = some (.cells cur 60 (0, 0))) := (HO.out.block g hgl hgt).trans HG.out
    by_cases hgo : room < (weight (A.take n) : Int)
    · have hn0 : n ≠ 0 := by
        rintro rfl
        simp [weight] at hgo; omega
      obtain ⟨m, rfl⟩ : ∃ m, n = m + 1 := ⟨n - 1, by omega⟩
      have HK2 : Hid (keepN A room A.length = keepN A room m) := by
        show keepN A room A.length = keepN A room m
        rw [HK.out]; show (if _ then _ else _) = _; rw [if_pos hgo]
      have hfr := LRow.frow HGr.out h1 h2 H4.out
      have q1 := hfr.hname m (by omega)
      have q2 := hfr.hvalue m (by omega)
      rw [Nat.zero_add] at q1 q2
      have EW := hide (weight_take A m (by omega))
      rw [EW.out] at e1 hwt hgo
      have hfs : (A.getD m fnone).1.size + (A.getD m fnone).2.size + 32 = fsize (A.getD m fnone) := rfl
      generalize A.getD m fnone = f at *
      obtain ⟨fn, fv⟩ := f
      have hnv : fn.size + fv.size ≤ 1152921504606846976 := by simp at hfs; omega
      generalize hx : weight (A.take m) = x at *
      generalize hy : fsize (fn, fv) = y at *
      have hm0 : (0 : Int) ≤ (m : Int) := by omega
      have hm1 : (m : Int) < (A.length : Int) := by omega
      clear hfr HK hfs
      have HX := hide hx
      have HY := hide hy
      clear hx hy
      rw [Int.natCast_add] at e1
      go_wp2_with fail
      have k1 : ∀ o, (wr.alloc o).cell? ⟨tb, 1, none⟩ = some (.int .i64 ((x : Int) + (y : Int))) := fun o => by rw [World.cell?_alloc_lt _ _ ⟨tb, 1, none⟩ htr]; exact e1
      have g1 : ∀ o, (wr.alloc o).frozen? ⟨tb, 1, none⟩ = false := fun o => by rw [World.frozen?_alloc_old _ _ ⟨tb, 1, none⟩ (Nat.ne_of_lt htr)]; exact f1
      go_region_with (go_at_call 29; refine (sizeof_any fn fv _ hnv).mono ?_; rintro e w' ⟨rfl, rfl⟩; rw [HY.out])
      all_goals
        have hwx : IntKind.i64.wrap (x : Int) = (x : Int) := by rw [IntKind.wrap_i64]; omega
        rw [hwx]
        go_wp2
        go_roundw
        case rel =>
          refine ⟨m, by go_num, by omega, HK2, ?_, ?_⟩
          · show ((wr.setCell ⟨tb, 1, none⟩ (.int .i64 (x : Int))).alloc _).heap[tb]? = _
            rw [heap_alloc_old _ _ (by simpa using htr), heap_set HT.out, HX.out]
            rfl
          · exact ((HO.out.setCell tb 1 rfl _).trans (Off.of_below ((Below.refl _ _).alloc (Nat.le_refl _) _))).trans (Off.of_below ((Below.refl _ _).drew))
        case measure => simp [intOf]
    · have HK2 : Hid (keepN A room A.length = n) := by
        show keepN A room A.length = n
        rw [HK.out]
        match n, hgo with
        | 0, _ => rfl
        | m + 1, hgo => show (if _ then _ else _) = _; rw [if_neg hgo]
      have hd : decide (room < (weight (A.take n) : Int)) = false := by simp; omega
      have hdel := del_row g cap A.length n cur
      generalize hx : weight (A.take n) = x at *
      have HX := hide hx
      clear hx HK
      go_wp2_with fail
      go_region_with (go_at_call 54; refine (hdel wr.drew HGr.out hn h1 h2 h3).mono ?_; rintro e w4 ⟨rfl, hoff, hs4, cur', hg4, hc4, ht4⟩; have HT4 := hide ((hoff.block tb htr (fun e => hgt e.symm)).trans HT.out); have k2 : w4.cell? ⟨tb, 2, none⟩ = some (.slice (some ⟨g, 0, none⟩) A.length cap) := (by rw [cell_at HT4.out]; rfl); have fz2 : w4.frozen? ⟨tb, 2, none⟩ = false := frozen_at HT4.out 2; have HOF := hide hoff; have HG4 := hide hg4; have H4T := hide ht4; clear hoff hg4 ht4)
      all_goals
        go_wp2
        go_end0
        rw [HK2.out, HX.out]
        refine ⟨rfl, ?_, ?_, cur', ?_, hc4, ?_⟩
        · exact (((HO.out.mono (fun k h => Or.inl h)).trans (Off.of_below ((Below.refl _ _).drew))).trans (HOF.out.mono (fun k h => Or.inr h))).setCell tb 2 (Or.inl rfl) _
        · rw [heap_set HT4.out]; rfl
        · exact (Below.heap_setCell w4 ⟨tb, 2, none⟩ _ g hgt).trans HG4.out
        · rw [H4T.out, ← fcells_take, ← H4.out, List.take_take, Nat.min_eq_left (by omega)]
end Go.Proofs.YtkjfhgoddhigmacGreatDoor
