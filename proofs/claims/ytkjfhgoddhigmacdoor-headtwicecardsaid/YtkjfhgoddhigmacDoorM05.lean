/-
  CONTRACT of the method shrink of the developers' table. No claim by itself.
-/
import Derived.Deep.RegionWith
import Derived.Test.YtkjfhgoddhigmacDoorM04
namespace Go.Proofs.YtkjfhgoddhigmacDoor
open Go.RowKit
theorem Off.trans {S : Nat → Prop} {a b c : World} (h : Off S a b) (k : Off S b c) : Off S a c :=
  ⟨k.os.trans h.os, k.tape.trans h.tape, k.output.trans h.output, Nat.le_trans h.size k.size, fun i hi hn => (k.block i (Nat.lt_of_lt_of_le hi h.size) hn).trans (h.block i hi hn)⟩
theorem Off.mono {S T : Nat → Prop} {a b : World} (h : Off S a b) (hi : ∀ k, S k → T k) : Off T a b :=
  ⟨h.os, h.tape, h.output, h.size, fun i hl hn => h.block i hl (fun hs => hn (hi i hs))⟩
theorem Off.setCell {S : Nat → Prop} {w w' : World} (h : Off S w w') (g o : Nat) (hg : S g) (u : Value) : Off S w (w'.setCell ⟨g, o, none⟩ u) := by
  have hs : (w'.setCell ⟨g, o, none⟩ u).heap.size = w'.heap.size := by simp
  exact ⟨h.os, h.tape, h.output, by rw [hs]; exact h.size, fun k hk hn => (Below.heap_setCell w' ⟨g, o, none⟩ u k (fun e => hn (e ▸ hg))).trans (h.block k hk hn)⟩
theorem heap_set {w : World} {g o : Nat} {cur : Array Value} {t : TypeId} {fr : Nat × Nat} (h : w.heap[g]? = some (.cells cur t fr)) (u : Value) : (w.setCell ⟨g, o, none⟩ u).heap[g]? = some (.cells (cur.setIfInBounds o u) t fr) := by
  have hlt : g < w.heap.size := lt_of_heap h
  have hv : w.heap[g] = .cells cur t fr := (Array.getElem?_eq_some_iff.1 h).2
  simp [World.setCell, Array.getElem_modify, hlt, hv]
theorem fcells_take : ∀ (A : List (ByteArray × ByteArray)) (n : Nat), (fcells A).take (n * 2) = fcells (A.take n)
  | [], _ => by simp [fcells]
  | f :: A, 0 => by simp [fcells]
  | f :: A, n + 1 => by
    have ih := fcells_take A n
    show List.take ((n + 1) * 2) (.string f.1 :: .string f.2 :: fcells A) = .string f.1 :: .string f.2 :: fcells (A.take n)
    rw [show (n + 1) * 2 = n * 2 + 1 + 1 by omega, List.take_succ_cons, List.take_succ_cons, ih]
set_option maxRecDepth 100000 in
set_option maxHeartbeats 4000000 in
theorem shrink_row (tb g cap : Nat) (max room : Int) (A : List (ByteArray × ByteArray)) (cur : Array Value) (w : World)
    (hb : w.heap[tb]? = some (.cells #[.int .i64 max, .int .i64 (weight A : Int), .slice (some ⟨g, 0, none⟩) A.length cap] 55 (0, 0)))
    (hgt : g ≠ tb) (hg : w.heap[g]? = some (.cells cur 33 (0, 0))) (h1 : A.length ≤ cap) (h2 : cap ≤ maxLen) (h3 : cur.size = cap * 2) (h4 : cur.toList.take (A.length * 2) = fcells A)
    (hw : weight A ≤ 4096) (h0 : 0 ≤ room) :
    Calls Tryd.prog 30 #[.pointer (some ⟨tb, 0, none⟩), .int .i64 room] w fun e w' => e = .returned (.tuple #[]) ∧ Off (fun k => k = tb ∨ k = g) w w' ∧
      w'.heap[tb]? = some (.cells #[.int .i64 max, .int .i64 (weight (A.take (keepN A room A.length)) : Int), .slice (some ⟨g, 0, none⟩) (keepN A room A.length) cap] 55 (0, 0)) ∧
      ∃ cur' : Array Value, w'.heap[g]? = some (.cells cur' 33 (0, 0)) ∧ cur'.size = cap * 2 ∧ cur'.toList.take (keepN A room A.length * 2) = fcells (A.take (keepN A room A.length)) := by
  have hwl := weight_len A
  have htb := lt_of_heap hb
  have hgl := lt_of_heap hg
  have c2 : w.cell? ⟨tb, 2, none⟩ = some (.slice (some ⟨g, 0, none⟩) A.length cap) := by rw [cell_at hb]; rfl
  have HB := hide hb
  have HG := hide hg
  have H4 := hide h4
  have HR := hide (LRow.frow hg h1 h2 h4)
  have h2' := h2
  unfold maxLen at h2'
  clear hb hg h4
  go_enter Tryd.func30, Tryd.ntmps30
  go_wp2_with fail
  go_loopw [4] (fun i wr => ∃ n : Nat, i = .int .i64 n ∧ n ≤ A.length ∧ Hid (keepN A room A.length = keepN A room n) ∧ Hid (wr.heap[tb]? = some (.cells #[.int .i64 max, .int .i64 (weight (A.take n) : Int), .slice (some ⟨g, 0, none⟩) A.length cap] 55 (0, 0))) ∧ Hid (Off (fun k => k = tb) w wr)) (fun i _ => (intOf i).toNat)
  case atStart => exact ⟨A.length, rfl, Nat.le_refl _, rfl, by rw [List.take_length]; exact HB.out, Off.of_below (Below.refl _ _)⟩
  case round =>
    clear c2
    obtain ⟨n, rfl, hn, HK, HT, HO⟩ := hrel
    have hsz := HO.out.size
    have e1 : wr.cell? ⟨tb, 1, none⟩ = some (.int .i64 (weight (A.take n) : Int)) := by rw [cell_at HT.out]; rfl
    have e2 : wr.cell? ⟨tb, 2, none⟩ = some (.slice (some ⟨g, 0, none⟩) A.length cap) := by rw [cell_at HT.out]; rfl
    have f1 : wr.frozen? ⟨tb, 1, none⟩ = false := frozen_at HT.out 1
    have f2 : wr.frozen? ⟨tb, 2, none⟩ = false := frozen_at HT.out 2
    have hwt := weight_take_le A n
    have htr : tb < wr.heap.size := by omega
    have hgr : g < wr.heap.size := by omega
    have HGr : Hid (wr.heap[g]? = some (.cells cur 33 (0, 0))) := (HO.out.block g hgl hgt).trans HG.out
    by_cases hgo : room < (weight (A.take n) : Int)
    · have hn0 : n ≠ 0 := by
        rintro rfl
        simp [weight] at hgo; omega
      obtain ⟨m, rfl⟩ : ∃ m, n = m + 1 := ⟨n - 1, by omega⟩
      have HK2 : Hid (keepN A room A.length = keepN A room m) := by
        show keepN A room A.length = keepN A room m
        rw [HK.out]; show (if _ then _ else _) = _; rw [if_pos hgo]
      have hfr := LRow.frow HGr.out h1 h2 H4.out
      have q1 := hfr.hname m (by omega)
      have q2 := hfr.hvalue m (by omega)
      rw [Nat.zero_add] at q1 q2
      have EW := hide (weight_take A m (by omega))
      rw [EW.out] at e1 hwt hgo
      have hfs : (A.getD m fnone).1.size + (A.getD m fnone).2.size + 32 = fsize (A.getD m fnone) := rfl
      generalize A.getD m fnone = f at *
      obtain ⟨fn, fv⟩ := f
      have hnv : fn.size + fv.size ≤ 1152921504606846976 := by simp at hfs; omega
      generalize hx : weight (A.take m) = x at *
      generalize hy : fsize (fn, fv) = y at *
      have hm0 : (0 : Int) ≤ (m : Int) := by omega
      have hm1 : (m : Int) < (A.length : Int) := by omega
      clear hfr HK hfs
      have HX := hide hx
      have HY := hide hy
      clear hx hy
      rw [Int.natCast_add] at e1
      go_wp2_with fail
      have k1 : ∀ o, (wr.alloc o).cell? ⟨tb, 1, none⟩ = some (.int .i64 ((x : Int) + (y : Int))) := fun o => by rw [World.cell?_alloc_lt _ _ ⟨tb, 1, none⟩ htr]; exact e1
      have g1 : ∀ o, (wr.alloc o).frozen? ⟨tb, 1, none⟩ = false := fun o => by rw [World.frozen?_alloc_old _ _ ⟨tb, 1, none⟩ (Nat.ne_of_lt htr)]; exact f1
      go_region_with (go_at_call 19; refine (sizeof_any fn fv _ hnv).mono ?_; rintro e w' ⟨rfl, rfl⟩; rw [HY.out])
      all_goals
        have hwx : IntKind.i64.wrap (x : Int) = (x : Int) := by rw [IntKind.wrap_i64]; omega
        rw [hwx]
        go_wp2
        go_roundw
        case rel =>
          refine ⟨m, by go_num, by omega, HK2, ?_, ?_⟩
          · show ((wr.setCell ⟨tb, 1, none⟩ (.int .i64 (x : Int))).alloc _).heap[tb]? = _
            rw [heap_alloc_old _ _ (by simpa using htr), heap_set HT.out, HX.out]
            rfl
          · exact ((HO.out.setCell tb 1 rfl _).trans (Off.of_below ((Below.refl _ _).alloc (Nat.le_refl _) _))).trans (Off.of_below ((Below.refl _ _).drew))
        case measure => simp [intOf]
    · have HK2 : Hid (keepN A room A.length = n) := by
        show keepN A room A.length = n
        rw [HK.out]
        match n, hgo with
        | 0, _ => rfl
        | m + 1, hgo => show (if _ then _ else _) = _; rw [if_neg hgo]
      have hd : decide (room < (weight (A.take n) : Int)) = false := by simp; omega
      have hdel := del_row g cap A.length n cur
      generalize hx : weight (A.take n) = x at *
      have HX := hide hx
      clear hx HK
      go_wp2_with fail
      go_region_with (go_at_call 39; refine (hdel wr.drew HGr.out hn h1 h2 h3).mono ?_; rintro e w4 ⟨rfl, hoff, hs4, cur', hg4, hc4, ht4⟩; have HT4 := hide ((hoff.block tb htr (fun e => hgt e.symm)).trans HT.out); have k2 : w4.cell? ⟨tb, 2, none⟩ = some (.slice (some ⟨g, 0, none⟩) A.length cap) := (by rw [cell_at HT4.out]; rfl); have fz2 : w4.frozen? ⟨tb, 2, none⟩ = false := frozen_at HT4.out 2; have HOF := hide hoff; have HG4 := hide hg4; have H4T := hide ht4; clear hoff hg4 ht4)
      all_goals
        go_wp2
        go_end0
        rw [HK2.out, HX.out]
        refine ⟨rfl, ?_, ?_, cur', ?_, hc4, ?_⟩
        · exact (((HO.out.mono (fun k h => Or.inl h)).trans (Off.of_below ((Below.refl _ _).drew))).trans (HOF.out.mono (fun k h => Or.inr h))).setCell tb 2 (Or.inl rfl) _
        · rw [heap_set HT4.out]; rfl
        · exact (Below.heap_setCell w4 ⟨tb, 2, none⟩ _ g hgt).trans HG4.out
        · rw [H4T.out, ← fcells_take, ← H4.out, List.take_take, Nat.min_eq_left (by omega)]
end Go.Proofs.YtkjfhgoddhigmacDoor
/-
  CONTRACTS of the methods shrink (whatever the table holds) and Resize of the developers' table. No claim by itself.
-/
namespace Go.Proofs.YtkjfhgoddhigmacDoor
open Go.RowKit
theorem shrink_nil (tb : Nat) (max room : Int) (w : World) (hb : w.heap[tb]? = some (.cells #[.int .i64 max, .int .i64 0, .slice none 0 0] 55 (0, 0))) (h0 : 0 ≤ room) :
    Calls Tryd.prog 30 #[.pointer (some ⟨tb, 0, none⟩), .int .i64 room] w fun e w' => e = .returned (.tuple #[]) ∧ Off (fun k => k = tb) w w' ∧ w'.heap[tb]? = some (.cells #[.int .i64 max, .int .i64 0, .slice none 0 0] 55 (0, 0)) := by
  have c1 : w.cell? ⟨tb, 1, none⟩ = some (.int .i64 0) := by rw [cell_at hb]; rfl
  have c2 : w.cell? ⟨tb, 2, none⟩ = some (.slice none 0 0) := by rw [cell_at hb]; rfl
  have f2 : w.frozen? ⟨tb, 2, none⟩ = false := frozen_at hb 2
  have hd : decide (room < 0) = false := by simp; omega
  have HB := hide hb
  clear hb
  go_enter Tryd.func30, Tryd.ntmps30
  go_wp2_with fail
  refine wp_loop_rounds 1 ?_
  rw [rounds_succ]
  go_wp2_with fail
  go_region_with (go_at_call 39; refine (del_nil _).mono ?_; rintro e w' ⟨rfl, rfl⟩)
  all_goals
    go_wp2
    go_end0
    exact ⟨rfl, ((Off.of_below (S := fun k => k = tb) (Below.refl _ w)).setCell tb 2 rfl _).trans (Off.of_below ((Below.refl _ _).drew)), by show (w.setCell ⟨tb, 2, none⟩ (.slice none 0 0)).heap[tb]? = _; rw [heap_set HB.out]; rfl⟩

/-- shrink, whatever the table holds: the newest stay, as many as are at most room. -/
theorem shrink_any (tb : Nat) (max room : Int) (A : List (ByteArray × ByteArray)) (S : Nat → Prop) (w : World) (hD : TabP w tb max A S) (hw : weight A ≤ 4096) (h0 : 0 ≤ room) :
    Calls Tryd.prog 30 #[.pointer (some ⟨tb, 0, none⟩), .int .i64 room] w fun e w' => e = .returned (.tuple #[]) ∧ Off S w w' ∧ TabP w' tb max (A.take (keepN A room A.length)) S := by
  obtain ⟨hal, v, hb, hl, hS⟩ := hD
  have hat : 0 ≠ tb := hal.ne (i := (weight A : Int)) (k := .i64) (by rw [cell_at hb]; rfl)
  rcases hl with ⟨rfl, rfl⟩ | ⟨g, cap, cur, rfl, a1, a2, hg, q1, q2, q3, q4⟩
  · refine (shrink_nil tb max room w hb h0).mono ?_
    rintro e w' ⟨rfl, hoff, hb'⟩
    refine ⟨rfl, hoff.mono (fun k hk => (hS k).2 (Or.inl hk)), hal.kept (hoff.block _ hal.pos hat), _, hb', Or.inl ⟨rfl, by simp⟩, hS⟩
  · refine (shrink_row tb g cap max room A cur w hb a2 hg q1 q2 q3 q4 hw h0).mono ?_
    rintro e w' ⟨rfl, hoff, hb', cur', hg', hc', ht'⟩
    have hk := keepN_le A room A.length
    have hlk : (A.take (keepN A room A.length)).length = keepN A room A.length := by rw [List.length_take]; omega
    refine ⟨rfl, hoff.mono (fun k hk => (hS k).2 (by rcases hk with h | h; exact Or.inl h; exact Or.inr (by rw [h]; rfl))), hal.kept (hoff.block _ hal.pos (fun h => by rcases h with h | h; exact hat h; exact a1 h)), _, hb', Or.inr ⟨g, cap, cur', by rw [hlk], a1, a2, hg', by rw [hlk]; omega, q2, hc', by rw [hlk]; exact ht'⟩, hS⟩
/-- A table whose greatest size is set. -/
theorem TabP.setMax {w : World} {tb : Nat} {max : Int} {A : List (ByteArray × ByteArray)} {S : Nat → Prop} (h : TabP w tb max A S) (m : Int) : TabP (w.setCell ⟨tb, 0, none⟩ (.int .i64 m)) tb m A S := by
  obtain ⟨hal, v, hb, hl, hS⟩ := h
  have hat : 0 ≠ tb := hal.ne (i := (weight A : Int)) (k := .i64) (by rw [cell_at hb]; rfl)
  refine ⟨hal.kept (Below.heap_setCell w ⟨tb, 0, none⟩ _ _ hat), v, by rw [heap_set hb]; rfl, ?_, hS⟩
  rcases hl with hl | ⟨g, cap, cur, rfl, a1, a2, hg, q⟩
  · exact Or.inl hl
  · exact Or.inr ⟨g, cap, cur, rfl, a1, a2, (Below.heap_setCell w ⟨tb, 0, none⟩ _ g a2).trans hg, q⟩
theorem tresize : TResizeSaid TabP := by
  intro tb max A S m w hD hF
  unfold tval
  by_cases hm : 0 ≤ m ∧ m ≤ 4096
  · have hm' := hm
    obtain ⟨m0, m1⟩ := hm'
    have hw : weight A ≤ 4096 := by have h1 := hF.h1; have h2 := hF.h2; omega
    have hsh := shrink_any tb m m A S _ (hD.setMax m) hw m0
    have HO : Hid (Off S w (w.setCell ⟨tb, 0, none⟩ (.int .i64 m))) := (Off.of_below (Below.refl _ w)).setCell tb 0 ((hD.row.choose_spec.2.2 tb).2 (Or.inl rfl)) _
    obtain ⟨_, v, hb, _, _⟩ := hD
    have c0 : w.cell? ⟨tb, 0, none⟩ = some (.int .i64 max) := by rw [cell_at hb]; rfl
    have f0 : w.frozen? ⟨tb, 0, none⟩ = false := frozen_at hb 0
    clear hb
    go_enter Tryd.func18, Tryd.ntmps18
    go_wp2_with fail
    refine (maymax_yes m w m0 m1).mono ?_
    rintro e w' ⟨rfl, rfl⟩
    go_wp2_with fail
    refine hsh.mono ?_
    rintro e w2 ⟨rfl, hoff, hD2⟩
    clear hsh
    go_wp2
    go_ret
    exact ⟨HO.out.trans hoff, S, fun k hk => Or.inl hk, Or.inl ⟨m0, m1, rfl, hD2⟩⟩
  · have HD := hide hD
    clear hD
    go_enter Tryd.func18, Tryd.ntmps18
    go_wp2_with fail
    refine (maymax_no m w hm).mono ?_
    rintro e w' ⟨rfl, rfl⟩
    go_wp2
    go_ret
    exact ⟨Off.of_below (Below.refl _ _), S, fun k hk => Or.inl hk, Or.inr ⟨hm, rfl, HD.out⟩⟩
end Go.Proofs.YtkjfhgoddhigmacDoor
