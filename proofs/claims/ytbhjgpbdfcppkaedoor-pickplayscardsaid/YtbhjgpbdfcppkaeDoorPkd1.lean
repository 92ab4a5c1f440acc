/-
  WHOSE TURN IT IS, as the developers keep it: what a picker is in memory, and what its map says of its ids. No claim by itself.
-/
import Derived.Test.YtbhjgpbdfcppkaeDoorPspec
import Derived.Maps.OwnSet
import Derived.Maps.OwnOps
import Derived.Maps.Views
import Derived.Maps.RangeWalk
namespace Go.Proofs.YtbhjgpbdfcppkaeDoor
open Go.RowKit Go.Maps
set_option maxRecDepth 100000
abbrev Dat := DataW Unit
theorem klaw : Keyed Tryd.prog 3 := int_keyed Tryd.underlying3
def oneV (wt sc : Int) (wn : Bool) : Value := .agg #[.int .i64 wt, .int .i64 sc, .bool wn]
def oneD (wt sc : Int) (wn : Bool) : Dat := .agg [.lit (.int .i64 wt), .lit (.int .i64 sc), .lit (.bool wn)]
/-- How an element of the map reads. -/
def oneElem : Value → Option (Dat × List MemPlace)
  | .agg cs => match cs.toList with
    | [.int .i64 wt, .int .i64 sc, .bool wn] => some (oneD wt sc wn, [])
    | _ => none
  | _ => none
theorem oneElem_mk (wt sc : Int) (wn : Bool) : oneElem (oneV wt sc wn) = some (oneD wt sc wn, []) := rfl
theorem oneElem_inv {v : Value} {y : Dat × List MemPlace} (h : oneElem v = some y) : ∃ wt sc wn, v = oneV wt sc wn ∧ y = (oneD wt sc wn, []) := by
  unfold oneElem at h
  split at h
  · rename_i cs
    split at h
    · rename_i wt sc wn hc
      cases h
      refine ⟨wt, sc, wn, ?_, rfl⟩
      unfold oneV
      congr 1
      apply Array.ext'
      rw [hc]
    · cases h
  · cases h
theorem oneD_inj {a b c d : Int} {x y : Bool} (h : oneD a b x = oneD c d y) : a = c ∧ b = d ∧ x = y := by
  unfold oneD at h
  simpa using h
def pkK (id : Int) : Lit := .int .i64 id
/-- What the map says of the ids. -/
structure PkR (D : Dat) (L : PL) : Prop where
  at_ : ∀ id zd, D.atKey (pkK id) zd = match pkFind L id with
    | some o => oneD o.wt o.sc o.wants
    | none => zd
  size : Maps.size D = L.length
theorem PkR.none_ {D : Dat} {L : PL} (h : PkR D L) {id : Int} (hf : pkFind L id = none) : Maps.has D (pkK id) = false :=
  has_false_of_atKey (fun z => by rw [h.at_, hf])
theorem PkR.some_ {D : Dat} {L : PL} (h : PkR D L) {id : Int} {o : PkO} (hf : pkFind L id = some o) : Maps.has D (pkK id) = true :=
  has_true_of_atKey (y := oneD o.wt o.sc o.wants) (fun z => by rw [h.at_, hf])
theorem PkR.has {D : Dat} {L : PL} (h : PkR D L) (id : Int) : Maps.has D (pkK id) = (pkFind L id).isSome := by
  cases e : pkFind L id with
  | none => exact h.none_ e
  | some o => exact h.some_ e
theorem pkR_nil : PkR (.map []) [] := ⟨fun _ _ => rfl, rfl⟩
/-- An entry that comes out is one of them. -/
theorem PkR.entry {D : Dat} {L : PL} (h : PkR D L) {id wt sc : Int} {wn : Bool} (ha : ∀ zd, D.atKey (pkK id) zd = oneD wt sc wn) : ∃ o ∈ L, o.id = id ∧ o.wt = wt ∧ o.sc = sc ∧ o.wants = wn := by
  cases e : pkFind L id with
  | none =>
    have h1 := ha (.agg [])
    rw [h.at_, e] at h1
    simp [oneD] at h1
  | some o =>
    have h1 := ha (.agg [])
    rw [h.at_, e] at h1
    obtain ⟨a, b, c⟩ := oneD_inj h1
    exact ⟨o, (find_some e).1, (find_some e).2, a, b, c⟩
theorem pkK_ne {a b : Int} (h : a ≠ b) : pkK a ≠ pkK b := by
  unfold pkK
  simpa using h
theorem find_map {L : PL} {id : Int} {f : PkO → PkO} (hf : ∀ o, (f o).id = o.id) (i : Int) : pkFind (pkMap L id f) i = if i = id then (pkFind L id).map f else pkFind L i := by
  unfold pkFind pkMap
  induction L with
  | nil => simp
  | cons x r ih =>
    rw [List.map_cons]
    by_cases hx : x.id = id
    · rw [if_pos hx]
      by_cases hi : i = id
      · subst hi
        rw [if_pos rfl, List.find?_cons_of_pos (by simp [hf, hx]), List.find?_cons_of_pos (by simp [hx])]
        rfl
      · rw [if_neg hi, List.find?_cons_of_neg (by simp [hf, hx]; exact fun e => hi e.symm), List.find?_cons_of_neg (by simp [hx]; exact fun e => hi e.symm), ih, if_neg hi]
    · rw [if_neg hx]
      by_cases hi : x.id = i
      · have hne : ¬ i = id := fun e => hx (hi.trans e)
        simp [List.find?, hi, hne]
      · simp only [List.find?, decide_eq_false hi, decide_eq_false hx, ih]
theorem find_app (L : PL) (o : PkO) (i : Int) (hn : pkFind L o.id = none) : pkFind (L ++ [o]) i = if i = o.id then some o else pkFind L i := by
  by_cases hi : i = o.id
  · subst hi
    unfold pkFind at *
    rw [if_pos rfl, List.find?_append, hn]
    simp
  · rw [if_neg hi]
    unfold pkFind
    rw [List.find?_append]
    have : List.find? (fun x : PkO => decide (x.id = i)) [o] = none := by
      simp
      exact fun e => hi e.symm
    rw [this]
    simp
theorem find_drop (L : PL) (id i : Int) : pkFind (dropL L id) i = if i = id then none else pkFind L i := by
  by_cases hi : i = id
  · subst hi
    rw [if_pos rfl, find_none]
    intro o ho
    unfold dropL at ho
    simpa using (List.mem_filter.1 ho).2
  · rw [if_neg hi]
    unfold pkFind dropL
    rw [find_filter_keep]
    intro p hp
    simp only [decide_eq_true_eq] at hp
    simp
    rw [hp]
    exact hi
theorem pk_drop_none {L : PL} {id : Int} (h : ∀ o ∈ L, o.id ≠ id) : dropL L id = L := by
  unfold dropL
  rw [List.filter_eq_self]
  intro o ho
  simpa using h o ho
theorem drop_len {L : PL} (hn : (L.map PkO.id).Nodup) {id : Int} {o : PkO} (hf : pkFind L id = some o) : (dropL L id).length + 1 = L.length := by
  induction L with
  | nil => cases hf
  | cons x r ih =>
    rw [List.map_cons, List.nodup_cons] at hn
    by_cases hx : x.id = id
    · have h1 : dropL (x :: r) id = r := by
        unfold dropL
        rw [List.filter_cons_of_neg (by simp [hx])]
        exact pk_drop_none (fun y hy e => hn.1 (by rw [hx, ← e]; exact List.mem_map_of_mem (f := PkO.id) hy))
      rw [h1, List.length_cons]
    · have h1 : dropL (x :: r) id = x :: dropL r id := by
        unfold dropL
        rw [List.filter_cons_of_pos (by simp [hx])]
      have h2 : pkFind r id = some o := by
        unfold pkFind at hf ⊢
        rwa [List.find?_cons_of_neg (by simp [hx])] at hf
      rw [h1, List.length_cons, List.length_cons, ih hn.2 h2]
theorem PkR.add {D : Dat} {L : PL} (h : PkR D L) (ht : Tidy D) {id wt sc : Int} {wn : Bool} (hn : pkFind L id = none) : PkR (D.put (pkK id) (oneD wt sc wn)) (L ++ [⟨id, wt, sc, wn⟩]) := by
  refine ⟨fun i zd => ?_, ?_⟩
  · rw [find_app L ⟨id, wt, sc, wn⟩ i hn]
    by_cases hi : i = id
    · subst hi
      rw [if_pos rfl, atKey_put_same (k := pkK _) ht.isMap trivial]
    · rw [if_neg hi, atKey_put_other (pkK_ne hi), h.at_]
  · rw [size_put ht, h.none_ hn, h.size]
    simp
theorem PkR.turn {D : Dat} {L : PL} (h : PkR D L) (ht : Tidy D) {id : Int} {f : PkO → PkO} (hf : ∀ o, (f o).id = o.id) {o : PkO} (ho : pkFind L id = some o) : PkR (D.put (pkK id) (oneD (f o).wt (f o).sc (f o).wants)) (pkMap L id f) := by
  refine ⟨fun i zd => ?_, ?_⟩
  · rw [find_map hf i]
    by_cases hi : i = id
    · subst hi
      rw [if_pos rfl, atKey_put_same (k := pkK _) ht.isMap trivial, ho]
      rfl
    · rw [if_neg hi, atKey_put_other (pkK_ne hi), h.at_]
  · rw [size_put ht, h.some_ ho, h.size]
    simp [pkMap]
theorem PkR.drop {D : Dat} {L : PL} (h : PkR D L) (ht : Tidy D) (hn : (L.map PkO.id).Nodup) {id : Int} {o : PkO} (ho : pkFind L id = some o) : PkR (D.del (pkK id)) (dropL L id) := by
  refine ⟨fun i zd => ?_, ?_⟩
  · rw [find_drop]
    by_cases hi : i = id
    · subst hi
      rw [if_pos rfl, atKey_del_same]
    · rw [if_neg hi, atKey_del_other (pkK_ne hi), h.at_]
  · have h1 := size_del (k := pkK id) ht
    rw [h.some_ ho, h.size] at h1
    have h2 := drop_len hn ho
    simp at h1
    omega
theorem own_tight {P : Program} {k : TypeId} {R : Value → Option (Dat × List MemPlace)} {w : World} {b n : Nat} {D : Dat} (h : w.ownsMap P k R b n D) : w.ownsMap P k R b (Maps.size D) D := by
  obtain ⟨es, clock, hb, F, _, hD⟩ := h
  refine ⟨es, clock, hb, F, ?_, hD⟩
  rw [hD]
  simp [Maps.size, length_sorted]
/-- The picker in memory: a struct of one cell, and its map. -/
structure PkM (w : World) (pb mb : Nat) (D : Dat) (L : PL) : Prop where
  c0 : w.cell? ⟨pb, 0, none⟩ = some (.map (some mb))
  ne : mb ≠ pb
  own : w.ownsMap Tryd.prog 3 oneElem mb L.length D
  rel : PkR D L
def Two2 (pb mb k : Nat) : Prop := k = pb ∨ k = mb
def PkP : PkD := fun w pb L S => ∃ mb D, PkM w pb mb D L ∧ S = Two2 pb mb
theorem PkM.lt {w : World} {pb mb : Nat} {D : Dat} {L : PL} (h : PkM w pb mb D L) : pb < w.heap.size ∧ mb < w.heap.size := ⟨blk_of_cell h.c0, h.own.lt⟩
theorem PkM.kept {w w' : World} {pb mb : Nat} {D : Dat} {L : PL} (h : PkM w pb mb D L) (e1 : w'.heap[pb]? = w.heap[pb]?) (e2 : w'.heap[mb]? = w.heap[mb]?) : PkM w' pb mb D L := by
  obtain ⟨es, clock, hb, r⟩ := h.own
  exact ⟨(World.cell?_of_block (a := ⟨pb, 0, none⟩) e1).trans h.c0, h.ne, ⟨es, clock, e2.trans hb, r⟩, h.rel⟩
theorem PkM.below {w w' : World} {pb mb : Nat} {D : Dat} {L : PL} (h : PkM w pb mb D L) {B : Nat} (hB : w.heap.size ≤ B) (hb : Below B w w') : PkM w' pb mb D L :=
  h.kept (hb.block _ (Nat.lt_of_lt_of_le h.lt.1 hB)) (hb.block _ (Nat.lt_of_lt_of_le h.lt.2 hB))
theorem PkM.drew {w : World} {pb mb : Nat} {D : Dat} {L : PL} (h : PkM w pb mb D L) : PkM w.drew pb mb D L := h.kept rfl rfl
theorem PkM.alloc {w : World} {pb mb : Nat} {D : Dat} {L : PL} (h : PkM w pb mb D L) (o : Obj) : PkM (w.alloc o) pb mb D L := h.below (Nat.le_refl _) ((Below.refl _ w).alloc (Nat.le_refl _) o)
theorem PkM.turn {w w' : World} {pb mb n' : Nat} {D D' : Dat} {L L' : PL} (h : PkM w pb mb D L) (ho : w'.ownsMap Tryd.prog 3 oneElem mb n' D') (hr : PkR D' L') (hg : w.grownBy w' (some mb)) : PkM w' pb mb D' L' := by
  have e1 := hg.block pb h.lt.1 (fun e => h.ne (Option.some.inj e).symm)
  exact ⟨(World.cell?_of_block (a := ⟨pb, 0, none⟩) e1).trans h.c0, h.ne, by rw [← hr.size]; exact own_tight ho, hr⟩
theorem tn_grown {S : Nat → Prop} {w w' : World} {row : Option Nat} (h : w.grownBy w' row) (hr : ∀ k, row = some k → S k) : Tn S w w' :=
  ⟨h.os, h.tape, h.output, h.size, fun k hk hs => h.block k hk (fun e => hs (hr k e.symm))⟩
theorem tn_then {S : Nat → Prop} {a b c : World} (h : Below a.heap.size a b) (k : Tn S b c) : Tn S a c :=
  ⟨k.os.trans h.os, k.tape.trans h.tape, k.output.trans h.output, Nat.le_trans h.size k.size, fun i hi hs => (k.block i (Nat.lt_of_lt_of_le hi h.size) hs).trans (h.block i hi)⟩
theorem pkKeeps : PkKeeps PkP := by
  refine ⟨?_, ?_⟩
  · rintro w pb L S ⟨mb, D, h, rfl⟩ k (rfl | rfl)
    · exact h.lt.1
    · exact h.lt.2
  · rintro w w' pb L S ⟨mb, D, h, rfl⟩ hk
    exact ⟨mb, D, h.kept (hk _ (Or.inl rfl)) (hk _ (Or.inr rfl)), rfl⟩
theorem kzero (w : World) : (zeroValue 52).run Tryd.prog w = .ok (oneV 0 0 false) w := by kernel_rfl
theorem pnew_any : PNewSaid PkP := by
  intro w
  have hmm := @run_makeMap Tryd.prog
  have HP : Vl (PkM ((w.alloc (.map #[] 0)).alloc (.cells #[.map (some w.heap.size)] 48)) (w.heap.size + 1) w.heap.size (.map []) []) :=
    have hx : ((w.alloc (.map #[] 0)).alloc (.cells #[.map (some w.heap.size)] 48)).heap[w.heap.size + 1]? = some (.cells #[.map (some w.heap.size)] 48 (0, 0)) := by
      have := heap_alloc_new (w.alloc (.map #[] 0)) (.cells #[.map (some w.heap.size)] 48)
      rwa [World.size_alloc] at this
    ⟨by simp only [World.cell?, hx]; rfl, by omega, (World.ownsMap_made w _ _ _).alloc _, pkR_nil⟩
  have HB : Vl (Below w.heap.size w ((w.alloc (.map #[] 0)).alloc (.cells #[.map (some w.heap.size)] 48))) := ((Below.refl _ w).alloc (Nat.le_refl _) _).alloc (by simp) _
  go_enter Tryd.func4, Tryd.ntmps4
  go_wp2
  go_ret
  exact ⟨w.heap.size + 1, Two2 (w.heap.size + 1) w.heap.size, rfl, HB.out, ⟨_, _, HP.out, rfl⟩, fun k hk => by rcases hk with rfl | rfl <;> omega⟩
end Go.Proofs.YtbhjgpbdfcppkaeDoor
