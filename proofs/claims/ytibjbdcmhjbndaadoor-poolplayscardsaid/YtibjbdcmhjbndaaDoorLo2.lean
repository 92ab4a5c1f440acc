/-
  CONNECTIONS TO PLACES, as the developers keep them: what a pool is in memory, and what its maps say of its ids. No claim by itself.
-/
import Derived.Test.YtibjbdcmhjbndaaDoorLo1
import Derived.Test.YtibjbdcmhjbndaaDoorWspec0
import Derived.Maps.OwnSet
import Derived.Maps.OwnOps
import Derived.Maps.Views
import Derived.Maps.RangeWalk
namespace Go.Proofs.YtibjbdcmhjbndaaDoor
open Go.RowKit Go.Maps
set_option maxRecDepth 100000
abbrev Dat := DataW Unit
theorem klaw : Keyed Tryd.prog 3 := int_keyed Tryd.underlying3
abbrev LV := ByteArray × Int × Int
def lkV (v : LV) : Value := .agg #[.string v.1, .int .i64 v.2.1, .int .i64 v.2.2]
def lkD (v : LV) : Dat := .agg [.lit (.string v.1.data.toList), .lit (.int .i64 v.2.1), .lit (.int .i64 v.2.2)]
/-- How an element of the maps reads. -/
def lkElem : Value → Option (Dat × List MemPlace)
  | .agg cs => match cs.toList with
    | [.string s, .int .i64 t, .int .i64 a] => some (lkD (s, t, a), [])
    | _ => none
  | _ => none
theorem lkElem_mk (v : LV) : lkElem (lkV v) = some (lkD v, []) := rfl
theorem lkElem_inv {v : Value} {y : Dat × List MemPlace} (h : lkElem v = some y) : ∃ c, v = lkV c ∧ y = (lkD c, []) := by
  unfold lkElem at h
  split at h
  · rename_i cs
    split at h
    · rename_i s t a hc
      cases h
      refine ⟨(s, t, a), ?_, rfl⟩
      unfold lkV
      congr 1
      apply Array.ext'
      rw [hc]
    · cases h
  · cases h
theorem lkD_inj {a b : LV} (h : lkD a = lkD b) : a = b := by
  obtain ⟨⟨⟨a1⟩⟩, a2, a3⟩ := a
  obtain ⟨⟨⟨b1⟩⟩, b2, b3⟩ := b
  unfold lkD at h
  simp at h
  obtain ⟨h1, h2, h3⟩ := h
  subst h1 h2 h3
  rfl
def pkK (id : Int) : Lit := .int .i64 id
theorem pkK_ne {a b : Int} (h : a ≠ b) : pkK a ≠ pkK b := by
  unfold pkK
  simpa using h
theorem same_pk (a b : Int) : (pkK a).sameKey (pkK b) = decide (a = b) := by
  by_cases e : a = b
  · subst e
    rw [WideAt.sameKey_self (a := pkK a) trivial]
    simp
  · rw [sameKey_ne (pkK_ne e)]
    simp [e]
def Ix64 (a : Int) : Prop := -9223372036854775808 ≤ a ∧ a ≤ 9223372036854775807
theorem owf64 {a : Int} (h : Ix64 a) : (Lit.int .i64 a).wf = true := by
  unfold Ix64 at h
  simp [Lit.wf, IntKind.min, IntKind.max, IntKind.bits, IntKind.signed]
  omega
theorem okey64 {a : Int} (h : Ix64 a) : keyOf Tryd.prog 3 (.int .i64 a) = some (pkK a) := keyOf_int_mk Tryd.underlying3 (owf64 h)
/-- What a map says: of which ids what. -/
abbrev LF := Int → Option LV
def lfPut (f : LF) (id : Int) (v : Option LV) : LF := fun i => if i = id then v else f i
structure MF (D : Dat) (f : LF) (n : Nat) : Prop where
  at_ : ∀ id zd, D.atKey (pkK id) zd = match f id with
    | some v => lkD v
    | none => zd
  size : Maps.size D = n
theorem mf_nil : MF (.map []) (fun _ => none) 0 := ⟨fun _ _ => rfl, rfl⟩
section
variable {D : Dat} {f : LF} {n : Nat} (h : MF D f n)
include h
theorem MF.none_ {id : Int} (hf : f id = none) : Maps.has D (pkK id) = false := has_false_of_atKey (fun z => by rw [h.at_, hf])
theorem MF.some_ {id : Int} {v : LV} (hf : f id = some v) : Maps.has D (pkK id) = true := has_true_of_atKey (y := lkD v) (fun z => by rw [h.at_, hf])
theorem MF.has (id : Int) : Maps.has D (pkK id) = (f id).isSome := by
  cases e : f id with
  | none => exact h.none_ e
  | some o => exact h.some_ e
theorem MF.put (ht : Tidy D) (id : Int) (v : LV) : MF (D.put (pkK id) (lkD v)) (lfPut f id (some v)) (if (f id).isSome then n else n + 1) := by
  refine ⟨fun i zd => ?_, ?_⟩
  · unfold lfPut
    by_cases hi : i = id
    · subst hi
      rw [if_pos rfl, atKey_put_same (k := pkK _) ht.isMap trivial]
    · rw [if_neg hi, atKey_put_other (pkK_ne hi), h.at_]
  · rw [size_put ht, h.has, h.size]
theorem MF.del (ht : Tidy D) (id : Int) : MF (D.del (pkK id)) (lfPut f id none) (if (f id).isSome then n - 1 else n) := by
  refine ⟨fun i zd => ?_, ?_⟩
  · unfold lfPut
    by_cases hi : i = id
    · subst hi
      rw [if_pos rfl, atKey_del_same]
    · rw [if_neg hi, atKey_del_other (pkK_ne hi), h.at_]
  · have h1 := size_del (k := pkK id) ht
    rw [h.has, h.size] at h1
    cases e : f id with
    | none => rw [e] at h1; simpa using h1
    | some o => rw [e] at h1; simp at h1 ⊢; omega
theorem MF.congr {g : LF} {m : Nat} (hg : ∀ i, g i = f i) (hm : m = n) : MF D g m := by
  rw [show g = f from funext hg, hm]; exact h
end
/-- What the two maps say. -/
def bV (o : Lk) : LV := (o.to, 0, 0)
def iV (o : Lk) : LV := (o.to, o.turn, o.at_)
def fB (L : LL) : LF := fun id => match lkFind L id with
  | some o => if o.busy = true then some (bV o) else none
  | none => none
def fI (L : LL) : LF := fun id => match lkFind L id with
  | some o => if o.busy = true then none else some (iV o)
  | none => none
theorem fB_some {L : LL} {id : Int} {o : Lk} (h : lkFind L id = some o) (hb : o.busy = true) : fB L id = some (bV o) := by unfold fB; rw [h]; simp [hb]
theorem fB_no {L : LL} {id : Int} (h : busyF L id = false) : fB L id = none := by
  unfold busyF at h
  unfold fB
  cases e : lkFind L id with
  | none => rfl
  | some o => rw [e] at h; simp only at h; simp [h]
theorem fI_some {L : LL} {id : Int} {o : Lk} (h : lkFind L id = some o) (hb : o.busy = false) : fI L id = some (iV o) := by unfold fI; rw [h]; simp [hb]
theorem fI_busy {L : LL} {id : Int} {o : Lk} (h : lkFind L id = some o) (hb : o.busy = true) : fI L id = none := by unfold fI; rw [h]; simp [hb]
theorem fI_none {L : LL} {id : Int} (h : lkFind L id = none) : fI L id = none := by unfold fI; rw [h]
theorem fB_none {L : LL} {id : Int} (h : lkFind L id = none) : fB L id = none := by unfold fB; rw [h]
/- how the counts go -/
theorem cnt_map (L : LL) (hn : (L.map Lk.id).Nodup) {o : Lk} (ho : o ∈ L) (f : Lk → Lk) (p : Lk → Bool) : ((mapK L o.id f).filter p).length + (if p o then 1 else 0) = (L.filter p).length + (if p (f o) then 1 else 0) := by
  induction L with
  | nil => cases ho
  | cons x r ih =>
    rw [List.map_cons, List.nodup_cons] at hn
    by_cases e : x.id = o.id
    · have hr : mapK r o.id f = r := by
        unfold mapK
        conv => rhs; rw [← List.map_id r]
        apply List.map_congr_left
        intro y hy
        have : y.id ≠ o.id := fun h => hn.1 (by rw [e, ← h]; exact List.mem_map_of_mem (f := Lk.id) hy)
        rw [if_neg this]
        rfl
      have hx : o = x := by
        rcases List.mem_cons.1 ho with h | h
        · exact h
        · exact absurd (by rw [e]; exact List.mem_map_of_mem (f := Lk.id) h) hn.1
      subst hx
      have : mapK (o :: r) o.id f = f o :: r := by
        unfold mapK at hr ⊢
        rw [List.map_cons, if_pos rfl, hr]
      rw [this, List.filter_cons, List.filter_cons]
      cases p o <;> cases p (f o) <;> simp <;> omega
    · have hx : o ∈ r := by
        rcases List.mem_cons.1 ho with h | h
        · exact absurd (by rw [h]) e
        · exact h
      have h1 := ih hn.2 hx
      have : mapK (x :: r) o.id f = x :: mapK r o.id f := by
        unfold mapK
        rw [List.map_cons, if_neg e]
      rw [this, List.filter_cons, List.filter_cons]
      cases p x <;> simp <;> omega
theorem cnt_drop (L : LL) (hn : (L.map Lk.id).Nodup) {o : Lk} (ho : o ∈ L) (p : Lk → Bool) : ((dropK L o.id).filter p).length + (if p o then 1 else 0) = (L.filter p).length := by
  induction L with
  | nil => cases ho
  | cons x r ih =>
    rw [List.map_cons, List.nodup_cons] at hn
    by_cases e : x.id = o.id
    · have hr : dropK r o.id = r := by
        unfold dropK
        rw [List.filter_eq_self]
        intro y hy
        have : y.id ≠ o.id := fun h => hn.1 (by rw [e, ← h]; exact List.mem_map_of_mem (f := Lk.id) hy)
        simpa using this
      have hx : o = x := by
        rcases List.mem_cons.1 ho with h | h
        · exact h
        · exact absurd (by rw [e]; exact List.mem_map_of_mem (f := Lk.id) h) hn.1
      subst hx
      have : dropK (o :: r) o.id = r := by
        unfold dropK at hr ⊢
        rw [List.filter_cons_of_neg (by simp), hr]
      rw [this, List.filter_cons]
      cases p o <;> simp
    · have hx : o ∈ r := by
        rcases List.mem_cons.1 ho with h | h
        · exact absurd (by rw [h]) e
        · exact h
      have h1 := ih hn.2 hx
      have : dropK (x :: r) o.id = x :: dropK r o.id := by
        unfold dropK
        rw [List.filter_cons_of_pos (by simp [e])]
      rw [this, List.filter_cons, List.filter_cons]
      cases p x <;> simp <;> omega
/-- The pool in memory: a struct of six cells, and its two maps. -/
structure PoM (w : World) (pb bb ib : Nat) (DB DI : Dat) (S : Po) : Prop where
  blk : w.heap[pb]? = some (.cells #[.int .i64 S.many, .int .i64 S.last, .int .i64 S.turn, .int .i64 S.now, .map (some bb), .map (some ib)] 56 (0, 0))
  n1 : bb ≠ pb
  n2 : ib ≠ pb
  n3 : bb ≠ ib
  ownB : w.ownsMap Tryd.prog 3 lkElem bb (nB S.L) DB
  ownI : w.ownsMap Tryd.prog 3 lkElem ib (nI S.L) DI
  relB : MF DB (fB S.L) (nB S.L)
  relI : MF DI (fI S.L) (nI S.L)
def Po3 (pb bb ib k : Nat) : Prop := k = pb ∨ k = bb ∨ k = ib
def PoP (w : World) (pb : Nat) (S : Po) (F : Nat → Prop) : Prop := ∃ bb ib DB DI, PoM w pb bb ib DB DI S ∧ F = Po3 pb bb ib
theorem map_tight {P : Program} {k : TypeId} {R : Value → Option (Dat × List MemPlace)} {w : World} {b n : Nat} {D : Dat} (h : w.ownsMap P k R b n D) : w.ownsMap P k R b (Maps.size D) D := by
  obtain ⟨es, clock, hb, F, _, hD⟩ := h
  refine ⟨es, clock, hb, F, ?_, hD⟩
  rw [hD]
  simp [Maps.size, length_sorted]
theorem own_block {P : Program} {k : TypeId} {R : Value → Option (Dat × List MemPlace)} {w w' : World} {b n : Nat} {D : Dat} (h : w.ownsMap P k R b n D) (e : w'.heap[b]? = w.heap[b]?) : w'.ownsMap P k R b n D := by
  obtain ⟨es, clock, hb, r⟩ := h
  exact ⟨es, clock, e.trans hb, r⟩
section
variable {w w' : World} {pb bb ib : Nat} {DB DI : Dat} {S : Po} (h : PoM w pb bb ib DB DI S)
include h
theorem PoM.lt0 : pb < w.heap.size := (Array.getElem?_eq_some_iff.1 h.blk).1
theorem PoM.lt : pb < w.heap.size ∧ bb < w.heap.size ∧ ib < w.heap.size := ⟨h.lt0, h.ownB.lt, h.ownI.lt⟩
theorem PoM.kept (e1 : w'.heap[pb]? = w.heap[pb]?) (e2 : w'.heap[bb]? = w.heap[bb]?) (e3 : w'.heap[ib]? = w.heap[ib]?) : PoM w' pb bb ib DB DI S :=
  ⟨e1.trans h.blk, h.n1, h.n2, h.n3, own_block h.ownB e2, own_block h.ownI e3, h.relB, h.relI⟩
theorem PoM.below {B : Nat} (hB : w.heap.size ≤ B) (hb : Below B w w') : PoM w' pb bb ib DB DI S :=
  h.kept (hb.block _ (Nat.lt_of_lt_of_le h.lt.1 hB)) (hb.block _ (Nat.lt_of_lt_of_le h.lt.2.1 hB)) (hb.block _ (Nat.lt_of_lt_of_le h.lt.2.2 hB))
theorem PoM.cells : w.cell? ⟨pb, 0, none⟩ = some (.int .i64 S.many) ∧ w.cell? ⟨pb, 1, none⟩ = some (.int .i64 S.last) ∧ w.cell? ⟨pb, 2, none⟩ = some (.int .i64 S.turn) ∧ w.cell? ⟨pb, 3, none⟩ = some (.int .i64 S.now) ∧ w.cell? ⟨pb, 4, none⟩ = some (.map (some bb)) ∧ w.cell? ⟨pb, 5, none⟩ = some (.map (some ib)) ∧ ∀ j, w.frozen? ⟨pb, j, none⟩ = false := by
  have hb := h.blk
  refine ⟨?_, ?_, ?_, ?_, ?_, ?_, fun j => by simp [World.frozen?, hb]⟩ <;> (simp only [World.cell?, hb]; rfl)
end
theorem poP_lt {w : World} {pb : Nat} {S : Po} {F : Nat → Prop} (h : PoP w pb S F) : ∀ k, F k → k < w.heap.size := by
  obtain ⟨bb, ib, DB, DI, h, rfl⟩ := h
  rintro k (rfl | rfl | rfl)
  · exact h.lt.1
  · exact h.lt.2.1
  · exact h.lt.2.2
theorem poP_frame {w w' : World} {pb : Nat} {S : Po} {F : Nat → Prop} (h : PoP w pb S F) (hk : ∀ k, F k → w'.heap[k]? = w.heap[k]?) : PoP w' pb S F := by
  obtain ⟨bb, ib, DB, DI, h, rfl⟩ := h
  exact ⟨bb, ib, DB, DI, h.kept (hk _ (Or.inl rfl)) (hk _ (Or.inr (Or.inl rfl))) (hk _ (Or.inr (Or.inr rfl))), rfl⟩
theorem poP_below {w w' : World} {pb : Nat} {S : Po} {F : Nat → Prop} (h : PoP w pb S F) (hb : Below w.heap.size w w') : PoP w' pb S F :=
  poP_frame h (fun k hk => hb.block k (poP_lt h k hk))
def pptr (pb : Nat) : Value := .pointer (some ⟨pb, 0, none⟩)
theorem lkzero (w : World) : (zeroValue 65).run Tryd.prog w = .ok (lkV (⟨#[]⟩, 0, 0)) w := by kernel_rfl
section
variable {w : World} {b n : Nat} {D : Dat} {f : LF} {m : Nat} (ho : w.ownsMap Tryd.prog 3 lkElem b n D) (hr : MF D f m) {id : Int} (hi : Ix64 id)
include ho hr hi
theorem look_v {v : LV} (hf : f id = some v) : (Instr.lookup 54 (.map (some b)) (.int .i64 id) false).run Tryd.prog w = .ok (lkV v) w := by
  obtain ⟨x, ps, hrun, hv⟩ := ho.lookup klaw Tryd.underlying54 (lkzero w) (lkElem_mk _) (okey64 hi)
  rw [hr.at_, hf] at hv
  obtain ⟨c, rfl, e⟩ := lkElem_inv hv
  rw [lkD_inj (congrArg Prod.fst e)]
  exact hrun
theorem look_ok {v : LV} (hf : f id = some v) : (Instr.lookup 54 (.map (some b)) (.int .i64 id) true).run Tryd.prog w = .ok (.tuple #[lkV v, .bool true]) w := by
  obtain ⟨x, ps, hrun, hv⟩ := ho.look_ok klaw Tryd.underlying54 (lkzero w) (lkElem_mk _) (okey64 hi)
  rw [hr.some_ hf] at hrun
  rw [hr.at_, hf] at hv
  obtain ⟨c, rfl, e⟩ := lkElem_inv hv
  rw [lkD_inj (congrArg Prod.fst e)]
  exact hrun
theorem look_no (hf : f id = none) : (Instr.lookup 54 (.map (some b)) (.int .i64 id) true).run Tryd.prog w = .ok (.tuple #[lkV (⟨#[]⟩, 0, 0), .bool false]) w := by
  obtain ⟨x, ps, hrun, hv⟩ := ho.look_ok klaw Tryd.underlying54 (lkzero w) (lkElem_mk _) (okey64 hi)
  rw [hr.none_ hf] at hrun
  rw [hr.at_, hf] at hv
  obtain ⟨c, rfl, e⟩ := lkElem_inv hv
  rw [← lkD_inj (congrArg Prod.fst e)] at hrun
  exact hrun
theorem map_put (hn : n ≤ 1000) (v : LV) : ∃ w', (Instr.mapUpdate 54 (.map (some b)) (.int .i64 id) (lkV v)).run Tryd.prog w = .ok () w' ∧ w'.ownsMap Tryd.prog 3 lkElem b (if (f id).isSome then m else m + 1) (D.put (pkK id) (lkD v)) ∧ MF (D.put (pkK id) (lkD v)) (lfPut f id (some v)) (if (f id).isSome then m else m + 1) ∧ w.grownBy w' (some b) := by
  obtain ⟨w', h1, h2, h3⟩ := ho.update klaw Tryd.underlying54 (by unfold maxLen; omega) (okey64 hi) (lkElem_mk v)
  have hm := hr.put (ho.tidy klaw) id v
  exact ⟨w', h1, by have := map_tight h2; rwa [hm.size] at this, hm, h3⟩
end
theorem istime_any (n : Int) (w : World) : Calls Tryd.prog 22 #[.int .i64 n] w fun e w' => e = .returned (.bool (decide (0 ≤ n ∧ n ≤ 1000000))) ∧ w = w' := by
  by_cases h1 : 0 ≤ n <;> by_cases h2 : n ≤ 1000000 <;> simp only [h1, h2, and_true, and_false, decide_true, decide_false] <;>
  (go_enter Tryd.func22, Tryd.ntmps22; go_wp2; go_ret; exact ⟨rfl, rfl⟩)
/-- What New answers. -/
def ONewE (many : Int) (w : World) (e : Ending) (w' : World) : Prop := Below w.heap.size w w' ∧
  ((1 ≤ many ∧ many ≤ 8 ∧ ∃ pb F, e = .returned (.tuple #[pptr pb, .nilIface]) ∧ PoP w' pb (po0 many) F ∧ (∀ k, F k → w.heap.size ≤ k) ∧ w.heap.size ≤ pb) ∨
   (¬ (1 ≤ many ∧ many ≤ 8) ∧ e = .returned (.tuple #[.pointer none, .iface 53 (.int .i64 1)])))
theorem po_made (w : World) (many : Int) : PoM (((w.alloc (.map #[] 0)).alloc (.map #[] 0)).alloc (.cells #[.int .i64 many, .int .i64 0, .int .i64 0, .int .i64 0, .map (some w.heap.size), .map (some (w.heap.size + 1))] 56)) (w.heap.size + 2) w.heap.size (w.heap.size + 1) (.map []) (.map []) (po0 many) := by
  have hx : (((w.alloc (.map #[] 0)).alloc (.map #[] 0)).alloc (.cells #[.int .i64 many, .int .i64 0, .int .i64 0, .int .i64 0, .map (some w.heap.size), .map (some (w.heap.size + 1))] 56)).heap[w.heap.size + 2]? = some (.cells #[.int .i64 many, .int .i64 0, .int .i64 0, .int .i64 0, .map (some w.heap.size), .map (some (w.heap.size + 1))] 56 (0, 0)) := by
    have := heap_alloc_new ((w.alloc (.map #[] 0)).alloc (.map #[] 0)) (.cells #[.int .i64 many, .int .i64 0, .int .i64 0, .int .i64 0, .map (some w.heap.size), .map (some (w.heap.size + 1))] 56)
    simp only [World.size_alloc] at this
    exact this
  refine ⟨hx, by omega, by omega, by omega, ((World.ownsMap_made w _ _ _).alloc _).alloc _, ?_, mf_nil, mf_nil⟩
  have := World.ownsMap_made (H := Unit) (w.alloc (.map #[] 0)) Tryd.prog 3 lkElem
  rw [World.size_alloc] at this
  exact this.alloc _
set_option maxHeartbeats 1000000 in
theorem onew_any (many : Int) (w : World) : Calls Tryd.prog 5 #[.int .i64 many] w (ONewE many w) := by
  by_cases h1 : many < 1
  · have HF : Vl (ONewE many w (.returned (.tuple #[.pointer none, .iface 53 (.int .i64 1)])) w) := ⟨Below.refl _ _, Or.inr ⟨by omega, rfl⟩⟩
    go_enter Tryd.func5, Tryd.ntmps5
    go_wp2
    go_ret2
    exact HF.out
  by_cases h2 : 8 < many
  · have HF : Vl (ONewE many w (.returned (.tuple #[.pointer none, .iface 53 (.int .i64 1)])) w) := ⟨Below.refl _ _, Or.inr ⟨by omega, rfl⟩⟩
    go_enter Tryd.func5, Tryd.ntmps5
    go_wp2
    go_ret2
    exact HF.out
  have h1' : 1 ≤ many := by omega
  have h2' : many ≤ 8 := by omega
  have hmm := @run_makeMap Tryd.prog
  have HP := vl (po_made w many)
  have HB : Vl (Below w.heap.size w (((w.alloc (.map #[] 0)).alloc (.map #[] 0)).alloc (.cells #[.int .i64 many, .int .i64 0, .int .i64 0, .int .i64 0, .map (some w.heap.size), .map (some (w.heap.size + 1))] 56))) := vl ((((Below.refl _ w).alloc (Nat.le_refl _) _).alloc (by simp) _).alloc (by simp; omega) _)
  go_enter Tryd.func5, Tryd.ntmps5
  go_wp2
  go_ret2
  exact ⟨HB.out, Or.inl ⟨h1', h2', w.heap.size + 2, _, rfl, ⟨_, _, _, _, HP.out, rfl⟩, fun k hk => by rcases hk with rfl | rfl | rfl <;> omega, by omega⟩⟩
end Go.Proofs.YtibjbdcmhjbndaaDoor
