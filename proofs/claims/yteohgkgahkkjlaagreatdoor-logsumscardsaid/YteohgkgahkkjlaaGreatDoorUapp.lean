/-
  BYTES AND TEXTS BEHIND BYTES: append, as one law each. No claim by itself.
-/
import Derived.Test.YteohgkgahkkjlaaGreatDoorUspec
import Derived.Lib.AppendStr
import Derived.Deep.DeepAppendWide
import Derived.Laws.AppendOwnNone
import Derived.Deep.AppendSrc
import Derived.Deep.MidRow
import Derived.Deep.Upon
namespace Go.Proofs.YteohgkgahkkjlaaGreatDoor
open Go.RowKit
set_option maxRecDepth 100000
theorem u_info5 : (Tryz.prog.info? 5).map (fun i => (i.zero, i.size, i.bytes)) = some (some (.int .u8 0), 1, 1) := by kernel_rfl
theorem u_news {w : World} {g off len cap : Nat} {Z : List Int} (h : Row w g off len cap Z) : ∀ j u, (Z.map (Value.int .u8))[j]? = some u → w.cell? ((⟨g, off, none⟩ : Addr).add j) = some u := by
  intro j u hj
  rw [List.getElem?_map] at hj
  have hl := h.hlen
  rcases Nat.lt_or_ge j Z.length with h1 | h1
  · rw [List.getElem?_eq_getElem h1] at hj
    have hc := h.hcell j (by omega)
    have hplain : (⟨g, off, none⟩ : Addr).add j = ⟨g, off + j, none⟩ := by unfold Addr.add; split <;> simp_all
    rw [hplain, hc, ← hj]
    simp [List.getD, List.getElem?_eq_getElem h1]
  · rw [List.getElem?_eq_none h1] at hj; simp at hj
theorem u_one (Z : List Int) : ∀ u ∈ Z.map (Value.int .u8), u.oneCell' = true := by
  intro u hu
  obtain ⟨z, _, rfl⟩ := List.mem_map.1 hu
  rfl
theorem UOwn.grown {w w' : World} {base : Nat} {v : Value} {L : List Int} (h : UOwn w base v L) {row : Option Nat} (hg : w.grownBy w' row) (hr : ∀ k, v.ownBlock = some k → row ≠ some k) : UOwn w' base v L :=
  h.block hg.size (fun k hk => hg.block k (h.base k hk).2 (fun e => hr k hk e.symm))
theorem u_below_grown {B : Nat} {a w w' : World} {row : Option Nat} (h : Below B a w) (g : w.grownBy w' row) (hB : B ≤ w.heap.size) (hr : ∀ k, row = some k → B ≤ k) : Below B a w' :=
  ⟨g.os.trans h.os, g.tape.trans h.tape, g.output.trans h.output, Nat.le_trans h.size g.size, fun i hi => (g.block i (Nat.lt_of_lt_of_le hi hB) (fun e => by have := hr i e.symm; omega)).trans (h.block i hi)⟩
def unums (s : ByteArray) : List Int := s.data.toList.map fun c => (c.toNat : Int)
theorem unums_len (s : ByteArray) : (unums s).length = s.size := by
  unfold unums
  rw [List.length_map, Array.length_toList]
  rfl
theorem u_cells (s : ByteArray) : Lib.strCells s = (unums s).map (Value.int .u8) := by
  unfold unums Lib.strCells
  rw [List.map_map]
  rfl
theorem setCells_size (w : World) (g o : Nat) (vs : List Value) : w.heap.size ≤ (w.setCells g o vs).heap.size := by
  induction vs generalizing w o with
  | nil => exact Nat.le_refl _
  | cons v r ih =>
    have h1 : Below g w (w.setCell ⟨g, o, none⟩ v) := (Below.refl g w).setCell (Nat.le_refl _) v
    exact Nat.le_trans h1.size (ih (w.setCell ⟨g, o, none⟩ v) (o + 1))
theorem setCells_grown (w : World) (g o : Nat) (vs : List Value) : w.grownBy (w.setCells g o vs) (some g) := by
  induction vs generalizing w o with
  | nil => exact ⟨rfl, rfl, rfl, Nat.le_refl _, fun _ _ _ => rfl⟩
  | cons v r ih =>
    have h1 : Below g w (w.setCell ⟨g, o, none⟩ v) := (Below.refl g w).setCell (Nat.le_refl _) v
    have h2 := ih (w.setCell ⟨g, o, none⟩ v) (o + 1)
    refine ⟨h2.os.trans h1.os, h2.tape.trans h1.tape, h2.output.trans h1.output, Nat.le_trans h1.size h2.size, fun i hi hne => ?_⟩
    show ((w.setCell ⟨g, o, none⟩ v).setCells g (o + 1) r).heap[i]? = _
    rw [h2.block i (Nat.lt_of_lt_of_le hi h1.size) hne]
    have hne' : g ≠ i := fun e => hne (by rw [e])
    unfold World.setCell
    rw [Array.getElem?_modify]
    simp [hne']
theorem u_getD {L Z : List Int} {t : Nat} : (L ++ Z).getD t 0 = if t < L.length then L.getD t 0 else Z.getD (t - L.length) 0 := by
  by_cases h : t < L.length
  · rw [if_pos h]; simp [List.getD, List.getElem?_append_left h]
  · rw [if_neg h]; simp [List.getD, List.getElem?_append_right (Nat.le_of_not_lt h)]
/-- 'append(b, x...)', whatever yields bytes. -/
theorem run_uapp {tx ty : TypeId} {base : Nat} {v : Value} {L Z : List Int} {x : Value} (w : World) (hown : UOwn w base v L) (hs : Src Tryz.prog 1 tx x Z.length (Z.map (Value.int .u8)) w) (hb : L.length + Z.length ≤ 211106232532992) (hbase : base ≤ w.heap.size) :
    ∃ v' w', (Builtin.append_ #[102, tx] ty #[v, x]).run Tryz.prog w = .ok v' w' ∧ UOwn w' base v' (L ++ Z) ∧ w.grownBy w' v.ownBlock := by
  obtain ⟨i0, hi, hz0, hz1, hz2⟩ := info_parts u_info5
  have hs' : Src Tryz.prog i0.size tx x Z.length (Z.map (Value.int .u8)) w := by rw [hz1]; exact hs
  have grow : ∀ (b0 : Option Addr) (cap : Nat), cap ≤ maxLen → (Builtin.firstCells i0.size L.length (.slice b0 L.length cap)).run Tryz.prog w.drew = .ok (L.map (Value.int .u8)).toArray w.drew → cap < L.length + Z.length →
      ∃ v' w', (Builtin.append_ #[102, tx] ty #[.slice b0 L.length cap, x]).run Tryz.prog w = .ok v' w' ∧ UOwn w' base v' (L ++ Z) ∧ w.grownBy w' (Value.ownBlock (.slice b0 L.length cap)) := by
    intro b0 cap hcm hold hlt
    have hr := run_append_grow_src (P := Tryz.prog) w 102 tx ty 5 i0 (.int .u8 0) Tryz.underlying102 hi hz0 b0 L.length cap (L.map (Value.int .u8)) hold x Z.length (Z.map (Value.int .u8)) hs' hlt (by omega) (by rw [hz2]; exact growslice_fits_wide (by omega) (by omega))
    have hbl := fun ob : Obj => (((Below.refl w.heap.size w).drew).alloc (Nat.le_refl _) ob : Below w.heap.size w (w.drew.alloc ob))
    refine ⟨_, _, hr, UOwn.of ?_, ⟨(hbl _).os, (hbl _).tape, (hbl _).output, (hbl _).size, fun k hk _ => (hbl _).block k hk⟩⟩
    have hge := grownCap_ge w (L.length + Z.length) cap 5
    have hcm2 : grownCap w (L.length + Z.length) cap 5 ≤ maxLen := grownCap_le_maxLen w (L.length + Z.length) cap 5 (by unfold maxLen; omega)
    rw [List.length_append]
    refine ⟨by simp, Or.inr ⟨w.heap.size, _, _, rfl, hbase, heap_alloc_new w.drew _, hge, hcm2, ?_, ?_⟩⟩
    · simp [size_zeroCells]
      have e1 : (Value.int .u8 0).cells.size = 1 := rfl
      simp only [e1]
      omega
    · simp
      rw [← List.append_assoc, List.take_append_of_le_length (by simp), List.take_of_length_le (by simp)]
  rcases hown with ⟨rfl, rfl⟩ | ⟨g, cap, rfl, h1, h2, h3, h4, h5, h6, h7⟩
  · by_cases hz : Z.length = 0
    · obtain rfl : Z = [] := List.eq_nil_of_length_eq_zero hz
      have hrun : (Builtin.append_ #[102, tx] ty #[.slice none 0 0, x]).run Tryz.prog w = .ok (.slice none 0 0) w := by
        have hfc := hs'.cells
        simp only [List.length_nil] at hfc
        rcases hs'.kind with ⟨e', hk⟩ | hk <;> simp [Builtin.append_, run_underlying Tryz.underlying102, run_underlying hk, sizeOf, typeInfo, hi, hs'.len, hfc]
      exact ⟨_, _, hrun, Or.inl ⟨rfl, rfl⟩, ⟨rfl, rfl, rfl, Nat.le_refl _, fun _ _ _ => rfl⟩⟩
    · exact grow none 0 (by decide) (run_firstCells_none w.drew i0.size 0 0 0) (by simp; omega)
  · by_cases hroom : L.length + Z.length ≤ cap
    · have hr := run_append_room_src (P := Tryz.prog) w 102 tx ty 5 i0 Tryz.underlying102 hi g 0 L.length cap x Z.length (Z.map (Value.int .u8)) hs' hroom (fun j hj => h6 _ (by rw [hz1]; simp at hj; omega)) (fun j hj => h7 _ (by rw [hz1]; simp at hj; omega))
      rw [hz1] at hr
      simp only [Nat.zero_add, Nat.mul_one] at hr
      refine ⟨_, _, hr, Or.inr ⟨g, cap, by rw [List.length_append], h1, ?_, by rw [List.length_append]; exact hroom, h4, fun t ht => ?_, fun t ht => World.isSome_setCells g _ _ w _ (h6 t ht), fun t ht => by rw [World.frozen?_setCells]; exact h7 t ht⟩, ?_⟩
      · exact Nat.lt_of_lt_of_le h2 (setCells_size w g _ _)
      · rw [u_getD]
        rw [List.length_append] at ht
        by_cases hc : t < L.length
        · rw [if_pos hc, World.cell?_setCells_out g _ _ w ⟨g, t, none⟩ (fun _ _ => Or.inl hc)]
          exact h5 t hc
        · rw [if_neg hc]
          have := World.cell?_setCells_in g (Z.map (Value.int .u8)) L.length w (fun j hj => h6 _ (by simp at hj; omega)) (t - L.length) (by simp; omega)
          rw [show L.length + (t - L.length) = t by omega] at this
          rw [this]
          simp [List.getD, List.getElem?_eq_getElem (show t - L.length < Z.length by omega)]
      · exact setCells_grown w g _ _
    · refine grow (some ⟨g, 0, none⟩) cap h4 ?_ (by omega)
      have := run_firstCells_some (P := Tryz.prog) w.drew i0.size L.length ⟨g, 0, none⟩ L.length cap (L.map (Value.int .u8)) (by rw [hz1]; simp) (fun j u hj => by
        rw [List.getElem?_map] at hj
        rcases Nat.lt_or_ge j L.length with k | k
        · rw [List.getElem?_eq_getElem k] at hj
          have hplain : (⟨g, 0, none⟩ : Addr).add j = ⟨g, j, none⟩ := by unfold Addr.add; split <;> simp_all
          rw [hplain]
          have hc := h5 j k
          simp [List.getD, List.getElem?_eq_getElem k] at hc
          rw [← hj]
          exact hc
        · rw [List.getElem?_eq_none k] at hj; simp at hj)
      exact this
section
variable (w : World) {ops : Array Oper} {rest : List Oper} {o : Oper} {a : Act} {Q : Exit → Act → World → Prop}
/-- 'append(b, x...)', x bytes. -/
theorem wpList_uapp (hgd : o.guard = none) (s x : Operand) (ho : o.op = .call { callee := .builtin .append, args := #[s, x], argTypes := #[102, 102] })
    (base : Nat) (v : Value) (L : List Int) (hs : a.eval s = v) (hown : UOwn w base v L) (ad : Option Addr) (len cap : Nat) (Z : List Int) (hx : a.eval x = .slice ad len cap) (hA : Arg w ad len cap Z) (_hnil : ad = none → cap = 0)
    (hbytes : L.length + len ≤ 211106232532992) (hbase : base ≤ w.heap.size)
    (h : ∀ v' w', UOwn w' base v' (L ++ Z) → w.grownBy w' v.ownBlock → wpList Tryz.prog ops Q rest (a.put o.dst v') w') : wpList Tryz.prog ops Q (o :: rest) a w := by
  have hZ := hA.len
  have src : Src Tryz.prog 1 102 (.slice ad len cap) Z.length (Z.map (Value.int .u8)) w := by
    rcases hA with ⟨rfl, rfl⟩ | ⟨g, off, rfl, hr⟩
    · cases ad with
      | none => exact Src.ofNil w Tryz.underlying102 cap
      | some ad => exact Src.ofSlice w Tryz.underlying102 ad 0 cap [] rfl (fun q u hq => by simp at hq) (fun u hq => by simp at hq)
    · rw [hZ]
      exact Src.ofSlice w Tryz.underlying102 ⟨g, off, none⟩ len cap (Z.map (Value.int .u8)) (by simp [hZ]) (u_news hr) (u_one Z)
  refine wpList_plain hgd fun K hK => ?_
  obtain ⟨v', w', hr, h2, h3⟩ := run_uapp (ty := o.type) w hown src (by omega) hbase
  unfold Oper.wp execOp
  simp only [ho, resolve, invoke, builtin, Sem.run_bind, Sem.run_pure, Result.andThen_ok, List.map_toArray, List.map_cons, List.map_nil, hs, hx, hr]
  exact hK _ _ (h v' w' h2 h3)
/-- 'append(b, x...)', x a text. -/
theorem wpList_uapps (hgd : o.guard = none) (s x : Operand) (ho : o.op = .call { callee := .builtin .append, args := #[s, x], argTypes := #[102, 9] })
    (base : Nat) (v : Value) (L : List Int) (hs : a.eval s = v) (hown : UOwn w base v L) (t : ByteArray) (hx : a.eval x = .string t) (Z : List Int) (hZ : unums t = Z)
    (hbytes : L.length + Z.length ≤ 140737488355328) (hbase : base ≤ w.heap.size)
    (h : ∀ v' w', UOwn w' base v' (L ++ Z) → w.grownBy w' v.ownBlock → wpList Tryz.prog ops Q rest (a.put o.dst v') w') : wpList Tryz.prog ops Q (o :: rest) a w := by
  have hl : t.size = Z.length := by rw [← hZ, unums_len]
  have src : Src Tryz.prog 1 9 (.string t) Z.length (Z.map (Value.int .u8)) w := by
    have := Src.ofString (P := Tryz.prog) w Tryz.underlying9 t
    rw [← hl, ← hZ]
    unfold unums
    rw [List.map_map]
    exact this
  refine wpList_plain hgd fun K hK => ?_
  obtain ⟨v', w', hr, h2, h3⟩ := run_uapp (ty := o.type) w hown src (by omega) hbase
  unfold Oper.wp execOp
  simp only [ho, resolve, invoke, builtin, Sem.run_bind, Sem.run_pure, Result.andThen_ok, List.map_toArray, List.map_cons, List.map_nil, hs, hx, hr]
  exact hK _ _ (h v' w' h2 h3)
end
end Go.Proofs.YteohgkgahkkjlaaGreatDoor
