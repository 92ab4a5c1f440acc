/-
  CONTRACT of the Go function frame.Split. No claim by itself.
-/
import Derived.Test.YtdlaaollamgplagGreatDoorChunk
import Derived.Test.YtdlaaollamgplagGreatDoorSmath
import Derived.Test.YtdlaaollamgplagGreatDoorFrrow
import Derived.Deep.RegionHeld3
import Derived.Deep.Slices
import Derived.Maps.AppendAt
namespace Go.Proofs.YtdlaaollamgplagGreatDoor
open Go Go.RowKit Go.Shelf
set_option maxRecDepth 100000
attribute [local go_sem] Oper.semAt_some
theorem grown_drew (W : World) : W.grownBy W.drew none := ⟨rfl, rfl, rfl, Nat.le_refl _, fun _ _ _ => rfl⟩
/-- Nothing: no round. -/
theorem chunkc_nil (F : Fence) (n : Nat) (hF : F.fn 198) (hro : F.round = none) (l Bs Bn cap : Nat) (a : Option Addr) {α : Type} (J : List α → World → Prop)
    (W : World) (hBs : Boxed W Bs 23 (.slice a 0 cap)) (h0 : J [] W) :
    CallsIn F n Tryz.prog 198 #[.func (.yield l) #[] #[], .pointer (some ⟨Bs, 0, none⟩), .pointer (some ⟨Bn, 0, none⟩)] W fun e W' => (∃ v, e = .returned v) ∧ J [] W' := by
  have cS := hBs.cell
  refine callsIn_of_wp Tryz.func198 rfl hF ?_ hro
  simp only [Tryz.ntmps198, List.size_toArray, List.length_cons, List.length_nil, Nat.reduceAdd, Nat.reduceSub, Array.replicate_succ, Array.replicate_zero, List.push_toArray, List.append_toArray, List.nil_append, List.cons_append]
  gi_wp2
  gi_loopw [4] (fun i wr => i = .int .i64 0 ∧ wr = W) (fun _ _ => 0)
  case atStart => exact ⟨rfl, rfl⟩
  case round =>
    obtain ⟨rfl, rfl⟩ := hrel
    gi_wp2
    go_end0
    exact ⟨⟨_, rfl⟩, h0⟩
/-- What slices.Chunk hands back gives the pieces, in their order. -/
theorem chunk_stops (F : Fence) (n : Nat) (hF : F.fn 198) (hro : F.round = none) (hn : 1 ≤ n) (a : Option Addr) (Bs Bn n₀ g off len cap N : Nat) (hN : 1 ≤ N) (hN2 : N ≤ 4096) (hcp : 0 < len → len ≤ cap ∧ cap ≤ 9223372036854775807) (hm : len ≤ 4611686018427387904)
    (ha : len = 0 ∨ a = some ⟨g, off, none⟩) (w : World) (hBs : Boxed w Bs 23 (.slice a len cap)) (hBn : Boxed w Bn 3 (.int .i64 N)) :
    SeqStopsK F n Tryz.prog 198 #[.pointer (some ⟨Bs, 0, none⟩), .pointer (some ⟨Bn, 0, none⟩)] (pcV g off N len) (KpB n₀ Bs Bn) (fun ys => ys.map (·.1) = List.range ((len + N - 1) / N))
      (fun pre => ∃ k, k ≤ (len + N - 1) / N ∧ pre.map (·.1) = List.range k) ((len + N - 1) / N) w := fun l J Jx W hW hJ _ hY h0 => by
  have bS : Boxed W Bs 23 (.slice a len cap) := (hW.block _ hBs.lt).trans hBs
  have bN : Boxed W Bn 3 (.int .i64 N) := (hW.block _ hBn.lt).trans hBn
  rcases Nat.eq_zero_or_pos len with rfl | hp
  · refine (chunkc_nil F n hF hro l Bs Bn cap a J W bS h0).mono ?_
    rintro e W' ⟨he, hj⟩
    refine ⟨he, .inl ⟨[], ?_, hj⟩⟩
    show [] = List.range ((0 + N - 1) / N)
    rw [Nat.div_eq_of_lt (by omega)]
    rfl
  · obtain rfl := ha.resolve_left (by omega)
    exact chunkc_in F n hF hro hn l Bs Bn n₀ g off len cap N hN hN2 (hcp hp).1 (hcp hp).2 hm J Jx (fun pre W hj => hJ pre W _ none hj (grown_drew W) (fun r e => by cases e)) hY W bS bN h0
/-- A piece of a row. -/
theorem row_piece {w : World} {g off len cap : Nat} {Z : List Int} (h : Row w g off len cap Z) (x : Nat) (hx : x * 1024 < len) : Row w g (off + x * 1024) (min 1024 (len - x * 1024)) (min 1024 (len - x * 1024)) (pc Z x) := by
  have hl := h.hlen
  have hm := h.hmax
  have hc := h.hcap
  have hlen : (pc Z x).length = min 1024 (len - x * 1024) := by rw [pc_len, hl, Nat.mul_comm]
  refine ⟨hlen, Nat.le_refl _, by omega, fun t ht => ?_, fun t => ?_⟩
  · have e : (pc Z x).getD t 0 = Z.getD (x * 1024 + t) 0 := by
      have h1 : t < 1024 := by omega
      simp [pc, List.getD, h1, List.getElem?_drop, Nat.mul_comm]
    rw [e, Nat.add_assoc]
    exact h.hcell _ (by omega)
  · by_cases ht : t < 1024
    · have e : (pc Z x).getD t 0 = Z.getD (x * 1024 + t) 0 := by simp [pc, List.getD, ht, List.getElem?_drop, Nat.mul_comm]
      rw [e]; exact h.hbyte _
    · have e : (pc Z x).getD t 0 = 0 := by simp [pc, List.getD, List.getElem?_take, ht]
      rw [e]; decide
/-- A frame's cells. -/
def spC (st : Int) (Z : List Int) (q : Nat × Nat × Nat) : List Value := [.int .i64 2, .int .i64 0, .int .i64 st, .slice (some ⟨q.2.1, 0, none⟩) (pc Z q.1).length q.2.2]
/-- Frames of pieces that were made so far. -/
def SpI (base Bl : Nat) (st : Int) (Z : List Int) (L : List Nat) (W : World) : Prop :=
  ∃ (v : Value) (T : List (Nat × Nat × Nat)), T.map (·.1) = L ∧ Boxed W Bl 55 v ∧ W.ownsRow base 60 4 v T.length ((T.map (spC st Z)).flatten) ∧ (T = [] → v = .slice none 0 0) ∧
    ∀ q ∈ T, W.ownsRow base 5 1 (.slice (some ⟨q.2.1, 0, none⟩) (pc Z q.1).length q.2.2) (pc Z q.1).length ((pc Z q.1).map (Value.int .u8))
theorem owns_turn {X Y : World} {row : Option Nat} {b s k : Nat} {e : TypeId} {v : Value} {xs : List Value} (hr : X.ownsRow b e s v k xs) (hg : X.grownBy Y row) (hrow : ∀ r, row = some r → ∃ o : Obj, X.heap[r]? = some o ∧ o.isCells = false) : Y.ownsRow b e s v k xs := by
  refine hr.kept hg ?_
  rcases hr.2 with ⟨rfl, _⟩ | ⟨g, cap, cur, rfl, _, hgb, _⟩
  · exact .inl rfl
  · refine .inr fun e' => ?_
    obtain ⟨o, ho, hc⟩ := hrow g (by simpa [Value.ownBlock] using e'.symm)
    rw [hgb] at ho; cases ho; cases hc
theorem spI_own (base Bl : Nat) (st : Int) (Z : List Int) : Own (SpI base Bl st Z) := by
  rintro L X Y row ⟨v, T, h1, h2, h3, h4, h5⟩ hg hrow
  refine ⟨v, T, h1, h2.kept hg (fun e' => ?_), owns_turn h3 hg hrow, h4, fun q hq => owns_turn (h5 q hq) hg hrow⟩
  obtain ⟨o, ho, hc⟩ := hrow Bl e'.symm
  rw [show X.heap[Bl]? = _ from h2] at ho; cases ho; cases hc
theorem owns_below {w w' : World} {base s n : Nat} {e : TypeId} {v : Value} {xs : List Value} (h : w.ownsRow base e s v n xs) (hb : Below w.heap.size w w') : w'.ownsRow base e s v n xs := by
  obtain ⟨h1, h2 | ⟨g, cap, cur, hv, hg, hc, r⟩⟩ := h
  · exact ⟨h1, Or.inl h2⟩
  · exact ⟨h1, Or.inr ⟨g, cap, cur, hv, hg, (hb.block g (Array.getElem?_eq_some_iff.1 hc).1).trans hc, r⟩⟩
theorem owns_apart {X : World} {b b' s s' n k : Nat} {e e' : TypeId} {u v : Value} {xs ys : List Value} (h : X.ownsRow b e s u n xs) (h' : X.ownsRow b' e' s' v k ys) (hne : e ≠ e') : u.ownBlock = none ∨ u.ownBlock ≠ v.ownBlock := by
  rcases h.2 with ⟨rfl, _⟩ | ⟨g, cap, cur, rfl, _, hc, _⟩
  · exact .inl rfl
  · refine .inr fun hb => ?_
    rcases h'.2 with ⟨rfl, _⟩ | ⟨g', cap', cur', rfl, _, hc', _⟩
    · simp [Value.ownBlock] at hb
    · obtain rfl : g = g' := by simpa [Value.ownBlock] using hb
      have := hc.symm.trans hc'
      simp at this
      exact hne this.2
theorem keeps_of_below {W W' : World} (h : Below W.heap.size W W') : KeepsOthers W W' := ⟨h.size, fun k _ hk _ => (h.block k (Array.getElem?_eq_some_iff.1 hk).1).trans hk⟩
/-- An append, as one step of a region that draws its order, in a round. -/
theorem step_app_in {F : Fence} {n : Nat} {P : Program} {ops : Array Oper} {o : Oper} {a : Act} {w : World} {K : Act → World → Prop} {Q : Exit → Act → World → Prop} {E : Prop} (hg : o.guard = none) (s x : Operand) (t : TypeId)
    (hop : o.op = Op.call { callee := Callee.builtin Builtin.append, args := #[s, x], argTypes := #[t, t] }) (v xv : Value) (hs : a.eval s = v) (hx : a.eval x = xv) (v' : Value) (w' : World)
    (hr : (Builtin.append_ #[t, t] o.type #[v, xv]).run P w = .ok v' w') (hK : K (a.put o.dst v') w') : if Region.wanted o (yielded ops a.tmps) = true then Oper.wpIn F n P o a w K Q else E := by
  have hw : Region.wanted o (yielded ops a.tmps) = true := by simp [Region.wanted, hg]
  rw [if_pos hw]
  unfold Oper.wpIn
  refine ⟨?_, ?_⟩
  · simp [Oper.about, hop, resolve, Target.leads, Sem.run_pure]
  · rw [Oper.semAt_plain F _ _ (by rw [hop]; intro c hc'; cases hc')]
    simp [execOp, hop, resolve, invoke, builtin, hs, hx, hr, Result.andThen]
    exact hK
theorem spI_from (base Bl : Nat) (st : Int) (Z : List Int) (N len B : Nat) : OwnFrom B (fun (pre : List (Pc N len)) W => SpI base Bl st Z (pre.map (·.1)) W) := fun pre X Y row h hg hr => spI_own base Bl st Z (pre.map (·.1)) X Y row h hg (fun r e => (hr r e).2)
theorem infoFr : (Tryz.prog.info? 60).map (fun i => (i.zero, i.size, i.bytes)) = some (some (.agg #[.int .i64 0, .int .i64 0, .int .i64 0, .slice none 0 0]), 4, 48) := by kernel_rfl
theorem spC_get (st : Int) (Z : List Int) : ∀ (T : List (Nat × Nat × Nat)) (t : Nat), t < T.length → T.map (·.1) = List.range T.length → ∃ q, T[t]? = some q ∧ q.1 = t ∧ ((T.map (spC st Z)).flatten)[t * 4]? = some (.int .i64 2) ∧ ((T.map (spC st Z)).flatten)[t * 4 + 1]? = some (.int .i64 0) ∧ ((T.map (spC st Z)).flatten)[t * 4 + 2]? = some (.int .i64 st) ∧ ((T.map (spC st Z)).flatten)[t * 4 + 3]? = some (.slice (some ⟨q.2.1, 0, none⟩) (pc Z t).length q.2.2) := by
  intro T t ht hr
  obtain ⟨q, hq⟩ : ∃ q, T[t]? = some q := ⟨_, List.getElem?_eq_getElem ht⟩
  have h1 : q.1 = t := by
    have h2 : (T.map (·.1))[t]? = some q.1 := by rw [List.getElem?_map, hq]; rfl
    rw [hr, List.getElem?_range ht] at h2
    exact (Option.some.inj h2).symm
  have fl : ∀ (T : List (Nat × Nat × Nat)) (t i : Nat) (q : Nat × Nat × Nat), T[t]? = some q → i < 4 → ((T.map (spC st Z)).flatten)[t * 4 + i]? = (spC st Z q)[i]? := by
    intro T
    induction T with
    | nil => intro t i q h; simp at h
    | cons a r ih =>
      intro t i q h hi
      have hl : (spC st Z a).length = 4 := rfl
      rw [List.map_cons, List.flatten_cons]
      cases t with
      | zero =>
        simp at h; subst h
        rw [Nat.zero_mul, Nat.zero_add, List.getElem?_append_left (by omega)]
      | succ t =>
        rw [List.getElem?_append_right (by omega), hl, show (t + 1) * 4 + i - 4 = t * 4 + i by omega]
        exact ih t i q (by simpa using h) hi
  refine ⟨q, hq, h1, ?_, ?_, ?_, ?_⟩
  · have := fl T t 0 q hq (by decide); rw [Nat.add_zero] at this; rw [this]; rfl
  · rw [fl T t 1 q hq (by decide)]; rfl
  · rw [fl T t 2 q hq (by decide)]; rfl
  · rw [fl T t 3 q hq (by decide), ← h1]; rfl
theorem drewN_heap (w : World) : ∀ n, (w.drewN n).heap = w.heap
  | 0 => rfl
  | n + 1 => drewN_heap w n
theorem heap_set (X : World) (g o : Nat) (v : Value) (b : Nat) (h : b ≠ g) : (X.setCell ⟨g, o, none⟩ v).heap[b]? = X.heap[b]? := Below.heap_setCell _ _ _ b (by first | exact h | exact h.symm | (intro e; exact h e) | (intro e; exact h e.symm))
theorem cell_set {w : World} {g i j : Nat} {v u : Value} (h : w.cell? ⟨g, i, none⟩ = some u) : (w.setCell ⟨g, i, none⟩ v).cell? ⟨g, j, none⟩ = if j = i then some v else w.cell? ⟨g, j, none⟩ := by
  by_cases e : j = i
  · subst e; rw [if_pos rfl]; exact World.cell?_setCell_same' _ _ _ (by rw [h]; rfl)
  · rw [if_neg e]; exact World.cell?_setCell_other _ _ _ _ (fun e' => e (by injection e' with _ h2 _; exact h2.symm))
/-- What the frames of a head are, once the first and the last are marked. -/
theorem split_fin {base : Nat} {W WF : World} {gr cr m D : Nat} {st : Int} {Z : List Int} {e : Bool} {T : List (Nat × Nat × Nat)} (hTr : T.map (·.1) = List.range T.length) (hTl : T.length = m + 1) (hby : ∀ x ∈ Z, 0 ≤ x ∧ x < 256)
    (hown : W.ownsRow base 60 4 (.slice (some ⟨gr, 0, none⟩) (m + 1) cr) (m + 1) ((T.map (spC st Z)).flatten))
    (hbod : ∀ q ∈ T, W.ownsRow base 5 1 (.slice (some ⟨q.2.1, 0, none⟩) (pc Z q.1).length q.2.2) (pc Z q.1).length ((pc Z q.1).map (Value.int .u8)))
    (hD : W.heap[D]? = some (.deferred (some []))) (hheap : ∀ b, b ≠ gr → b ≠ D → WF.heap[b]? = W.heap[b]?)
    (hcell : ∀ j u, W.cell? ⟨gr, j, none⟩ = some u → WF.cell? ⟨gr, j, none⟩ = some (if j = 0 then .int .i64 1 else if j = m * 4 + 1 then .int .i64 (if m = 0 ∧ e = true then 5 else 4) else if j = 1 ∧ e = true then .int .i64 1 else u)) :
    ∃ (A : Nat → Option Addr) (C : Nat → Nat), FrRow WF gr 0 (m + 1) cr (sfr st Z e (m + 1)) A C := by
  obtain ⟨hcap, hmax⟩ : m + 1 ≤ cr ∧ cr ≤ maxLen := by
    obtain ⟨_, ⟨hv, _⟩ | ⟨g', cap', cur, hv, _, _, hc, hm, _⟩⟩ := hown
    · cases hv
    · cases hv; exact ⟨hc, hm⟩
  have each : ∀ t, t < m + 1 → ∃ q : Nat × Nat × Nat, T[t]? = some q ∧ q.1 = t ∧ ((T.map (spC st Z)).flatten)[t * 4]? = some (.int .i64 2) ∧ ((T.map (spC st Z)).flatten)[t * 4 + 1]? = some (.int .i64 0) ∧ ((T.map (spC st Z)).flatten)[t * 4 + 2]? = some (.int .i64 st) ∧ ((T.map (spC st Z)).flatten)[t * 4 + 3]? = some (.slice (some ⟨q.2.1, 0, none⟩) (pc Z t).length q.2.2) :=
    fun t ht => spC_get st Z T t (by omega) hTr
  obtain ⟨q, hq⟩ := Go.Deep.choose_lt each
  refine ⟨fun t => some ⟨(q t).2.1, 0, none⟩, fun t => (q t).2.2, hcap, hmax, fun t ht => ?_⟩
  obtain ⟨h0, h1, h2, h3, h4, h5⟩ := hq t ht
  have g : ∀ i, i < 4 → W.cell? ⟨gr, t * 4 + i, none⟩ = ((T.map (spC st Z)).flatten)[t * 4 + i]? := fun i hi => hown.cellAt _ (by omega)
  have g2 := hcell _ _ ((g 0 (by decide)).trans h2)
  rw [Nat.add_zero] at g2
  have g3 := hcell _ _ ((g 1 (by decide)).trans h3)
  have g4 := hcell _ _ ((g 2 (by decide)).trans h4)
  have g5 := hcell _ _ ((g 3 (by decide)).trans h5)
  simp only [Nat.zero_add]
  refine ⟨⟨?_, ?_⟩, ⟨?_, ?_⟩, Or.inr ⟨_, 0, rfl, ?_⟩⟩
  · rw [g2]
    by_cases e0 : t = 0
    · subst e0; simp [sfr]
    · rw [if_neg (by omega), if_neg (by omega), if_neg (by omega)]; simp [sfr, e0]
  · rw [g3, if_neg (by omega)]
    by_cases em : t = m
    · subst em
      rw [if_pos rfl]
      cases e <;> by_cases e0 : t = 0 <;> simp [sfr, e0]
    · rw [if_neg (by omega)]
      by_cases e0 : t = 0
      · subst e0
        have hm0 : ¬ (m = 0) := fun h => em h.symm
        cases e <;> simp [sfr, hm0]
      · rw [if_neg (by omega)]
        simp [sfr, e0, em]
  · rw [g4, if_neg (by omega), if_neg (by omega), if_neg (by omega)]; rfl
  · rw [g5, if_neg (by omega), if_neg (by omega), if_neg (by omega)]; rfl
  · have hb := hbod (q t) (List.mem_of_getElem? h0)
    rw [h1] at hb
    have hpb : ∀ x ∈ pc Z t, 0 ≤ x ∧ x < 256 := fun x hx => hby x (List.drop_subset _ _ (List.take_subset _ _ hx))
    have hrow := row_of rfl hb hpb
    have hne : (q t).2.1 ≠ gr := fun h => by
      rcases owns_apart hb hown (by decide) with h' | h'
      · simp [Value.ownBlock] at h'
      · exact h' (by simp [Value.ownBlock, h])
    have hneD : (q t).2.1 ≠ D := fun h => by
      obtain ⟨_, ⟨hv, _⟩ | ⟨g', cap', cur, hv, _, hc, _⟩⟩ := hb
      · cases hv
      · cases hv
        rw [h, hD] at hc; cases hc
    exact ⟨hrow.hlen, hrow.hcap, hrow.hmax, fun i hi => (World.cell?_of_block (a := ⟨(q t).2.1, 0 + i, none⟩) (hheap _ hne hneD)).trans (hrow.hcell i hi), hrow.hbyte⟩
theorem split_fin0 {base : Nat} {W WF : World} {gr cr : Nat} {st : Int} {e : Bool} (hown : W.ownsRow base 60 4 (.slice (some ⟨gr, 0, none⟩) 1 cr) 1 [.int .i64 0, .int .i64 0, .int .i64 st, .slice none 0 0])
    (hcell : ∀ j u, W.cell? ⟨gr, j, none⟩ = some u → WF.cell? ⟨gr, j, none⟩ = some (if j = 0 then .int .i64 1 else if j = 1 then .int .i64 (if e = true then 5 else 4) else u)) :
    ∃ (A : Nat → Option Addr) (C : Nat → Nat), FrRow WF gr 0 1 cr (sfr st [] e 1) A C := by
  obtain ⟨hcap, hmax⟩ : 1 ≤ cr ∧ cr ≤ maxLen := by
    obtain ⟨_, ⟨hv, _⟩ | ⟨g', cap', cur, hv, _, _, hc, hm, _⟩⟩ := hown
    · cases hv
    · cases hv; exact ⟨hc, hm⟩
  refine ⟨fun _ => none, fun _ => 0, hcap, hmax, fun t ht => ?_⟩
  obtain rfl : t = 0 := by omega
  have g0 := hcell 0 _ (hown.cellAt 0 (by decide))
  have g1 := hcell 1 _ (hown.cellAt 1 (by decide))
  have g2 := hcell 2 _ (hown.cellAt 2 (by decide))
  have g3 := hcell 3 _ (hown.cellAt 3 (by decide))
  refine ⟨⟨g0.trans ?_, g1.trans ?_⟩, ⟨g2.trans ?_, g3.trans ?_⟩, Or.inl ⟨?_, ?_⟩⟩
  · simp [sfr]
  · cases e <;> simp [sfr]
  · simp [sfr]
  · simp [sfr, pc]
  · simp [sfr, pc]
  · simp [sfr, pc]
set_option maxHeartbeats 8000000 in
theorem split_loop (st : Int) (a : Option Addr) (g off len cap : Nat) (Z : List Int) (e : Bool) (w : World) (hA : len = 0 ∨ (a = some ⟨g, off, none⟩ ∧ Row w g off len cap Z)) (hZ : Z.length = len) (hl : len ≤ 140737488351232) :
    CallsIn Fence.wide 9 Tryz.prog 80 #[.int .i64 st, .slice a len cap, .bool e] w fun r w' => ∃ (g' c' : Nat) (A : Nat → Option Addr) (C : Nat → Nat), r = .returned (.slice (some ⟨g', 0, none⟩) (nP len) c') ∧ FrRow w' g' 0 (nP len) c' (sfr st Z e (nP len)) A C ∧ Below w.heap.size w w' := by
  have HCP : Hid (0 < len → len ≤ cap ∧ cap ≤ 9223372036854775807) := fun h => by
    rcases hA with h' | ⟨_, hr⟩
    · omega
    · have h1 := hr.hcap
      have h2 := hr.hmax
      unfold maxLen at h2
      exact ⟨h1, by omega⟩
  obtain ⟨i0, hi, hz0, hz1, hz2⟩ := info_parts infoFr
  refine callsIn_of_wp_marks Tryz.func80 rfl trivial ?_ rfl
  simp only [Tryz.ntmps80, List.size_toArray, List.length_cons, List.length_nil, Nat.reduceAdd, Nat.reduceSub, Array.replicate_succ, Array.replicate_zero, List.push_toArray, List.append_toArray, List.nil_append, List.cons_append]
  gi_wp2_with (refine ⟨trivial, ?_⟩; gi_at_call 141; refine (callsIn_wide.2 (chunk_call _ _ _ 1024 _ (by decide))).mono ?_; rintro e w' ⟨rfl, rfl⟩)
  have bSt := (((Boxed.new w 3 (.int .i64 st)).alloc (Obj.cells #[Value.slice none 0 0] 55)).alloc (Obj.cells #[Value.slice a len cap] 23)).alloc (Obj.cells #[Value.int IntKind.i64 1024] 3)
  have bL := ((Boxed.new (w.alloc (Obj.cells #[Value.int IntKind.i64 st] 3)) 55 (.slice none 0 0)).alloc (Obj.cells #[Value.slice a len cap] 23)).alloc (Obj.cells #[Value.int IntKind.i64 1024] 3)
  have bS := (Boxed.new ((w.alloc (Obj.cells #[Value.int IntKind.i64 st] 3)).alloc (Obj.cells #[Value.slice none 0 0] 55)) 23 (.slice a len cap)).alloc (Obj.cells #[Value.int IntKind.i64 1024] 3)
  have bN := Boxed.new (((w.alloc (Obj.cells #[Value.int IntKind.i64 st] 3)).alloc (Obj.cells #[Value.slice none 0 0] 55)).alloc (Obj.cells #[Value.slice a len cap] 23)) 3 (.int .i64 1024)
  have hB0 : Below w.heap.size w ((((w.alloc (Obj.cells #[Value.int IntKind.i64 st] 3)).alloc (Obj.cells #[Value.slice none 0 0] 55)).alloc (Obj.cells #[Value.slice a len cap] 23)).alloc (Obj.cells #[Value.int IntKind.i64 1024] 3)) := ((((Below.refl _ w).alloc (Nat.le_refl _) _).alloc (by simp) _).alloc (by simp; omega) _).alloc (by simp; omega) _
  have hsz : ((((w.alloc (Obj.cells #[Value.int IntKind.i64 st] 3)).alloc (Obj.cells #[Value.slice none 0 0] 55)).alloc (Obj.cells #[Value.slice a len cap] 23)).alloc (Obj.cells #[Value.int IntKind.i64 1024] 3)).heap.size = w.heap.size + 4 := by simp
  simp only [World.size_alloc] at bL bS bN
  obtain ⟨W0, hW0⟩ : ∃ W0, (((w.alloc (Obj.cells #[Value.int IntKind.i64 st] 3)).alloc (Obj.cells #[Value.slice none 0 0] 55)).alloc (Obj.cells #[Value.slice a len cap] 23)).alloc (Obj.cells #[Value.int IntKind.i64 1024] 3) = W0 := ⟨_, rfl⟩
  rw [hW0] at bSt bL bS bN hB0 hsz ⊢
  clear hW0
  refine wpIn_rangeFunc_ownG (N := (len + 1024 - 1) / 1024) rfl (by decide) (gf := 198) (lb := #[.pointer (some ⟨w.heap.size + 1 + 1, 0, none⟩), .pointer (some ⟨w.heap.size + 1 + 1 + 1, 0, none⟩)]) rfl trivial (enters_of Tryz.func198 (by kernel_rfl) rfl)
    (chunk_stops Fence.wide 8 trivial rfl (by decide) a (w.heap.size + 1 + 1) (w.heap.size + 1 + 1 + 1) w.heap.size g off len cap 1024 (by decide) (by decide) HCP.out (by omega) (hA.imp id And.left) W0 bS bN)
    KpB.trans (fun W l o o' h1 h2 h3 h4 => KpB.put (w := W0) (by omega) (by omega) (by omega) W l o o' h1 h2 h3 h4) (Below.refl _ _) (fun _ => rfl)
    (fun pre W => ((SpI w.heap.size (w.heap.size + 1) st Z (pre.map (·.1)) W ∧ Boxed W w.heap.size 3 (.int .i64 st)) ∧ (Boxed W (w.heap.size + 1 + 1) 23 (.slice a len cap) ∧ Boxed W (w.heap.size + 1 + 1 + 1) 3 (.int .i64 1024))) ∧ Below w.heap.size w W)
    (fun _ _ _ => False)
    (OwnFrom.and (OwnFrom.and (OwnFrom.and (spI_from w.heap.size (w.heap.size + 1) st Z 1024 len _) (Own.from (boxed_own _ _ _) _)) (OwnFrom.and (Own.from (boxed_own _ _ _) _) (Own.from (boxed_own _ _ _) _))) (ownFrom_below (Nat.le_refl _) (by omega)))
    (fun _ _ _ _ _ hs _ _ => hs)
    ⟨⟨⟨⟨_, [], rfl, bL, World.ownsRow_nil _ _ _ _, fun _ => rfl, fun q hq => by cases hq⟩, bSt⟩, bS, bN⟩, hB0⟩
    (fun x => { tmps := #[.int .i64 st, .slice a len cap, .bool e, .pointer (some ⟨w.heap.size, 0, none⟩), undef, undef, .slice none 0 0, .pointer (some ⟨w.heap.size + 1, 0, none⟩), .slice (some ⟨g, off + x.1 * 1024, none⟩) (min 1024 (len - x.1 * 1024)) (min 1024 (len - x.1 * 1024)), undef, undef, .slice a len cap, .func (.func 198) #[] #[.pointer (some ⟨w.heap.size + 1 + 1, 0, none⟩), .pointer (some ⟨w.heap.size + 1 + 1 + 1, 0, none⟩)], .slice (some ⟨g, off + x.1 * 1024, none⟩) (min 1024 (len - x.1 * 1024)) (min 1024 (len - x.1 * 1024)), undef, undef, undef, undef, undef, undef, undef, undef, undef, undef, undef, undef, undef, undef, undef, undef, undef, undef, undef, undef, undef, undef, undef, undef, undef, undef, undef, undef, undef, undef, undef, undef, undef, undef, undef, undef, undef, undef, undef, undef, undef], defers := [] }) ?assign ?body ?done ?stop
  case assign =>
    intro l x W K hK
    dsimp only [pcV]
    gi_wp2
    exact hK
  case body =>
    rintro l pre x W ⟨⟨⟨⟨v, T, hT, bV, hown, hnil, hbod⟩, bS1⟩, bA1, bN1⟩, hB⟩ hlt
    have cV := bV.cell
    have cS := bS1.cell
    have fV := bV.frozen
    have hx := x.2
    have hrow := (hA.resolve_left (by omega)).2
    have hpc := row_piece (hrow.below hB) x.1 hx
    have hpcl := hpc.hlen
    have hTl : T.length = pre.length := by have := congrArg List.length hT; simpa using this
    have hlt1 : w.heap.size + 1 < W.drew.heap.size := bV.lt
    have hlt0 : w.heap.size < W.drew.heap.size := bS1.lt
    have HCL : Hid (Calls Tryz.prog 52 #[.slice (some ⟨g, off + x.1 * 1024, none⟩) (min 1024 (len - x.1 * 1024)) (min 1024 (len - x.1 * 1024))] W.drew fun e w' => ∃ g' c', e = .returned (.slice (some ⟨g', 0, none⟩) (min 1024 (len - x.1 * 1024)) c') ∧ w'.ownsRow W.drew.heap.size 5 1 (.slice (some ⟨g', 0, none⟩) (min 1024 (len - x.1 * 1024)) c') (min 1024 (len - x.1 * 1024)) ((pc Z x.1).map (Value.int .u8)) ∧ Below W.drew.heap.size W.drew w') :=
      clone_some _ _ _ _ W.drew hpcl (by omega) (Or.inr ⟨g, off + x.1 * 1024, rfl, hpc.below ((Below.refl _ _).drew)⟩)
    have HAP : Hid (∀ w2 g2 c2, Below W.drew.heap.size W.drew w2 → w2.ownsRow W.drew.heap.size 5 1 (.slice (some ⟨g2, 0, none⟩) (min 1024 (len - x.1 * 1024)) c2) (min 1024 (len - x.1 * 1024)) ((pc Z x.1).map (Value.int .u8)) →
        ∃ g3 c3 w3, Hid ((Builtin.append_ #[55, 55] 55 #[v, .slice (some ⟨w2.heap.size, 0, none⟩) 1 1]).run Tryz.prog (w2.alloc (.cells #[.int .i64 2, .int .i64 0, .int .i64 st, .slice (some ⟨g2, 0, none⟩) (min 1024 (len - x.1 * 1024)) c2] 60)) = .ok (.slice (some ⟨g3, 0, none⟩) (T.length + 1) c3) w3) ∧
          (w3.cell? ⟨w.heap.size + 1, 0, none⟩ = some v ∧ w3.frozen? ⟨w.heap.size + 1, 0, none⟩ = false) ∧
          Hid ((SpI w.heap.size (w.heap.size + 1) st Z ((pre ++ [x]).map (·.1)) (w3.setCell ⟨w.heap.size + 1, 0, none⟩ (.slice (some ⟨g3, 0, none⟩) (T.length + 1) c3)) ∧ Boxed (w3.setCell ⟨w.heap.size + 1, 0, none⟩ (.slice (some ⟨g3, 0, none⟩) (T.length + 1) c3)) w.heap.size 3 (.int .i64 st)) ∧ (Boxed (w3.setCell ⟨w.heap.size + 1, 0, none⟩ (.slice (some ⟨g3, 0, none⟩) (T.length + 1) c3)) (w.heap.size + 1 + 1) 23 (.slice a len cap) ∧ Boxed (w3.setCell ⟨w.heap.size + 1, 0, none⟩ (.slice (some ⟨g3, 0, none⟩) (T.length + 1) c3)) (w.heap.size + 1 + 1 + 1) 3 (.int .i64 1024)) ∧
            KeepsFrom W0.heap.size W (w3.setCell ⟨w.heap.size + 1, 0, none⟩ (.slice (some ⟨g3, 0, none⟩) (T.length + 1) c3)) ∧ KpB w.heap.size (w.heap.size + 1 + 1) (w.heap.size + 1 + 1 + 1) W (w3.setCell ⟨w.heap.size + 1, 0, none⟩ (.slice (some ⟨g3, 0, none⟩) (T.length + 1) c3)) ∧ Below w.heap.size w (w3.setCell ⟨w.heap.size + 1, 0, none⟩ (.slice (some ⟨g3, 0, none⟩) (T.length + 1) c3)))) := by
      intro w2 g2 c2 hb2 ho2
      have hb2' : Below W.heap.size W w2 := ((Below.refl _ _).drew).trans hb2
      have s2 := hb2'.size
      have sB := hB.size
      have bV2 : Boxed w2 (w.heap.size + 1) 55 v := (hb2'.block _ bV.lt).trans bV
      have bS2 : Boxed w2 w.heap.size 3 (.int .i64 st) := (hb2'.block _ bS1.lt).trans bS1
      have bA2 : Boxed w2 (w.heap.size + 1 + 1) 23 (.slice a len cap) := (hb2'.block _ bA1.lt).trans bA1
      have bN2 : Boxed w2 (w.heap.size + 1 + 1 + 1) 3 (.int .i64 1024) := (hb2'.block _ bN1.lt).trans bN1
      have hown2 := owns_below hown hb2'
      have hal : Below w2.heap.size w2 (w2.alloc (.cells #[.int .i64 2, .int .i64 0, .int .i64 st, .slice (some ⟨g2, 0, none⟩) (min 1024 (len - x.1 * 1024)) c2] 60)) := (Below.refl _ _).alloc (Nat.le_refl _) _
      have hcnt : T.length + 1 ≤ 137438953472 := by rw [hTl]; omega
      obtain ⟨v3, w3, hrun, ho3, hg3, hn3⟩ := run_append_own (P := Tryz.prog) (w2.alloc (.cells #[.int .i64 2, .int .i64 0, .int .i64 st, .slice (some ⟨g2, 0, none⟩) (min 1024 (len - x.1 * 1024)) c2] 60)) w.heap.size 55 55 60 i0 _ 4 48 Tryz.underlying55 hi hz0 hz1 hz2 rfl (by decide) v T.length _ (owns_below hown2 hal) ⟨w2.heap.size, 0, none⟩ 1 1 [.int .i64 2, .int .i64 0, .int .i64 st, .slice (some ⟨g2, 0, none⟩) (min 1024 (len - x.1 * 1024)) c2] rfl
        (by
          intro j u hj
          have hadd : (⟨w2.heap.size, 0, none⟩ : Addr).add j = ⟨w2.heap.size, j, none⟩ := by unfold Addr.add; split <;> simp_all
          rw [hadd, cell_of_row _ _ j _ _ _ (World.alloc_heap_new w2 _), ← hj]
          simp)
        (by intro u hu; simp at hu; rcases hu with rfl | rfl | rfl | rfl <;> rfl) (by unfold maxLen; omega) (by omega) (by simp; omega)
      obtain ⟨g3, c3, rfl⟩ := ownsRow_succ ho3
      obtain ⟨hv1, hv2, hr2, hk2, hbel2⟩ := bV2.appended (by decide) hown2 (by omega) (by omega) ho3 hg3
      have hgs := grownBy_setCell' w3 (w.heap.size + 1) (.slice (some ⟨g3, 0, none⟩) (T.length + 1) c3)
      have other : ∀ (B : Nat) (t : TypeId) (u : Value), Boxed w2 B t u → t ≠ 60 → B ≠ w.heap.size + 1 → Boxed (w3.setCell ⟨w.heap.size + 1, 0, none⟩ (.slice (some ⟨g3, 0, none⟩) (T.length + 1) c3)) B t u := fun B t u hb ht hne =>
        (((hb.alloc _).kept hg3 (hb.not_row ht hown2)).kept hgs (fun e' => hne (by simpa using e')))
      have body : ∀ (u : Value) (n : Nat) (xs : List Value), w2.ownsRow w.heap.size 5 1 u n xs → ((w3.setCell ⟨w.heap.size + 1, 0, none⟩ (.slice (some ⟨g3, 0, none⟩) (T.length + 1) c3))).ownsRow w.heap.size 5 1 u n xs := fun u n xs hu => by
        have h1 := owns_below hu hal
        have h2 := h1.kept hg3 (owns_apart h1 (owns_below hown2 hal) (by decide))
        exact h2.kept hgs (.inr (hv1.not_row (by decide) h2).symm)
      refine ⟨g3, c3, w3, hrun, ⟨hv1.cell, hv1.frozen⟩, ⟨⟨_, T ++ [(x.1, g2, c2)], by simp [hT], hv2, ?_, by simp, ?_⟩, other _ _ _ bS2 (by decide) (by omega)⟩, ⟨other _ _ _ bA2 (by decide) (by omega), other _ _ _ bN2 (by decide) (by omega)⟩, ?_, ?_, ?_⟩
      · have e1 : (T ++ [(x.1, g2, c2)]).length = T.length + 1 := by simp
        rw [e1, List.map_append, List.flatten_append]
        simpa [spC, hpcl] using hr2
      · intro q hq
        rcases List.mem_append.1 hq with h | h
        · exact body _ _ _ (owns_below (hbod q h) hb2')
        · simp at h
          subst h
          simp only [hpcl]
          exact body _ _ _ (fr_mono ho2 (by show w.heap.size ≤ W.heap.size; omega))
      · exact ((keeps_of_below hb2').trans hk2).from _
      · refine ⟨(hb2'.mono sB).trans hbel2, fun o ho => ?_, fun o ho => ?_⟩
        · have h1 := (show W.heap[w.heap.size + 1 + 1]? = _ from bA1).symm.trans ho
          rw [← h1]; exact other _ _ _ bA2 (by decide) (by omega)
        · have h1 := (show W.heap[w.heap.size + 1 + 1 + 1]? = _ from bN1).symm.trans ho
          rw [← h1]; exact other _ _ _ bN2 (by decide) (by omega)
      · exact hB.trans ((hb2'.mono sB).trans hbel2)
    have mixed : Tryz.prog.follows Departure.mixedOrders = true := by kernel_rfl
    clear hown hbod hB bV bS1 hrow hpc bA1 bN1 hA hT hnil hTl hlt
    dsimp only [pcV]
    gi_wp2
    refine wpIn_region_any mixed ?_
    change wpAnyIn _ _ _ _ _ _ _ _ _ (World.drew _)
    refine wpAnyIn_ready (rs := [0, 1, 2]) (by kernel_rfl) (by simp) ?_
    refine AllReadyIn.cons rfl (fun K hK => ?_) ?_
    · go_simp
      refine hK _ _ ?_
      clear hK K
      refine wpAnyIn_ready (rs := [1, 2]) (by kernel_rfl) (by simp) ?_
      refine AllReadyIn.cons rfl (fun K hK => ?_) ?_
      · go_simp
        refine hK _ _ ?_
        clear hK K
        refine wpAnyIn_ready (rs := [2]) (by kernel_rfl) (by simp) ?_
        refine AllReadyIn.cons rfl (fun K hK => ?_) ?_
        · go_simp
          refine hK _ _ ?_
          clear hK K
          refine wpAnyIn_ready (rs := [3]) (by kernel_rfl) (by simp) ?_
          refine AllReadyIn.cons rfl (fun K hK => ?_) ?_
          · go_simp
            gi_wp2_with (refine ⟨trivial, ?_⟩; gi_at_call 52; refine (CallsIn.inRound l (callsIn_wide.2 HCL.out)).mono ?_; rintro e' w2 ⟨g2, c2, rfl, ho2, hb2⟩; obtain ⟨g3, c3, w3, HRUN, ⟨p4, p5⟩, HP⟩ := HAP.out w2 g2 c2 hb2 ho2; have q1 := (hb2.cell (p := ⟨w.heap.size + 1, 0, none⟩) hlt1).trans cV; have q2 := (hb2.cell (p := ⟨w.heap.size, 0, none⟩) hlt0).trans cS; have q1b := (World.cell?_alloc_some w2 ⟨w.heap.size + 1, 0, none⟩ (.cells #[.int .i64 2, .int .i64 0, .int .i64 st, .slice (some ⟨g2, 0, none⟩) (min 1024 (len - x.1 * 1024)) c2] 60) (by rw [q1]; rfl)).trans q1; have s2 := hb2.size; clear ho2 hb2)
            refine wpAnyIn_ready (rs := [4]) (by kernel_rfl) (by simp) ?_
            refine AllReadyIn.cons rfl (fun K hK => ?_) ?_
            · go_simp
              refine hK _ _ ?_
              clear hK K
              refine wpAnyIn_ready (rs := [5]) (by kernel_rfl) (by simp) ?_
              refine AllReadyIn.cons rfl (fun K hK => ?_) ?_
              · go_simp
                refine hK _ _ ?_
                clear hK K
                refine wpAnyIn_ready (rs := [6]) (by kernel_rfl) (by simp) ?_
                refine AllReadyIn.cons rfl (fun K hK => ?_) ?_
                · refine step_app_in rfl (.tmp 14) (.tmp 19) 55 rfl _ _ rfl rfl _ _ HRUN.out ?_
                  refine hK _ _ ?_
                  clear hK K
                  simp only [Act.put, List.setIfInBounds_toArray]
                  refine wpAnyIn_ready (rs := [7]) (by kernel_rfl) (by simp) ?_
                  refine AllReadyIn.cons rfl (fun K hK => ?_) ?_
                  · go_simp
                    refine hK _ _ ?_
                    clear hK K
                    refine wpAnyIn_done (by kernel_rfl) ?_ _
                    exact ⟨HP.out.2.2.1, HP.out.2.2.2.1, ⟨HP.out.1, HP.out.2.1⟩, HP.out.2.2.2.2⟩
                  exact AllReadyIn.nil
                exact AllReadyIn.nil
              exact AllReadyIn.nil
            exact AllReadyIn.nil
          exact AllReadyIn.nil
        exact AllReadyIn.nil
      refine AllReadyIn.cons rfl (fun K hK => ?_) ?_
      · go_simp
        refine hK _ _ ?_
        clear hK K
        refine wpAnyIn_ready (rs := [1, 3]) (by kernel_rfl) (by simp) ?_
        refine AllReadyIn.cons rfl (fun K hK => ?_) ?_
        · go_simp
          refine hK _ _ ?_
          clear hK K
          refine wpAnyIn_ready (rs := [3]) (by kernel_rfl) (by simp) ?_
          refine AllReadyIn.cons rfl (fun K hK => ?_) ?_
          · go_simp
            gi_wp2_with (refine ⟨trivial, ?_⟩; gi_at_call 52; refine (CallsIn.inRound l (callsIn_wide.2 HCL.out)).mono ?_; rintro e' w2 ⟨g2, c2, rfl, ho2, hb2⟩; obtain ⟨g3, c3, w3, HRUN, ⟨p4, p5⟩, HP⟩ := HAP.out w2 g2 c2 hb2 ho2; have q1 := (hb2.cell (p := ⟨w.heap.size + 1, 0, none⟩) hlt1).trans cV; have q2 := (hb2.cell (p := ⟨w.heap.size, 0, none⟩) hlt0).trans cS; have q1b := (World.cell?_alloc_some w2 ⟨w.heap.size + 1, 0, none⟩ (.cells #[.int .i64 2, .int .i64 0, .int .i64 st, .slice (some ⟨g2, 0, none⟩) (min 1024 (len - x.1 * 1024)) c2] 60) (by rw [q1]; rfl)).trans q1; have s2 := hb2.size; clear ho2 hb2)
            refine wpAnyIn_ready (rs := [4]) (by kernel_rfl) (by simp) ?_
            refine AllReadyIn.cons rfl (fun K hK => ?_) ?_
            · go_simp
              refine hK _ _ ?_
              clear hK K
              refine wpAnyIn_ready (rs := [5]) (by kernel_rfl) (by simp) ?_
              refine AllReadyIn.cons rfl (fun K hK => ?_) ?_
              · go_simp
                refine hK _ _ ?_
                clear hK K
                refine wpAnyIn_ready (rs := [6]) (by kernel_rfl) (by simp) ?_
                refine AllReadyIn.cons rfl (fun K hK => ?_) ?_
                · refine step_app_in rfl (.tmp 14) (.tmp 19) 55 rfl _ _ rfl rfl _ _ HRUN.out ?_
                  refine hK _ _ ?_
                  clear hK K
                  simp only [Act.put, List.setIfInBounds_toArray]
                  refine wpAnyIn_ready (rs := [7]) (by kernel_rfl) (by simp) ?_
                  refine AllReadyIn.cons rfl (fun K hK => ?_) ?_
                  · go_simp
                    refine hK _ _ ?_
                    clear hK K
                    refine wpAnyIn_done (by kernel_rfl) ?_ _
                    exact ⟨HP.out.2.2.1, HP.out.2.2.2.1, ⟨HP.out.1, HP.out.2.1⟩, HP.out.2.2.2.2⟩
                  exact AllReadyIn.nil
                exact AllReadyIn.nil
              exact AllReadyIn.nil
            exact AllReadyIn.nil
          exact AllReadyIn.nil
        refine AllReadyIn.cons rfl (fun K hK => ?_) ?_
        · go_simp
          gi_wp2_with (refine ⟨trivial, ?_⟩; gi_at_call 52; refine (CallsIn.inRound l (callsIn_wide.2 HCL.out)).mono ?_; rintro e' w2 ⟨g2, c2, rfl, ho2, hb2⟩; obtain ⟨g3, c3, w3, HRUN, ⟨p4, p5⟩, HP⟩ := HAP.out w2 g2 c2 hb2 ho2; have q1 := (hb2.cell (p := ⟨w.heap.size + 1, 0, none⟩) hlt1).trans cV; have q2 := (hb2.cell (p := ⟨w.heap.size, 0, none⟩) hlt0).trans cS; have q1b := (World.cell?_alloc_some w2 ⟨w.heap.size + 1, 0, none⟩ (.cells #[.int .i64 2, .int .i64 0, .int .i64 st, .slice (some ⟨g2, 0, none⟩) (min 1024 (len - x.1 * 1024)) c2] 60) (by rw [q1]; rfl)).trans q1; have s2 := hb2.size; clear ho2 hb2)
          refine wpAnyIn_ready (rs := [1]) (by kernel_rfl) (by simp) ?_
          refine AllReadyIn.cons rfl (fun K hK => ?_) ?_
          · go_simp
            refine hK _ _ ?_
            clear hK K
            refine wpAnyIn_ready (rs := [4]) (by kernel_rfl) (by simp) ?_
            refine AllReadyIn.cons rfl (fun K hK => ?_) ?_
            · go_simp
              refine hK _ _ ?_
              clear hK K
              refine wpAnyIn_ready (rs := [5]) (by kernel_rfl) (by simp) ?_
              refine AllReadyIn.cons rfl (fun K hK => ?_) ?_
              · go_simp
                refine hK _ _ ?_
                clear hK K
                refine wpAnyIn_ready (rs := [6]) (by kernel_rfl) (by simp) ?_
                refine AllReadyIn.cons rfl (fun K hK => ?_) ?_
                · refine step_app_in rfl (.tmp 14) (.tmp 19) 55 rfl _ _ rfl rfl _ _ HRUN.out ?_
                  refine hK _ _ ?_
                  clear hK K
                  simp only [Act.put, List.setIfInBounds_toArray]
                  refine wpAnyIn_ready (rs := [7]) (by kernel_rfl) (by simp) ?_
                  refine AllReadyIn.cons rfl (fun K hK => ?_) ?_
                  · go_simp
                    refine hK _ _ ?_
                    clear hK K
                    refine wpAnyIn_done (by kernel_rfl) ?_ _
                    exact ⟨HP.out.2.2.1, HP.out.2.2.2.1, ⟨HP.out.1, HP.out.2.1⟩, HP.out.2.2.2.2⟩
                  exact AllReadyIn.nil
                exact AllReadyIn.nil
              exact AllReadyIn.nil
            exact AllReadyIn.nil
          exact AllReadyIn.nil
        exact AllReadyIn.nil
      exact AllReadyIn.nil
    refine AllReadyIn.cons rfl (fun K hK => ?_) ?_
    · go_simp
      refine hK _ _ ?_
      clear hK K
      refine wpAnyIn_ready (rs := [0, 2]) (by kernel_rfl) (by simp) ?_
      refine AllReadyIn.cons rfl (fun K hK => ?_) ?_
      · go_simp
        refine hK _ _ ?_
        clear hK K
        refine wpAnyIn_ready (rs := [2]) (by kernel_rfl) (by simp) ?_
        refine AllReadyIn.cons rfl (fun K hK => ?_) ?_
        · go_simp
          refine hK _ _ ?_
          clear hK K
          refine wpAnyIn_ready (rs := [3]) (by kernel_rfl) (by simp) ?_
          refine AllReadyIn.cons rfl (fun K hK => ?_) ?_
          · go_simp
            gi_wp2_with (refine ⟨trivial, ?_⟩; gi_at_call 52; refine (CallsIn.inRound l (callsIn_wide.2 HCL.out)).mono ?_; rintro e' w2 ⟨g2, c2, rfl, ho2, hb2⟩; obtain ⟨g3, c3, w3, HRUN, ⟨p4, p5⟩, HP⟩ := HAP.out w2 g2 c2 hb2 ho2; have q1 := (hb2.cell (p := ⟨w.heap.size + 1, 0, none⟩) hlt1).trans cV; have q2 := (hb2.cell (p := ⟨w.heap.size, 0, none⟩) hlt0).trans cS; have q1b := (World.cell?_alloc_some w2 ⟨w.heap.size + 1, 0, none⟩ (.cells #[.int .i64 2, .int .i64 0, .int .i64 st, .slice (some ⟨g2, 0, none⟩) (min 1024 (len - x.1 * 1024)) c2] 60) (by rw [q1]; rfl)).trans q1; have s2 := hb2.size; clear ho2 hb2)
            refine wpAnyIn_ready (rs := [4]) (by kernel_rfl) (by simp) ?_
            refine AllReadyIn.cons rfl (fun K hK => ?_) ?_
            · go_simp
              refine hK _ _ ?_
              clear hK K
              refine wpAnyIn_ready (rs := [5]) (by kernel_rfl) (by simp) ?_
              refine AllReadyIn.cons rfl (fun K hK => ?_) ?_
              · go_simp
                refine hK _ _ ?_
                clear hK K
                refine wpAnyIn_ready (rs := [6]) (by kernel_rfl) (by simp) ?_
                refine AllReadyIn.cons rfl (fun K hK => ?_) ?_
                · refine step_app_in rfl (.tmp 14) (.tmp 19) 55 rfl _ _ rfl rfl _ _ HRUN.out ?_
                  refine hK _ _ ?_
                  clear hK K
                  simp only [Act.put, List.setIfInBounds_toArray]
                  refine wpAnyIn_ready (rs := [7]) (by kernel_rfl) (by simp) ?_
                  refine AllReadyIn.cons rfl (fun K hK => ?_) ?_
                  · go_simp
                    refine hK _ _ ?_
                    clear hK K
                    refine wpAnyIn_done (by kernel_rfl) ?_ _
                    exact ⟨HP.out.2.2.1, HP.out.2.2.2.1, ⟨HP.out.1, HP.out.2.1⟩, HP.out.2.2.2.2⟩
                  exact AllReadyIn.nil
                exact AllReadyIn.nil
              exact AllReadyIn.nil
            exact AllReadyIn.nil
          exact AllReadyIn.nil
        exact AllReadyIn.nil
      refine AllReadyIn.cons rfl (fun K hK => ?_) ?_
      · go_simp
        refine hK _ _ ?_
        clear hK K
        refine wpAnyIn_ready (rs := [0, 3]) (by kernel_rfl) (by simp) ?_
        refine AllReadyIn.cons rfl (fun K hK => ?_) ?_
        · go_simp
          refine hK _ _ ?_
          clear hK K
          refine wpAnyIn_ready (rs := [3]) (by kernel_rfl) (by simp) ?_
          refine AllReadyIn.cons rfl (fun K hK => ?_) ?_
          · go_simp
            gi_wp2_with (refine ⟨trivial, ?_⟩; gi_at_call 52; refine (CallsIn.inRound l (callsIn_wide.2 HCL.out)).mono ?_; rintro e' w2 ⟨g2, c2, rfl, ho2, hb2⟩; obtain ⟨g3, c3, w3, HRUN, ⟨p4, p5⟩, HP⟩ := HAP.out w2 g2 c2 hb2 ho2; have q1 := (hb2.cell (p := ⟨w.heap.size + 1, 0, none⟩) hlt1).trans cV; have q2 := (hb2.cell (p := ⟨w.heap.size, 0, none⟩) hlt0).trans cS; have q1b := (World.cell?_alloc_some w2 ⟨w.heap.size + 1, 0, none⟩ (.cells #[.int .i64 2, .int .i64 0, .int .i64 st, .slice (some ⟨g2, 0, none⟩) (min 1024 (len - x.1 * 1024)) c2] 60) (by rw [q1]; rfl)).trans q1; have s2 := hb2.size; clear ho2 hb2)
            refine wpAnyIn_ready (rs := [4]) (by kernel_rfl) (by simp) ?_
            refine AllReadyIn.cons rfl (fun K hK => ?_) ?_
            · go_simp
              refine hK _ _ ?_
              clear hK K
              refine wpAnyIn_ready (rs := [5]) (by kernel_rfl) (by simp) ?_
              refine AllReadyIn.cons rfl (fun K hK => ?_) ?_
              · go_simp
                refine hK _ _ ?_
                clear hK K
                refine wpAnyIn_ready (rs := [6]) (by kernel_rfl) (by simp) ?_
                refine AllReadyIn.cons rfl (fun K hK => ?_) ?_
                · refine step_app_in rfl (.tmp 14) (.tmp 19) 55 rfl _ _ rfl rfl _ _ HRUN.out ?_
                  refine hK _ _ ?_
                  clear hK K
                  simp only [Act.put, List.setIfInBounds_toArray]
                  refine wpAnyIn_ready (rs := [7]) (by kernel_rfl) (by simp) ?_
                  refine AllReadyIn.cons rfl (fun K hK => ?_) ?_
                  · go_simp
                    refine hK _ _ ?_
                    clear hK K
                    refine wpAnyIn_done (by kernel_rfl) ?_ _
                    exact ⟨HP.out.2.2.1, HP.out.2.2.2.1, ⟨HP.out.1, HP.out.2.1⟩, HP.out.2.2.2.2⟩
                  exact AllReadyIn.nil
                exact AllReadyIn.nil
              exact AllReadyIn.nil
            exact AllReadyIn.nil
          exact AllReadyIn.nil
        refine AllReadyIn.cons rfl (fun K hK => ?_) ?_
        · go_simp
          gi_wp2_with (refine ⟨trivial, ?_⟩; gi_at_call 52; refine (CallsIn.inRound l (callsIn_wide.2 HCL.out)).mono ?_; rintro e' w2 ⟨g2, c2, rfl, ho2, hb2⟩; obtain ⟨g3, c3, w3, HRUN, ⟨p4, p5⟩, HP⟩ := HAP.out w2 g2 c2 hb2 ho2; have q1 := (hb2.cell (p := ⟨w.heap.size + 1, 0, none⟩) hlt1).trans cV; have q2 := (hb2.cell (p := ⟨w.heap.size, 0, none⟩) hlt0).trans cS; have q1b := (World.cell?_alloc_some w2 ⟨w.heap.size + 1, 0, none⟩ (.cells #[.int .i64 2, .int .i64 0, .int .i64 st, .slice (some ⟨g2, 0, none⟩) (min 1024 (len - x.1 * 1024)) c2] 60) (by rw [q1]; rfl)).trans q1; have s2 := hb2.size; clear ho2 hb2)
          refine wpAnyIn_ready (rs := [0, 4]) (by kernel_rfl) (by simp) ?_
          refine AllReadyIn.cons rfl (fun K hK => ?_) ?_
          · go_simp
            refine hK _ _ ?_
            clear hK K
            refine wpAnyIn_ready (rs := [4]) (by kernel_rfl) (by simp) ?_
            refine AllReadyIn.cons rfl (fun K hK => ?_) ?_
            · go_simp
              refine hK _ _ ?_
              clear hK K
              refine wpAnyIn_ready (rs := [5]) (by kernel_rfl) (by simp) ?_
              refine AllReadyIn.cons rfl (fun K hK => ?_) ?_
              · go_simp
                refine hK _ _ ?_
                clear hK K
                refine wpAnyIn_ready (rs := [6]) (by kernel_rfl) (by simp) ?_
                refine AllReadyIn.cons rfl (fun K hK => ?_) ?_
                · refine step_app_in rfl (.tmp 14) (.tmp 19) 55 rfl _ _ rfl rfl _ _ HRUN.out ?_
                  refine hK _ _ ?_
                  clear hK K
                  simp only [Act.put, List.setIfInBounds_toArray]
                  refine wpAnyIn_ready (rs := [7]) (by kernel_rfl) (by simp) ?_
                  refine AllReadyIn.cons rfl (fun K hK => ?_) ?_
                  · go_simp
                    refine hK _ _ ?_
                    clear hK K
                    refine wpAnyIn_done (by kernel_rfl) ?_ _
                    exact ⟨HP.out.2.2.1, HP.out.2.2.2.1, ⟨HP.out.1, HP.out.2.1⟩, HP.out.2.2.2.2⟩
                  exact AllReadyIn.nil
                exact AllReadyIn.nil
              exact AllReadyIn.nil
            exact AllReadyIn.nil
          refine AllReadyIn.cons rfl (fun K hK => ?_) ?_
          · go_simp
            refine hK _ _ ?_
            clear hK K
            refine wpAnyIn_ready (rs := [0, 5]) (by kernel_rfl) (by simp) ?_
            refine AllReadyIn.cons rfl (fun K hK => ?_) ?_
            · go_simp
              refine hK _ _ ?_
              clear hK K
              refine wpAnyIn_ready (rs := [5]) (by kernel_rfl) (by simp) ?_
              refine AllReadyIn.cons rfl (fun K hK => ?_) ?_
              · go_simp
                refine hK _ _ ?_
                clear hK K
                refine wpAnyIn_ready (rs := [6]) (by kernel_rfl) (by simp) ?_
                refine AllReadyIn.cons rfl (fun K hK => ?_) ?_
                · refine step_app_in rfl (.tmp 14) (.tmp 19) 55 rfl _ _ rfl rfl _ _ HRUN.out ?_
                  refine hK _ _ ?_
                  clear hK K
                  simp only [Act.put, List.setIfInBounds_toArray]
                  refine wpAnyIn_ready (rs := [7]) (by kernel_rfl) (by simp) ?_
                  refine AllReadyIn.cons rfl (fun K hK => ?_) ?_
                  · go_simp
                    refine hK _ _ ?_
                    clear hK K
                    refine wpAnyIn_done (by kernel_rfl) ?_ _
                    exact ⟨HP.out.2.2.1, HP.out.2.2.2.1, ⟨HP.out.1, HP.out.2.1⟩, HP.out.2.2.2.2⟩
                  exact AllReadyIn.nil
                exact AllReadyIn.nil
              exact AllReadyIn.nil
            refine AllReadyIn.cons rfl (fun K hK => ?_) ?_
            · go_simp
              refine hK _ _ ?_
              clear hK K
              refine wpAnyIn_ready (rs := [0]) (by kernel_rfl) (by simp) ?_
              refine AllReadyIn.cons rfl (fun K hK => ?_) ?_
              · go_simp
                refine hK _ _ ?_
                clear hK K
                refine wpAnyIn_ready (rs := [6]) (by kernel_rfl) (by simp) ?_
                refine AllReadyIn.cons rfl (fun K hK => ?_) ?_
                · refine step_app_in rfl (.tmp 14) (.tmp 19) 55 rfl _ _ rfl rfl _ _ HRUN.out ?_
                  refine hK _ _ ?_
                  clear hK K
                  simp only [Act.put, List.setIfInBounds_toArray]
                  refine wpAnyIn_ready (rs := [7]) (by kernel_rfl) (by simp) ?_
                  refine AllReadyIn.cons rfl (fun K hK => ?_) ?_
                  · go_simp
                    refine hK _ _ ?_
                    clear hK K
                    refine wpAnyIn_done (by kernel_rfl) ?_ _
                    exact ⟨HP.out.2.2.1, HP.out.2.2.2.1, ⟨HP.out.1, HP.out.2.1⟩, HP.out.2.2.2.2⟩
                  exact AllReadyIn.nil
                exact AllReadyIn.nil
              exact AllReadyIn.nil
            exact AllReadyIn.nil
          exact AllReadyIn.nil
        exact AllReadyIn.nil
      exact AllReadyIn.nil
    refine AllReadyIn.cons rfl (fun K hK => ?_) ?_
    · go_simp
      refine hK _ _ ?_
      clear hK K
      refine wpAnyIn_ready (rs := [0, 1, 3]) (by kernel_rfl) (by simp) ?_
      refine AllReadyIn.cons rfl (fun K hK => ?_) ?_
      · go_simp
        refine hK _ _ ?_
        clear hK K
        refine wpAnyIn_ready (rs := [1, 3]) (by kernel_rfl) (by simp) ?_
        refine AllReadyIn.cons rfl (fun K hK => ?_) ?_
        · go_simp
          refine hK _ _ ?_
          clear hK K
          refine wpAnyIn_ready (rs := [3]) (by kernel_rfl) (by simp) ?_
          refine AllReadyIn.cons rfl (fun K hK => ?_) ?_
          · go_simp
            gi_wp2_with (refine ⟨trivial, ?_⟩; gi_at_call 52; refine (CallsIn.inRound l (callsIn_wide.2 HCL.out)).mono ?_; rintro e' w2 ⟨g2, c2, rfl, ho2, hb2⟩; obtain ⟨g3, c3, w3, HRUN, ⟨p4, p5⟩, HP⟩ := HAP.out w2 g2 c2 hb2 ho2; have q1 := (hb2.cell (p := ⟨w.heap.size + 1, 0, none⟩) hlt1).trans cV; have q2 := (hb2.cell (p := ⟨w.heap.size, 0, none⟩) hlt0).trans cS; have q1b := (World.cell?_alloc_some w2 ⟨w.heap.size + 1, 0, none⟩ (.cells #[.int .i64 2, .int .i64 0, .int .i64 st, .slice (some ⟨g2, 0, none⟩) (min 1024 (len - x.1 * 1024)) c2] 60) (by rw [q1]; rfl)).trans q1; have s2 := hb2.size; clear ho2 hb2)
            refine wpAnyIn_ready (rs := [4]) (by kernel_rfl) (by simp) ?_
            refine AllReadyIn.cons rfl (fun K hK => ?_) ?_
            · go_simp
              refine hK _ _ ?_
              clear hK K
              refine wpAnyIn_ready (rs := [5]) (by kernel_rfl) (by simp) ?_
              refine AllReadyIn.cons rfl (fun K hK => ?_) ?_
              · go_simp
                refine hK _ _ ?_
                clear hK K
                refine wpAnyIn_ready (rs := [6]) (by kernel_rfl) (by simp) ?_
                refine AllReadyIn.cons rfl (fun K hK => ?_) ?_
                · refine step_app_in rfl (.tmp 14) (.tmp 19) 55 rfl _ _ rfl rfl _ _ HRUN.out ?_
                  refine hK _ _ ?_
                  clear hK K
                  simp only [Act.put, List.setIfInBounds_toArray]
                  refine wpAnyIn_ready (rs := [7]) (by kernel_rfl) (by simp) ?_
                  refine AllReadyIn.cons rfl (fun K hK => ?_) ?_
                  · go_simp
                    refine hK _ _ ?_
                    clear hK K
                    refine wpAnyIn_done (by kernel_rfl) ?_ _
                    exact ⟨HP.out.2.2.1, HP.out.2.2.2.1, ⟨HP.out.1, HP.out.2.1⟩, HP.out.2.2.2.2⟩
                  exact AllReadyIn.nil
                exact AllReadyIn.nil
              exact AllReadyIn.nil
            exact AllReadyIn.nil
          exact AllReadyIn.nil
        refine AllReadyIn.cons rfl (fun K hK => ?_) ?_
        · go_simp
          gi_wp2_with (refine ⟨trivial, ?_⟩; gi_at_call 52; refine (CallsIn.inRound l (callsIn_wide.2 HCL.out)).mono ?_; rintro e' w2 ⟨g2, c2, rfl, ho2, hb2⟩; obtain ⟨g3, c3, w3, HRUN, ⟨p4, p5⟩, HP⟩ := HAP.out w2 g2 c2 hb2 ho2; have q1 := (hb2.cell (p := ⟨w.heap.size + 1, 0, none⟩) hlt1).trans cV; have q2 := (hb2.cell (p := ⟨w.heap.size, 0, none⟩) hlt0).trans cS; have q1b := (World.cell?_alloc_some w2 ⟨w.heap.size + 1, 0, none⟩ (.cells #[.int .i64 2, .int .i64 0, .int .i64 st, .slice (some ⟨g2, 0, none⟩) (min 1024 (len - x.1 * 1024)) c2] 60) (by rw [q1]; rfl)).trans q1; have s2 := hb2.size; clear ho2 hb2)
          refine wpAnyIn_ready (rs := [1]) (by kernel_rfl) (by simp) ?_
          refine AllReadyIn.cons rfl (fun K hK => ?_) ?_
          · go_simp
            refine hK _ _ ?_
            clear hK K
            refine wpAnyIn_ready (rs := [4]) (by kernel_rfl) (by simp) ?_
            refine AllReadyIn.cons rfl (fun K hK => ?_) ?_
            · go_simp
              refine hK _ _ ?_
              clear hK K
              refine wpAnyIn_ready (rs := [5]) (by kernel_rfl) (by simp) ?_
              refine AllReadyIn.cons rfl (fun K hK => ?_) ?_
              · go_simp
                refine hK _ _ ?_
                clear hK K
                refine wpAnyIn_ready (rs := [6]) (by kernel_rfl) (by simp) ?_
                refine AllReadyIn.cons rfl (fun K hK => ?_) ?_
                · refine step_app_in rfl (.tmp 14) (.tmp 19) 55 rfl _ _ rfl rfl _ _ HRUN.out ?_
                  refine hK _ _ ?_
                  clear hK K
                  simp only [Act.put, List.setIfInBounds_toArray]
                  refine wpAnyIn_ready (rs := [7]) (by kernel_rfl) (by simp) ?_
                  refine AllReadyIn.cons rfl (fun K hK => ?_) ?_
                  · go_simp
                    refine hK _ _ ?_
                    clear hK K
                    refine wpAnyIn_done (by kernel_rfl) ?_ _
                    exact ⟨HP.out.2.2.1, HP.out.2.2.2.1, ⟨HP.out.1, HP.out.2.1⟩, HP.out.2.2.2.2⟩
                  exact AllReadyIn.nil
                exact AllReadyIn.nil
              exact AllReadyIn.nil
            exact AllReadyIn.nil
          exact AllReadyIn.nil
        exact AllReadyIn.nil
      refine AllReadyIn.cons rfl (fun K hK => ?_) ?_
      · go_simp
        refine hK _ _ ?_
        clear hK K
        refine wpAnyIn_ready (rs := [0, 3]) (by kernel_rfl) (by simp) ?_
        refine AllReadyIn.cons rfl (fun K hK => ?_) ?_
        · go_simp
          refine hK _ _ ?_
          clear hK K
          refine wpAnyIn_ready (rs := [3]) (by kernel_rfl) (by simp) ?_
          refine AllReadyIn.cons rfl (fun K hK => ?_) ?_
          · go_simp
            gi_wp2_with (refine ⟨trivial, ?_⟩; gi_at_call 52; refine (CallsIn.inRound l (callsIn_wide.2 HCL.out)).mono ?_; rintro e' w2 ⟨g2, c2, rfl, ho2, hb2⟩; obtain ⟨g3, c3, w3, HRUN, ⟨p4, p5⟩, HP⟩ := HAP.out w2 g2 c2 hb2 ho2; have q1 := (hb2.cell (p := ⟨w.heap.size + 1, 0, none⟩) hlt1).trans cV; have q2 := (hb2.cell (p := ⟨w.heap.size, 0, none⟩) hlt0).trans cS; have q1b := (World.cell?_alloc_some w2 ⟨w.heap.size + 1, 0, none⟩ (.cells #[.int .i64 2, .int .i64 0, .int .i64 st, .slice (some ⟨g2, 0, none⟩) (min 1024 (len - x.1 * 1024)) c2] 60) (by rw [q1]; rfl)).trans q1; have s2 := hb2.size; clear ho2 hb2)
            refine wpAnyIn_ready (rs := [4]) (by kernel_rfl) (by simp) ?_
            refine AllReadyIn.cons rfl (fun K hK => ?_) ?_
            · go_simp
              refine hK _ _ ?_
              clear hK K
              refine wpAnyIn_ready (rs := [5]) (by kernel_rfl) (by simp) ?_
              refine AllReadyIn.cons rfl (fun K hK => ?_) ?_
              · go_simp
                refine hK _ _ ?_
                clear hK K
                refine wpAnyIn_ready (rs := [6]) (by kernel_rfl) (by simp) ?_
                refine AllReadyIn.cons rfl (fun K hK => ?_) ?_
                · refine step_app_in rfl (.tmp 14) (.tmp 19) 55 rfl _ _ rfl rfl _ _ HRUN.out ?_
                  refine hK _ _ ?_
                  clear hK K
                  simp only [Act.put, List.setIfInBounds_toArray]
                  refine wpAnyIn_ready (rs := [7]) (by kernel_rfl) (by simp) ?_
                  refine AllReadyIn.cons rfl (fun K hK => ?_) ?_
                  · go_simp
                    refine hK _ _ ?_
                    clear hK K
                    refine wpAnyIn_done (by kernel_rfl) ?_ _
                    exact ⟨HP.out.2.2.1, HP.out.2.2.2.1, ⟨HP.out.1, HP.out.2.1⟩, HP.out.2.2.2.2⟩
                  exact AllReadyIn.nil
                exact AllReadyIn.nil
              exact AllReadyIn.nil
            exact AllReadyIn.nil
          exact AllReadyIn.nil
        refine AllReadyIn.cons rfl (fun K hK => ?_) ?_
        · go_simp
          gi_wp2_with (refine ⟨trivial, ?_⟩; gi_at_call 52; refine (CallsIn.inRound l (callsIn_wide.2 HCL.out)).mono ?_; rintro e' w2 ⟨g2, c2, rfl, ho2, hb2⟩; obtain ⟨g3, c3, w3, HRUN, ⟨p4, p5⟩, HP⟩ := HAP.out w2 g2 c2 hb2 ho2; have q1 := (hb2.cell (p := ⟨w.heap.size + 1, 0, none⟩) hlt1).trans cV; have q2 := (hb2.cell (p := ⟨w.heap.size, 0, none⟩) hlt0).trans cS; have q1b := (World.cell?_alloc_some w2 ⟨w.heap.size + 1, 0, none⟩ (.cells #[.int .i64 2, .int .i64 0, .int .i64 st, .slice (some ⟨g2, 0, none⟩) (min 1024 (len - x.1 * 1024)) c2] 60) (by rw [q1]; rfl)).trans q1; have s2 := hb2.size; clear ho2 hb2)
          refine wpAnyIn_ready (rs := [0, 4]) (by kernel_rfl) (by simp) ?_
          refine AllReadyIn.cons rfl (fun K hK => ?_) ?_
          · go_simp
            refine hK _ _ ?_
            clear hK K
            refine wpAnyIn_ready (rs := [4]) (by kernel_rfl) (by simp) ?_
            refine AllReadyIn.cons rfl (fun K hK => ?_) ?_
            · go_simp
              refine hK _ _ ?_
              clear hK K
              refine wpAnyIn_ready (rs := [5]) (by kernel_rfl) (by simp) ?_
              refine AllReadyIn.cons rfl (fun K hK => ?_) ?_
              · go_simp
                refine hK _ _ ?_
                clear hK K
                refine wpAnyIn_ready (rs := [6]) (by kernel_rfl) (by simp) ?_
                refine AllReadyIn.cons rfl (fun K hK => ?_) ?_
                · refine step_app_in rfl (.tmp 14) (.tmp 19) 55 rfl _ _ rfl rfl _ _ HRUN.out ?_
                  refine hK _ _ ?_
                  clear hK K
                  simp only [Act.put, List.setIfInBounds_toArray]
                  refine wpAnyIn_ready (rs := [7]) (by kernel_rfl) (by simp) ?_
                  refine AllReadyIn.cons rfl (fun K hK => ?_) ?_
                  · go_simp
                    refine hK _ _ ?_
                    clear hK K
                    refine wpAnyIn_done (by kernel_rfl) ?_ _
                    exact ⟨HP.out.2.2.1, HP.out.2.2.2.1, ⟨HP.out.1, HP.out.2.1⟩, HP.out.2.2.2.2⟩
                  exact AllReadyIn.nil
                exact AllReadyIn.nil
              exact AllReadyIn.nil
            exact AllReadyIn.nil
          refine AllReadyIn.cons rfl (fun K hK => ?_) ?_
          · go_simp
            refine hK _ _ ?_
            clear hK K
            refine wpAnyIn_ready (rs := [0, 5]) (by kernel_rfl) (by simp) ?_
            refine AllReadyIn.cons rfl (fun K hK => ?_) ?_
            · go_simp
              refine hK _ _ ?_
              clear hK K
              refine wpAnyIn_ready (rs := [5]) (by kernel_rfl) (by simp) ?_
              refine AllReadyIn.cons rfl (fun K hK => ?_) ?_
              · go_simp
                refine hK _ _ ?_
                clear hK K
                refine wpAnyIn_ready (rs := [6]) (by kernel_rfl) (by simp) ?_
                refine AllReadyIn.cons rfl (fun K hK => ?_) ?_
                · refine step_app_in rfl (.tmp 14) (.tmp 19) 55 rfl _ _ rfl rfl _ _ HRUN.out ?_
                  refine hK _ _ ?_
                  clear hK K
                  simp only [Act.put, List.setIfInBounds_toArray]
                  refine wpAnyIn_ready (rs := [7]) (by kernel_rfl) (by simp) ?_
                  refine AllReadyIn.cons rfl (fun K hK => ?_) ?_
                  · go_simp
                    refine hK _ _ ?_
                    clear hK K
                    refine wpAnyIn_done (by kernel_rfl) ?_ _
                    exact ⟨HP.out.2.2.1, HP.out.2.2.2.1, ⟨HP.out.1, HP.out.2.1⟩, HP.out.2.2.2.2⟩
                  exact AllReadyIn.nil
                exact AllReadyIn.nil
              exact AllReadyIn.nil
            refine AllReadyIn.cons rfl (fun K hK => ?_) ?_
            · go_simp
              refine hK _ _ ?_
              clear hK K
              refine wpAnyIn_ready (rs := [0]) (by kernel_rfl) (by simp) ?_
              refine AllReadyIn.cons rfl (fun K hK => ?_) ?_
              · go_simp
                refine hK _ _ ?_
                clear hK K
                refine wpAnyIn_ready (rs := [6]) (by kernel_rfl) (by simp) ?_
                refine AllReadyIn.cons rfl (fun K hK => ?_) ?_
                · refine step_app_in rfl (.tmp 14) (.tmp 19) 55 rfl _ _ rfl rfl _ _ HRUN.out ?_
                  refine hK _ _ ?_
                  clear hK K
                  simp only [Act.put, List.setIfInBounds_toArray]
                  refine wpAnyIn_ready (rs := [7]) (by kernel_rfl) (by simp) ?_
                  refine AllReadyIn.cons rfl (fun K hK => ?_) ?_
                  · go_simp
                    refine hK _ _ ?_
                    clear hK K
                    refine wpAnyIn_done (by kernel_rfl) ?_ _
                    exact ⟨HP.out.2.2.1, HP.out.2.2.2.1, ⟨HP.out.1, HP.out.2.1⟩, HP.out.2.2.2.2⟩
                  exact AllReadyIn.nil
                exact AllReadyIn.nil
              exact AllReadyIn.nil
            exact AllReadyIn.nil
          exact AllReadyIn.nil
        exact AllReadyIn.nil
      refine AllReadyIn.cons rfl (fun K hK => ?_) ?_
      · go_simp
        gi_wp2_with (refine ⟨trivial, ?_⟩; gi_at_call 52; refine (CallsIn.inRound l (callsIn_wide.2 HCL.out)).mono ?_; rintro e' w2 ⟨g2, c2, rfl, ho2, hb2⟩; obtain ⟨g3, c3, w3, HRUN, ⟨p4, p5⟩, HP⟩ := HAP.out w2 g2 c2 hb2 ho2; have q1 := (hb2.cell (p := ⟨w.heap.size + 1, 0, none⟩) hlt1).trans cV; have q2 := (hb2.cell (p := ⟨w.heap.size, 0, none⟩) hlt0).trans cS; have q1b := (World.cell?_alloc_some w2 ⟨w.heap.size + 1, 0, none⟩ (.cells #[.int .i64 2, .int .i64 0, .int .i64 st, .slice (some ⟨g2, 0, none⟩) (min 1024 (len - x.1 * 1024)) c2] 60) (by rw [q1]; rfl)).trans q1; have s2 := hb2.size; clear ho2 hb2)
        refine wpAnyIn_ready (rs := [0, 1]) (by kernel_rfl) (by simp) ?_
        refine AllReadyIn.cons rfl (fun K hK => ?_) ?_
        · go_simp
          refine hK _ _ ?_
          clear hK K
          refine wpAnyIn_ready (rs := [1]) (by kernel_rfl) (by simp) ?_
          refine AllReadyIn.cons rfl (fun K hK => ?_) ?_
          · go_simp
            refine hK _ _ ?_
            clear hK K
            refine wpAnyIn_ready (rs := [4]) (by kernel_rfl) (by simp) ?_
            refine AllReadyIn.cons rfl (fun K hK => ?_) ?_
            · go_simp
              refine hK _ _ ?_
              clear hK K
              refine wpAnyIn_ready (rs := [5]) (by kernel_rfl) (by simp) ?_
              refine AllReadyIn.cons rfl (fun K hK => ?_) ?_
              · go_simp
                refine hK _ _ ?_
                clear hK K
                refine wpAnyIn_ready (rs := [6]) (by kernel_rfl) (by simp) ?_
                refine AllReadyIn.cons rfl (fun K hK => ?_) ?_
                · refine step_app_in rfl (.tmp 14) (.tmp 19) 55 rfl _ _ rfl rfl _ _ HRUN.out ?_
                  refine hK _ _ ?_
                  clear hK K
                  simp only [Act.put, List.setIfInBounds_toArray]
                  refine wpAnyIn_ready (rs := [7]) (by kernel_rfl) (by simp) ?_
                  refine AllReadyIn.cons rfl (fun K hK => ?_) ?_
                  · go_simp
                    refine hK _ _ ?_
                    clear hK K
                    refine wpAnyIn_done (by kernel_rfl) ?_ _
                    exact ⟨HP.out.2.2.1, HP.out.2.2.2.1, ⟨HP.out.1, HP.out.2.1⟩, HP.out.2.2.2.2⟩
                  exact AllReadyIn.nil
                exact AllReadyIn.nil
              exact AllReadyIn.nil
            exact AllReadyIn.nil
          exact AllReadyIn.nil
        refine AllReadyIn.cons rfl (fun K hK => ?_) ?_
        · go_simp
          refine hK _ _ ?_
          clear hK K
          refine wpAnyIn_ready (rs := [0, 4]) (by kernel_rfl) (by simp) ?_
          refine AllReadyIn.cons rfl (fun K hK => ?_) ?_
          · go_simp
            refine hK _ _ ?_
            clear hK K
            refine wpAnyIn_ready (rs := [4]) (by kernel_rfl) (by simp) ?_
            refine AllReadyIn.cons rfl (fun K hK => ?_) ?_
            · go_simp
              refine hK _ _ ?_
              clear hK K
              refine wpAnyIn_ready (rs := [5]) (by kernel_rfl) (by simp) ?_
              refine AllReadyIn.cons rfl (fun K hK => ?_) ?_
              · go_simp
                refine hK _ _ ?_
                clear hK K
                refine wpAnyIn_ready (rs := [6]) (by kernel_rfl) (by simp) ?_
                refine AllReadyIn.cons rfl (fun K hK => ?_) ?_
                · refine step_app_in rfl (.tmp 14) (.tmp 19) 55 rfl _ _ rfl rfl _ _ HRUN.out ?_
                  refine hK _ _ ?_
                  clear hK K
                  simp only [Act.put, List.setIfInBounds_toArray]
                  refine wpAnyIn_ready (rs := [7]) (by kernel_rfl) (by simp) ?_
                  refine AllReadyIn.cons rfl (fun K hK => ?_) ?_
                  · go_simp
                    refine hK _ _ ?_
                    clear hK K
                    refine wpAnyIn_done (by kernel_rfl) ?_ _
                    exact ⟨HP.out.2.2.1, HP.out.2.2.2.1, ⟨HP.out.1, HP.out.2.1⟩, HP.out.2.2.2.2⟩
                  exact AllReadyIn.nil
                exact AllReadyIn.nil
              exact AllReadyIn.nil
            exact AllReadyIn.nil
          refine AllReadyIn.cons rfl (fun K hK => ?_) ?_
          · go_simp
            refine hK _ _ ?_
            clear hK K
            refine wpAnyIn_ready (rs := [0, 5]) (by kernel_rfl) (by simp) ?_
            refine AllReadyIn.cons rfl (fun K hK => ?_) ?_
            · go_simp
              refine hK _ _ ?_
              clear hK K
              refine wpAnyIn_ready (rs := [5]) (by kernel_rfl) (by simp) ?_
              refine AllReadyIn.cons rfl (fun K hK => ?_) ?_
              · go_simp
                refine hK _ _ ?_
                clear hK K
                refine wpAnyIn_ready (rs := [6]) (by kernel_rfl) (by simp) ?_
                refine AllReadyIn.cons rfl (fun K hK => ?_) ?_
                · refine step_app_in rfl (.tmp 14) (.tmp 19) 55 rfl _ _ rfl rfl _ _ HRUN.out ?_
                  refine hK _ _ ?_
                  clear hK K
                  simp only [Act.put, List.setIfInBounds_toArray]
                  refine wpAnyIn_ready (rs := [7]) (by kernel_rfl) (by simp) ?_
                  refine AllReadyIn.cons rfl (fun K hK => ?_) ?_
                  · go_simp
                    refine hK _ _ ?_
                    clear hK K
                    refine wpAnyIn_done (by kernel_rfl) ?_ _
                    exact ⟨HP.out.2.2.1, HP.out.2.2.2.1, ⟨HP.out.1, HP.out.2.1⟩, HP.out.2.2.2.2⟩
                  exact AllReadyIn.nil
                exact AllReadyIn.nil
              exact AllReadyIn.nil
            refine AllReadyIn.cons rfl (fun K hK => ?_) ?_
            · go_simp
              refine hK _ _ ?_
              clear hK K
              refine wpAnyIn_ready (rs := [0]) (by kernel_rfl) (by simp) ?_
              refine AllReadyIn.cons rfl (fun K hK => ?_) ?_
              · go_simp
                refine hK _ _ ?_
                clear hK K
                refine wpAnyIn_ready (rs := [6]) (by kernel_rfl) (by simp) ?_
                refine AllReadyIn.cons rfl (fun K hK => ?_) ?_
                · refine step_app_in rfl (.tmp 14) (.tmp 19) 55 rfl _ _ rfl rfl _ _ HRUN.out ?_
                  refine hK _ _ ?_
                  clear hK K
                  simp only [Act.put, List.setIfInBounds_toArray]
                  refine wpAnyIn_ready (rs := [7]) (by kernel_rfl) (by simp) ?_
                  refine AllReadyIn.cons rfl (fun K hK => ?_) ?_
                  · go_simp
                    refine hK _ _ ?_
                    clear hK K
                    refine wpAnyIn_done (by kernel_rfl) ?_ _
                    exact ⟨HP.out.2.2.1, HP.out.2.2.2.1, ⟨HP.out.1, HP.out.2.1⟩, HP.out.2.2.2.2⟩
                  exact AllReadyIn.nil
                exact AllReadyIn.nil
              exact AllReadyIn.nil
            exact AllReadyIn.nil
          exact AllReadyIn.nil
        exact AllReadyIn.nil
      exact AllReadyIn.nil
    exact AllReadyIn.nil
  case done =>
    rintro D xs W hD hS ⟨⟨⟨⟨v, T, hT, bV, hown, hnil, hbod⟩, bS1⟩, bA1, bN1⟩, hB⟩ hK
    have hTr : T.map (·.1) = List.range ((len + 1024 - 1) / 1024) := hT.trans hS
    have HBY : Hid (∀ x ∈ Z, 0 ≤ x ∧ x < 256) := by
      rcases hA with h | ⟨_, h⟩
      · have : Z = [] := List.eq_nil_of_length_eq_zero (by omega)
        rw [this]; intro x hx; cases hx
      · exact byte_mem h.hbyte
    have hTl : T.length = (len + 1024 - 1) / 1024 := by have := congrArg List.length hTr; simpa using this
    have cV := bV.cell
    have fV := bV.frozen
    have cS := bS1.cell
    rcases Nat.eq_zero_or_pos len with h0 | hp
    · have hT0 : T = [] := List.eq_nil_of_length_eq_zero (by rw [hTl]; omega)
      subst hT0
      obtain rfl := hnil rfl
      have hZ0 : Z = [] := List.eq_nil_of_length_eq_zero (by omega)
      have sB := hB.size
      have HBV := hide bV
      have HB := hide hB
      have HK := hide hK
      have hne0 : w.heap.size + 1 < W.heap.size := bV.lt
      have HN0 : Hid (nP len = 1) := by show _ = _; rw [h0]; rfl
      clear hown hbod hT hS hTr hTl hnil bA1 bN1 hA bV hB hK bSt bL bS bN hB0
      gi_wp2_with (gi_at_builtin; refine wpListIn_append_own _ rfl _ _ 55 rfl w.heap.size 60 i0 _ 4 48 Tryz.underlying55 hi hz0 hz1 hz2 rfl (by decide) (.slice none 0 0) 0 [] rfl (World.ownsRow_nil _ _ _ _) ⟨W.heap.size, 0, none⟩ 1 1 [.int .i64 0, .int .i64 0, .int .i64 st, .slice none 0 0] rfl rfl (fun j u hj => by rw [show (⟨W.heap.size, 0, none⟩ : Addr).add j = ⟨W.heap.size, j, none⟩ from by unfold Addr.add; split <;> simp_all, cell_of_row _ _ j _ _ _ (World.alloc_heap_new W _), ← hj]; simp) (by intro u hu; simp at hu; rcases hu with rfl | rfl | rfl <;> rfl) (by decide) (by decide) (by simp; omega) ?_; intro v' w1 hown' hgrow _; obtain ⟨gr, cr, rfl⟩ := ownsRow_succ hown'; obtain ⟨hv1, hv2, hr2, hk2, hb2⟩ := HBV.out.appended (by decide) (World.ownsRow_nil _ _ _ _) (by omega) (by omega) hown' hgrow; have hc1 := hv1.cell; have hf1 := hv1.frozen; have H2 := hide hv2; have R2 := hide hr2; have K2 := hide hk2; have BB2 := hide hb2; clear hv1 hv2 hr2 hk2 hb2 hown' hgrow cV fV)
      subst hZ0
      simp only [Nat.zero_add, List.nil_append] at H2 R2 K2 BB2 ⊢
      obtain ⟨W5, hW5⟩ : ∃ W5, W5 = w1.setCell ⟨w.heap.size + 1, 0, none⟩ (.slice (some ⟨gr, 0, none⟩) 1 cr) := ⟨_, rfl⟩
      rw [← hW5] at H2 R2 K2 BB2 ⊢
      have hK5 : W5.heap[D]? = some (.deferred (some [])) := K2.out.same D _ HK.out rfl
      obtain ⟨_, ⟨hv, _⟩ | ⟨g', cap', cur, hv, hgr, hcur, _⟩⟩ := id R2.out
      · cases hv
      cases hv
      have hgD : gr ≠ D := fun h => by rw [h, hK5] at hcur; cases hcur
      have hne1 : ¬ (gr = w.heap.size + 1) := fun h => by
        have := H2.out.not_row (by decide) R2.out
        simp [Value.ownBlock] at this
        exact this h.symm
      have hne2 : ¬ (w.heap.size + 1 = gr) := fun h => hne1 h.symm
      have HFR : Hid (∀ d jj, (W5.drewN d).frozen? ⟨gr, jj, none⟩ = false) := fun d jj => by
        have h : (W5.drewN d).heap[gr]? = W5.heap[gr]? := by rw [drewN_heap]
        rw [World.frozen?, h, hcur]
        simp
      have HCE : Hid (∀ d jj u, ([.int .i64 0, .int .i64 0, .int .i64 st, .slice none 0 0] : List Value)[jj]? = some u → (W5.drewN d).cell? ⟨gr, jj, none⟩ = some u) := fun d jj u hu => by
        have hjl : jj < 1 * 4 := (List.getElem?_eq_some_iff.1 hu).1
        rw [World.cell?_of_block (a := ⟨gr, jj, none⟩) (show (W5.drewN d).heap[gr]? = W5.heap[gr]? by rw [drewN_heap]), R2.out.cellAt jj hjl, hu]
      have HGD := hide hgD
      have HGR := hide hgr
      have HK5 := hide hK5
      have cV5 := H2.out.cell
      have fV5 := H2.out.frozen
      clear hcur hgD hgr hK5 hc1 hf1 hW5 cS bS1
      refine wpIn_wide.2 ?_
      go_quiet (fail)
      have c0 := HCE.out nq 0 _ rfl
      have c1 := HCE.out nq 1 _ rfl
      have f0 := HFR.out nq 0
      have f1 := HFR.out nq 1
      have cV' : (W5.drewN nq).cell? ⟨w.heap.size + 1, 0, none⟩ = some (.slice (some ⟨gr, 0, none⟩) 1 cr) := (World.cell?_of_block (a := ⟨w.heap.size + 1, 0, none⟩) (by rw [drewN_heap])).trans cV5
      obtain ⟨WX, hWX⟩ : ∃ WX, WX = W5.drewN nq := ⟨_, rfl⟩
      rw [← hWX] at c0 c1 f0 f1 cV' ⊢
      have HKX : Hid (WX.heap[D]? = some (.deferred (some []))) := by show _ = _; rw [hWX, drewN_heap]; exact HK5.out
      have HWX := hide hWX
      clear hWX cV5 fV5
      cases e with
      | true =>
        gi_wp2
        refine ⟨by simp, .inl ⟨_, _, rfl, run_takeDeferred (b := D) (ds := []) ?hk, ?_⟩⟩
        case hk =>
          repeat (refine (KeepsOthers.setCell _ _ _).same D _ ?_ rfl)
          exact HKX.out
        refine ⟨_, results_tmp rfl _ _ _, ?_⟩
        have hK5 : (((WX.setCell ⟨gr, 0, none⟩ (.int .i64 1)).setCell ⟨gr, 1, none⟩ (.int .i64 (bits .or .i64 0 1))).setCell ⟨gr, 1, none⟩ (.int .i64 (bits .or .i64 (bits .or .i64 0 1) 4))).heap[D]? = some (.deferred (some [])) := by
          repeat (refine (KeepsOthers.setCell _ _ _).same D _ ?_ rfl)
          exact HKX.out
        obtain ⟨A, C, hfr⟩ := split_fin0 (WF := World.putObj (((WX.setCell ⟨gr, 0, none⟩ (.int .i64 1)).setCell ⟨gr, 1, none⟩ (.int .i64 (bits .or .i64 0 1))).setCell ⟨gr, 1, none⟩ (.int .i64 (bits .or .i64 (bits .or .i64 0 1) 4))) D (.deferred none)) (e := true) R2.out (by
            intro j u hu
            have hu' : WX.cell? ⟨gr, j, none⟩ = some u := (World.cell?_of_block (a := ⟨gr, j, none⟩) (by rw [HWX.out, drewN_heap])).trans hu
            rw [World.cell?_of_block (a := ⟨gr, j, none⟩) (World.putObj_heap_other (by have := HGD.out; omega))]
            have k1 : (WX.setCell ⟨gr, 0, none⟩ (.int .i64 1)).cell? ⟨gr, 1, none⟩ = some (.int .i64 0) := by rw [cell_set c0, if_neg (by decide)]; exact c1
            have k2 : ((WX.setCell ⟨gr, 0, none⟩ (.int .i64 1)).setCell ⟨gr, 1, none⟩ (.int .i64 (bits .or .i64 0 1))).cell? ⟨gr, 1, none⟩ = some (.int .i64 (bits .or .i64 0 1)) := by rw [cell_set k1, if_pos rfl]
            rw [cell_set k2, cell_set k1, cell_set c0, hu']
            have b5 : bits .or .i64 (bits .or .i64 0 1) 4 = 5 := by decide
            by_cases e0 : j = 0
            · subst e0; simp
            · by_cases e1 : j = 1
              · subst e1; simp [b5]
              · simp [e0, e1])
        refine ⟨gr, cr, A, C, by rw [HN0.out]; rfl, by rw [HN0.out]; exact hfr, ?_⟩
        refine Below.trans ?_ (belowK_b (w := w) (Nat.le_refl _) _ D _ _ (by omega) hK5 rfl rfl)
        repeat (refine Below.setCell ?_ (by show w.heap.size ≤ gr; exact HGR.out) _)
        rw [HWX.out]
        exact drewN_below (HB.out.trans BB2.out) nq
      | false =>
        gi_wp2
        refine ⟨by simp, .inl ⟨_, _, rfl, run_takeDeferred (b := D) (ds := []) ?hk, ?_⟩⟩
        case hk =>
          repeat (refine (KeepsOthers.setCell _ _ _).same D _ ?_ rfl)
          exact HKX.out
        refine ⟨_, results_tmp rfl _ _ _, ?_⟩
        have hK5 : ((WX.setCell ⟨gr, 0, none⟩ (.int .i64 1)).setCell ⟨gr, 1, none⟩ (.int .i64 (bits .or .i64 0 4))).heap[D]? = some (.deferred (some [])) := by
          repeat (refine (KeepsOthers.setCell _ _ _).same D _ ?_ rfl)
          exact HKX.out
        obtain ⟨A, C, hfr⟩ := split_fin0 (WF := World.putObj ((WX.setCell ⟨gr, 0, none⟩ (.int .i64 1)).setCell ⟨gr, 1, none⟩ (.int .i64 (bits .or .i64 0 4))) D (.deferred none)) (e := false) R2.out (by
            intro j u hu
            have hu' : WX.cell? ⟨gr, j, none⟩ = some u := (World.cell?_of_block (a := ⟨gr, j, none⟩) (by rw [HWX.out, drewN_heap])).trans hu
            rw [World.cell?_of_block (a := ⟨gr, j, none⟩) (World.putObj_heap_other (by have := HGD.out; omega))]
            have k2 : (WX.setCell ⟨gr, 0, none⟩ (.int .i64 1)).cell? ⟨gr, 1, none⟩ = some (.int .i64 0) := by rw [cell_set c0, if_neg (by decide)]; exact c1
            rw [cell_set k2, cell_set c0, hu']
            have b4 : bits .or .i64 0 4 = 4 := by decide
            by_cases e0 : j = 0
            · subst e0; simp
            · by_cases e1 : j = 1
              · subst e1; simp [b4]
              · simp [e0, e1])
        refine ⟨gr, cr, A, C, by rw [HN0.out]; rfl, by rw [HN0.out]; exact hfr, ?_⟩
        refine Below.trans ?_ (belowK_b (w := w) (Nat.le_refl _) _ D _ _ (by omega) hK5 rfl rfl)
        repeat (refine Below.setCell ?_ (by show w.heap.size ≤ gr; exact HGR.out) _)
        rw [HWX.out]
        exact drewN_below (HB.out.trans BB2.out) nq
    · have hn : T.length = nP len := by rw [hTl]; unfold nP; omega
      have hpos : 1 ≤ T.length := by rw [hn]; exact nP_pos len
      obtain ⟨gr, cr, cur, rfl, hgr, hcur, hc1, hc2, hcz, hct⟩ := hown.2.resolve_left (by rintro ⟨_, h⟩; omega)
      obtain ⟨m, hm⟩ : ∃ m, T.length = m + 1 := ⟨T.length - 1, by omega⟩
      rw [hm] at cV hown hc1 bV
      have HFR : Hid (∀ d jj, (W.drewN d).frozen? ⟨gr, jj, none⟩ = false) := fun d jj => by
        have h : (W.drewN d).heap[gr]? = W.heap[gr]? := by rw [drewN_heap]
        rw [World.frozen?, h, hcur]
        simp
      have HCE : Hid (∀ d jj u, ((T.map (spC st Z)).flatten)[jj]? = some u → (W.drewN d).cell? ⟨gr, jj, none⟩ = some u) := fun d jj u hu => by
        have h : (W.drewN d).heap[gr]? = W.heap[gr]? := (drewN_below (B := W.heap.size) (Below.refl _ _) d).block gr (Array.getElem?_eq_some_iff.1 hcur).1
        have hjl : jj < (m + 1) * 4 := by
          have h1 := (List.getElem?_eq_some_iff.1 hu).1
          rw [hown.1] at h1; exact h1
        have h2 := hown.cellAt jj hjl
        have h3 : (W.drewN d).cell? ⟨gr, jj, none⟩ = W.cell? ⟨gr, jj, none⟩ := World.cell?_of_block (a := ⟨gr, jj, none⟩) h
        rw [h3, h2, hu]
      have HG : Hid (∀ t, t < m + 1 → ∃ q, T[t]? = some q ∧ q.1 = t ∧ ((T.map (spC st Z)).flatten)[t * 4]? = some (.int .i64 2) ∧ ((T.map (spC st Z)).flatten)[t * 4 + 1]? = some (.int .i64 0) ∧ ((T.map (spC st Z)).flatten)[t * 4 + 2]? = some (.int .i64 st) ∧ ((T.map (spC st Z)).flatten)[t * 4 + 3]? = some (.slice (some ⟨q.2.1, 0, none⟩) (pc Z t).length q.2.2)) := fun t ht => spC_get st Z T t (by omega) (by rw [hTr, ← hTl, hm])
      have hne1 : ¬ (gr = w.heap.size + 1) := fun h => by
        have := bV.not_row (by decide) hown
        simp [Value.ownBlock] at this
        exact this h.symm
      have hne2 : ¬ (w.heap.size + 1 = gr) := fun h => hne1 h.symm
      have HTR : Hid (T.map (·.1) = List.range T.length) := by show _ = _; rw [hTr, hTl]
      have HTL := hide hm
      have HNP : Hid (m + 1 = nP len) := by show _ = _; omega
      have hgD : gr ≠ D := fun h => by rw [h, hK] at hcur; cases hcur
      have HGD := hide hgD
      have HGR := hide hgr
      have HT := hide hT
      have HOWN := hide hown
      have HBOD := hide hbod
      have HB := hide hB
      have HK := hide hK
      have HBV := hide bV
      have HCU := hide hcur
      have i1 : (0 : Int) < (m : Int) + 1 := by omega
      have i2 : (0 : Int) ≤ (m : Int) := by omega
      have i3 : (m : Int) < (m : Int) + 1 := by omega
      have i4 : ¬ ((m : Int) + 1 = 0) := by omega
      obtain ⟨qm, _, _, z2, z3, z4, _⟩ := HG.out m (by omega)
      obtain ⟨q0, _, _, y2, y3, y4, _⟩ := HG.out 0 (by omega)
      have Z3 := hide z3
      have Y2 := hide y2
      have Y3 := hide y3
      have hmx4 : m * 4 + 4 ≤ 9223372036854775807 := by
        have h1 : m + 1 = nP len := by omega
        unfold nP at h1; omega
      clear hT hS hTr hTl hown hbod hB hK bV hcur hnil bS1 bA1 bN1 hct hcz hgr z2 z3 z4 y2 y3 y4 hA hn hpos hgD bSt bL bS bN hB0 hm
      gi_wp2
      refine wpIn_wide.2 ?_
      go_quiet (fail)
      have c0 := HCE.out nq 0 _ Y2.out
      have c1 := HCE.out nq 1 _ Y3.out
      have cm := HCE.out nq (m * 4 + 1) _ Z3.out
      have f0 := HFR.out nq 0
      have f1 := HFR.out nq 1
      have fm := HFR.out nq (m * 4 + 1)
      have cV' : (W.drewN nq).cell? ⟨w.heap.size + 1, 0, none⟩ = some (.slice (some ⟨gr, 0, none⟩) (m + 1) cr) := ((drewN_below (B := W.heap.size) (Below.refl _ _) nq).cell (p := ⟨w.heap.size + 1, 0, none⟩) HBV.out.lt).trans cV
      obtain ⟨WX, hWX⟩ : ∃ WX, WX = W.drewN nq := ⟨_, rfl⟩
      rw [← hWX] at c0 c1 cm f0 f1 fm cV' ⊢
      have HKX : Hid (WX.heap[D]? = some (.deferred (some []))) := by show _ = _; rw [hWX, drewN_heap]; exact HK.out
      have HWX := hide hWX
      clear hWX cV fV cS
      cases e with
      | true =>
        rcases Nat.eq_zero_or_pos m with rfl | hmp
        · simp only [Nat.zero_mul, Nat.zero_add] at cm fm cV' ⊢
          gi_wp2
          refine ⟨by simp, .inl ⟨_, _, rfl, run_takeDeferred (b := D) (ds := []) ?hk, ?_⟩⟩
          case hk =>
            repeat (refine (KeepsOthers.setCell _ _ _).same D _ ?_ rfl)
            exact HKX.out
          refine ⟨_, results_tmp rfl _ _ _, ?_⟩
          have hK5 : (((WX.setCell ⟨gr, 0, none⟩ (.int .i64 1)).setCell ⟨gr, 1, none⟩ (.int .i64 (bits .or .i64 0 1))).setCell ⟨gr, 1, none⟩ (.int .i64 (bits .or .i64 (bits .or .i64 0 1) 4))).heap[D]? = some (.deferred (some [])) := by
            repeat (refine (KeepsOthers.setCell _ _ _).same D _ ?_ rfl)
            exact HKX.out
          obtain ⟨A, C, hfr⟩ := split_fin (WF := World.putObj (((WX.setCell ⟨gr, 0, none⟩ (.int .i64 1)).setCell ⟨gr, 1, none⟩ (.int .i64 (bits .or .i64 0 1))).setCell ⟨gr, 1, none⟩ (.int .i64 (bits .or .i64 (bits .or .i64 0 1) 4))) D (.deferred none)) (e := true) HTR.out HTL.out HBY.out HOWN.out HBOD.out HK.out (by
              intro b hb hd
              rw [World.putObj_heap_other (by omega)]
              repeat rw [heap_set _ _ _ _ _ hb]
              rw [HWX.out, drewN_heap]) (by
              intro j u hu
              have hu' : WX.cell? ⟨gr, j, none⟩ = some u := (World.cell?_of_block (a := ⟨gr, j, none⟩) (by rw [HWX.out, drewN_heap])).trans hu
              rw [World.cell?_of_block (a := ⟨gr, j, none⟩) (World.putObj_heap_other (by have := HGD.out; omega))]
              have k1 : (WX.setCell ⟨gr, 0, none⟩ (.int .i64 1)).cell? ⟨gr, 1, none⟩ = some (.int .i64 0) := by rw [cell_set c0, if_neg (by decide)]; exact c1
              have k2 : ((WX.setCell ⟨gr, 0, none⟩ (.int .i64 1)).setCell ⟨gr, 1, none⟩ (.int .i64 (bits .or .i64 0 1))).cell? ⟨gr, 1, none⟩ = some (.int .i64 (bits .or .i64 0 1)) := by rw [cell_set k1, if_pos rfl]
              rw [cell_set k2, cell_set k1, cell_set c0, hu']
              have b5 : bits .or .i64 (bits .or .i64 0 1) 4 = 5 := by decide
              by_cases e0 : j = 0
              · subst e0; simp
              · by_cases e1 : j = 1
                · subst e1; simp [b5]
                · simp [e0, e1])
          refine ⟨gr, cr, A, C, by rw [← HNP.out]; rfl, by rw [← HNP.out]; exact hfr, ?_⟩
          refine Below.trans ?_ (belowK_b (w := w) (Nat.le_refl _) _ D _ _ (by omega) hK5 rfl rfl)
          repeat (refine Below.setCell ?_ (by show w.heap.size ≤ gr; exact HGR.out) _)
          rw [HWX.out]
          exact drewN_below HB.out nq
        · have m1 : ¬ (m * 4 + 1 = 1) := by omega
          have m2 : ¬ (m * 4 + 1 = 0) := by omega
          have m3 : ¬ (m = 0) := by omega
          gi_wp2
          refine ⟨by simp, .inl ⟨_, _, rfl, run_takeDeferred (b := D) (ds := []) ?hk, ?_⟩⟩
          case hk =>
            repeat (refine (KeepsOthers.setCell _ _ _).same D _ ?_ rfl)
            exact HKX.out
          refine ⟨_, results_tmp rfl _ _ _, ?_⟩
          have hK5 : (((WX.setCell ⟨gr, 0, none⟩ (.int .i64 1)).setCell ⟨gr, 1, none⟩ (.int .i64 (bits .or .i64 0 1))).setCell ⟨gr, m * 4 + 1, none⟩ (.int .i64 (bits .or .i64 0 4))).heap[D]? = some (.deferred (some [])) := by
            repeat (refine (KeepsOthers.setCell _ _ _).same D _ ?_ rfl)
            exact HKX.out
          obtain ⟨A, C, hfr⟩ := split_fin (WF := World.putObj (((WX.setCell ⟨gr, 0, none⟩ (.int .i64 1)).setCell ⟨gr, 1, none⟩ (.int .i64 (bits .or .i64 0 1))).setCell ⟨gr, m * 4 + 1, none⟩ (.int .i64 (bits .or .i64 0 4))) D (.deferred none)) (e := true) HTR.out HTL.out HBY.out HOWN.out HBOD.out HK.out (by
              intro b hb hd
              rw [World.putObj_heap_other (by omega)]
              repeat rw [heap_set _ _ _ _ _ hb]
              rw [HWX.out, drewN_heap]) (by
              intro j u hu
              have hu' : WX.cell? ⟨gr, j, none⟩ = some u := (World.cell?_of_block (a := ⟨gr, j, none⟩) (by rw [HWX.out, drewN_heap])).trans hu
              rw [World.cell?_of_block (a := ⟨gr, j, none⟩) (World.putObj_heap_other (by have := HGD.out; omega))]
              have k1 : (WX.setCell ⟨gr, 0, none⟩ (.int .i64 1)).cell? ⟨gr, 1, none⟩ = some (.int .i64 0) := by rw [cell_set c0, if_neg (by decide)]; exact c1
              have k2 : ((WX.setCell ⟨gr, 0, none⟩ (.int .i64 1)).setCell ⟨gr, 1, none⟩ (.int .i64 (bits .or .i64 0 1))).cell? ⟨gr, m * 4 + 1, none⟩ = some (.int .i64 0) := by rw [cell_set k1, if_neg m1, cell_set c0, if_neg m2]; exact cm
              rw [cell_set k2, cell_set k1, cell_set c0, hu']
              have b4 : bits .or .i64 0 4 = 4 := by decide
              have b1 : bits .or .i64 0 1 = 1 := by decide
              by_cases e0 : j = 0
              · subst e0; simp
              · by_cases e1 : j = m * 4 + 1
                · subst e1; simp [b4, m3]
                · by_cases e2 : j = 1
                  · subst e2
                    rw [if_neg e1, if_pos rfl, if_neg (by decide), if_neg e1, if_pos ⟨rfl, rfl⟩, b1]
                  · simp [e0, e1, e2])
          refine ⟨gr, cr, A, C, by rw [← HNP.out]; rfl, by rw [← HNP.out]; exact hfr, ?_⟩
          refine Below.trans ?_ (belowK_b (w := w) (Nat.le_refl _) _ D _ _ (by omega) hK5 rfl rfl)
          repeat (refine Below.setCell ?_ (by show w.heap.size ≤ gr; exact HGR.out) _)
          rw [HWX.out]
          exact drewN_below HB.out nq
      | false =>
        have m2 : ¬ (m * 4 + 1 = 0) := by omega
        gi_wp2
        refine ⟨by simp, .inl ⟨_, _, rfl, run_takeDeferred (b := D) (ds := []) ?hk, ?_⟩⟩
        case hk =>
          repeat (refine (KeepsOthers.setCell _ _ _).same D _ ?_ rfl)
          exact HKX.out
        refine ⟨_, results_tmp rfl _ _ _, ?_⟩
        have hK5 : ((WX.setCell ⟨gr, 0, none⟩ (.int .i64 1)).setCell ⟨gr, m * 4 + 1, none⟩ (.int .i64 (bits .or .i64 0 4))).heap[D]? = some (.deferred (some [])) := by
          repeat (refine (KeepsOthers.setCell _ _ _).same D _ ?_ rfl)
          exact HKX.out
        obtain ⟨A, C, hfr⟩ := split_fin (WF := World.putObj ((WX.setCell ⟨gr, 0, none⟩ (.int .i64 1)).setCell ⟨gr, m * 4 + 1, none⟩ (.int .i64 (bits .or .i64 0 4))) D (.deferred none)) (e := false) HTR.out HTL.out HBY.out HOWN.out HBOD.out HK.out (by
            intro b hb hd
            rw [World.putObj_heap_other (by omega)]
            repeat rw [heap_set _ _ _ _ _ hb]
            rw [HWX.out, drewN_heap]) (by
            intro j u hu
            have hu' : WX.cell? ⟨gr, j, none⟩ = some u := (World.cell?_of_block (a := ⟨gr, j, none⟩) (by rw [HWX.out, drewN_heap])).trans hu
            rw [World.cell?_of_block (a := ⟨gr, j, none⟩) (World.putObj_heap_other (by have := HGD.out; omega))]
            have k2 : (WX.setCell ⟨gr, 0, none⟩ (.int .i64 1)).cell? ⟨gr, m * 4 + 1, none⟩ = some (.int .i64 0) := by rw [cell_set c0, if_neg m2]; exact cm
            rw [cell_set k2, cell_set c0, hu']
            have b4 : bits .or .i64 0 4 = 4 := by decide
            by_cases e0 : j = 0
            · subst e0; simp
            · by_cases e1 : j = m * 4 + 1
              · subst e1; simp [b4]
              · simp [e0, e1])
        refine ⟨gr, cr, A, C, by rw [← HNP.out]; rfl, by rw [← HNP.out]; exact hfr, ?_⟩
        refine Below.trans ?_ (belowK_b (w := w) (Nat.le_refl _) _ D _ _ (by omega) hK5 rfl rfl)
        repeat (refine Below.setCell ?_ (by show w.heap.size ≤ gr; exact HGR.out) _)
        rw [HWX.out]
        exact drewN_below HB.out nq
  case stop =>
    rintro D c pre W _ _ h _
    exact h.elim
/-- frame.Split, whole. -/
theorem split_any (st : Int) (a : Option Addr) (len cap : Nat) (Z : List Int) (e : Bool) (w : World) (hA : Arg w a len cap Z) (hZ : Z.length = len) (hl : len ≤ 140737488351232) :
    Calls Tryz.prog 80 #[.int .i64 st, .slice a len cap, .bool e] w fun r w' => ∃ (g' c' : Nat) (A : Nat → Option Addr) (C : Nat → Nat), r = .returned (.slice (some ⟨g', 0, none⟩) (nP len) c') ∧ FrRow w' g' 0 (nP len) c' (sfr st Z e (nP len)) A C ∧ Below w.heap.size w w' := by
  rcases hA with ⟨h0, _⟩ | ⟨g, off, ha, hr⟩
  · exact callsIn_wide.1 (split_loop st a 0 0 len cap Z e w (Or.inl h0) hZ hl)
  · exact callsIn_wide.1 (split_loop st a g off len cap Z e w (Or.inr ⟨ha, hr⟩) hZ hl)
end Go.Proofs.YtdlaaollamgplagGreatDoor
