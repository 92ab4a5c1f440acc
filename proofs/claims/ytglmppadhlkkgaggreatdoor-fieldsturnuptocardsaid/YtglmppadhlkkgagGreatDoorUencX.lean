/-
  CONTRACT of the Go function chunk.Encode. No claim by itself.
-/
import Derived.Test.YtglmppadhlkkgagGreatDoorChunk9X
import Derived.Test.YtglmppadhlkkgagGreatDoorUbackX
namespace Go.Proofs.YtglmppadhlkkgagGreatDoor
open Go Go.RowKit Go.Shelf
set_option maxRecDepth 100000
attribute [local go_sem] Oper.semAt_some
/-- The first k pieces, written. -/
def fstP (s : Nat) : Nat → List Int → List Int
  | 0, _ => []
  | k + 1, B => if B = [] then [] else piece (B.take s) ++ fstP s k (B.drop s)
theorem fst_snoc (s : Nat) : ∀ (k : Nat) (B : List Int), k * s < B.length → fstP s (k + 1) B = fstP s k B ++ piece ((B.drop (k * s)).take s) := by
  intro k
  induction k with
  | zero =>
    intro B hB
    have hne : B ≠ [] := fun e => by rw [e] at hB; simp at hB
    simp [fstP, hne]
  | succ k ih =>
    intro B hB
    have hne : B ≠ [] := fun e => by rw [e] at hB; simp at hB
    have hk : (k + 1) * s = s + k * s := by rw [Nat.add_mul, Nat.one_mul, Nat.add_comm]
    rw [fstP, if_neg hne, ih (B.drop s) (by rw [List.length_drop]; omega), fstP, if_neg hne, List.append_assoc, List.drop_drop, hk]
theorem fst_all (s : Nat) (hs : 1 ≤ s) : ∀ (k : Nat) (B : List Int), B.length ≤ k * s → fstP s k B ++ endL = chunkL s B := by
  intro k
  induction k with
  | zero =>
    intro B hB
    obtain rfl : B = [] := List.eq_nil_of_length_eq_zero (by omega)
    rfl
  | succ k ih =>
    intro B hB
    by_cases hne : B = []
    · subst hne; simp [fstP, chunk_nil]
    · rw [fstP, if_neg hne, List.append_assoc, ih (B.drop s) (by rw [List.length_drop, Nat.add_mul] at *; omega), chunk_more hs hne]
/-- Pieces, by their numbers, written. -/
def accP (s : Nat) (B : List Int) (l : List Nat) : List Int := (l.map fun i => piece ((B.drop (i * s)).take s)).flatten
theorem acc_snoc (s : Nat) (B : List Int) (l : List Nat) (i : Nat) : accP s B (l ++ [i]) = accP s B l ++ piece ((B.drop (i * s)).take s) := by simp [accP]
theorem acc_fst (s : Nat) (hs : 1 ≤ s) (B : List Int) : ∀ k, k * s < B.length + s → accP s B (List.range k) = fstP s k B := by
  intro k
  induction k with
  | zero => intro _; rfl
  | succ k ih =>
    intro h
    rw [Nat.add_mul, Nat.one_mul] at h
    rw [List.range_succ, acc_snoc, ih (by omega), fst_snoc s k B (by omega)]
theorem acc_all (s : Nat) (hs : 1 ≤ s) (B : List Int) : accP s B (List.range ((B.length + s - 1) / s)) ++ endL = chunkL s B := by
  have h1 := Nat.div_mul_le_self (B.length + s - 1) s
  have h2 := Nat.lt_div_mul_add (a := B.length + s - 1) (b := s) (by omega)
  rw [acc_fst s hs B _ (by omega), fst_all s hs _ B (by omega)]
theorem piece_ne (P : List Int) : piece P ≠ [] := fun e => by
  have := congrArg List.length e
  simp [piece] at this
theorem acc_ne (s : Nat) (B : List Int) (l : List Nat) (h : accP s B l = []) : l = [] := by
  cases l with
  | nil => rfl
  | cons i r =>
    unfold accP at h
    rw [List.map_cons, List.flatten_cons] at h
    exact absurd (List.append_eq_nil_iff.1 h).1 (piece_ne _)
theorem acc_len (s : Nat) (hs : s ≤ 8000) (B : List Int) : ∀ l : List Nat, (accP s B l).length ≤ l.length * (s + 8) := by
  intro l
  induction l with
  | nil => simp [accP]
  | cons i r ih =>
    have e : accP s B (i :: r) = piece ((B.drop (i * s)).take s) ++ accP s B r := by simp [accP]
    have hp : (piece ((B.drop (i * s)).take s)).length ≤ s + 8 := by
      rw [piece_len]
      have h1 : ((B.drop (i * s)).take s).length ≤ s := by simp; omega
      have h2 := hexL_four (n := ((B.drop (i * s)).take s).length) (by omega)
      omega
    rw [e, List.length_append, List.length_cons, Nat.add_mul, Nat.one_mul]
    omega
theorem row_pc {w : World} {g off len cap s : Nat} {Z : List Int} (h : Row w g off len cap Z) (x : Nat) (hx : x * s < len) : Row w g (off + x * s) (min s (len - x * s)) (min s (len - x * s)) ((Z.drop (x * s)).take s) := by
  have hl := h.hlen
  have hc := h.hcap
  have hm := h.hmax
  obtain ⟨m, hm'⟩ : ∃ m, m = min s (len - x * s) := ⟨_, rfl⟩
  rw [← hm']
  have e : (Z.drop (x * s)).take s = (Z.drop (x * s)).take m := by
    by_cases c : s ≤ len - x * s
    · rw [show m = s by omega]
    · rw [List.take_of_length_le (by simp; omega), List.take_of_length_le (by simp; omega)]
  rw [e]
  have hget : ∀ t, t < m → ((Z.drop (x * s)).take m).getD t 0 = Z.getD (x * s + t) 0 := fun t ht => by simp [List.getD, ht]
  refine ⟨by simp; omega, Nat.le_refl _, by unfold maxLen at *; omega, fun t ht => ?_, fun t => ?_⟩
  · rw [hget t ht, ← h.hcell (x * s + t) (by omega)]
    congr 2
    omega
  · by_cases ht : t < m
    · rw [hget t ht]; exact h.hbyte _
    · have : ((Z.drop (x * s)).take m).getD t 0 = 0 := by rw [List.getD, List.getElem?_eq_none (by simp; omega)]; rfl
      rw [this]; omega
/-- What holds behind the pieces l: their bytes lie in the box. -/
def UeI (w : World) (base s : Nat) (B : List Int) (l : List Nat) (W : World) : Prop := ∃ v, Boxed W w.heap.size 23 v ∧ UOwn W base v (accP s B l) ∧ (accP s B l = [] → v.ownBlock = none)
theorem ueI_own (w : World) (base s : Nat) (B : List Int) : Own (fun (l : List Nat) W => UeI w base s B l W) := by
  rintro l X Y row ⟨v, h1, h2, h3⟩ hg hr
  refine ⟨v, boxed_own (β := Unit) _ _ (fun _ => v) () X Y row h1 hg hr, ?_, h3⟩
  refine h2.grown hg (fun j hj e => ?_)
  obtain ⟨o, ho, hc⟩ := hr j e
  rcases h2 with ⟨rfl, _⟩ | ⟨g, cap, rfl, _, _, _, _, h5, _⟩
  · cases hj
  · have hL : accP s B l ≠ [] := fun e => by have := h3 e; rw [this] at hj; cases hj
    have hc0 := h5 0 (List.length_pos_iff.2 hL)
    cases hj
    simp only [World.cell?, ho] at hc0
    cases o <;> simp at hc0
    cases hc
theorem ueI_from (w : World) (base s : Nat) (B : List Int) (N len b : Nat) : OwnFrom b (fun (pre : List (Pq N len)) W => UeI w base s B (pre.map (·.1)) W) := fun pre X Y row h hg hr => ueI_own w base s B (pre.map (·.1)) X Y row h hg (fun r e => (hr r e).2)
theorem UOwn.shape {w : World} {base : Nat} {v : Value} {L : List Int} (h : UOwn w base v L) : ∃ a n cap, v = .slice a n cap := by
  obtain ⟨a, cap, hv, _⟩ := h.slice
  exact ⟨a, _, cap, hv⟩
/-- Bytes that are there lie in cells: they stay where a list of what is put off is turned. -/
theorem UOwn.put {w : World} {base : Nat} {v : Value} {L : List Int} {D : Nat} {o : Obj} (h : UOwn w base v L) (hne : L ≠ []) (hD : w.heap[D]? = some o) (ho : o.isCells = false) (o' : Obj) : UOwn (w.putObj D o') base v L := by
  refine h.block (by simp) (fun k hk => World.putObj_heap_other ?_)
  rintro rfl
  rcases h with ⟨rfl, _⟩ | ⟨g, cap, rfl, _, _, _, _, h5, _⟩
  · cases hk
  · have hc0 := h5 0 (List.length_pos_iff.2 hne)
    cases hk
    simp only [World.cell?, hD] at hc0
    cases o <;> simp at hc0
    cases ho
set_option maxHeartbeats 4000000 in
theorem uenc_loop (a : Option Addr) (g off len cap s : Nat) (B : List Int) (w : World) (hA : len = 0 ∨ (a = some ⟨g, off, none⟩ ∧ Row w g off len cap B)) (hB : B.length = len) (hs : 1 ≤ s) (hs2 : s ≤ 8000) (hl : len ≤ 8000) (hu : ULaid w) :
    CallsIn Fence.wide 9 Tryz.prog 116 #[.slice a len cap, .int .i64 s] w fun e w' => ∃ v, e = .returned (.tuple #[v, .nilIface]) ∧ UOwn w' w.heap.size v (chunkL s B) ∧ Below w.heap.size w w' := by
  have HCP : Vl (0 < len → len ≤ cap ∧ cap ≤ 9223372036854775807) := fun h => by
    rcases hA with h' | ⟨_, hr⟩
    · omega
    · have h1 := hr.hcap
      have h2 := hr.hmax
      unfold maxLen at h2
      exact ⟨h1, by omega⟩
  have q1 : ¬ ((s : Int) < 1) := by omega
  have q2 : ¬ ((8000 : Int) < (s : Int)) := by omega
  have q3 : ¬ ((8000 : Int) < (len : Int)) := by omega
  have HU := vl hu
  have HA := vl hA
  clear hu hA
  refine callsIn_of_wp_marks Tryz.func116 rfl trivial ?_ rfl
  simp only [Tryz.ntmps116, List.size_toArray, List.length_cons, List.length_nil, Nat.reduceAdd, Nat.reduceSub, Array.replicate_succ, Array.replicate_zero, List.push_toArray, List.append_toArray, List.nil_append, List.cons_append]
  gi_wp2_with (refine ⟨trivial, ?_⟩; gi_at_call 141; refine (callsIn_wide.2 (chunk_call _ _ _ s _ hs)).mono ?_; rintro e w' ⟨rfl, rfl⟩)
  have bL := ((Boxed.new w 23 (.slice none 0 0)).alloc (Obj.cells #[Value.slice a len cap] 23)).alloc (Obj.cells #[Value.int IntKind.i64 s] 3)
  have bS := (Boxed.new (w.alloc (Obj.cells #[Value.slice none 0 0] 23)) 23 (.slice a len cap)).alloc (Obj.cells #[Value.int IntKind.i64 s] 3)
  have bN := Boxed.new ((w.alloc (Obj.cells #[Value.slice none 0 0] 23)).alloc (Obj.cells #[Value.slice a len cap] 23)) 3 (.int .i64 s)
  have hB0 : Below w.heap.size w (((w.alloc (Obj.cells #[Value.slice none 0 0] 23)).alloc (Obj.cells #[Value.slice a len cap] 23)).alloc (Obj.cells #[Value.int IntKind.i64 s] 3)) := (((Below.refl _ w).alloc (Nat.le_refl _) _).alloc (by simp) _).alloc (by simp; omega) _
  have hsz : (((w.alloc (Obj.cells #[Value.slice none 0 0] 23)).alloc (Obj.cells #[Value.slice a len cap] 23)).alloc (Obj.cells #[Value.int IntKind.i64 s] 3)).heap.size = w.heap.size + 3 := by simp
  simp only [World.size_alloc] at bS bN
  obtain ⟨W0, hW0⟩ : ∃ W0, ((w.alloc (Obj.cells #[Value.slice none 0 0] 23)).alloc (Obj.cells #[Value.slice a len cap] 23)).alloc (Obj.cells #[Value.int IntKind.i64 s] 3) = W0 := ⟨_, rfl⟩
  rw [hW0] at bL bS bN hB0 hsz ⊢
  clear hW0
  obtain ⟨N, hN⟩ : ∃ N, N = (len + s - 1) / s := ⟨_, rfl⟩
  have hNs : N * (s + 8) ≤ 90000 := by
    have h1 := Nat.div_mul_le_self (len + s - 1) s
    rw [← hN] at h1
    have h2 : N ≤ N * s := Nat.le_mul_of_pos_right N (by omega)
    by_cases hz : len = 0
    · have h3 : N = 0 := by rw [hN, hz]; exact Nat.div_eq_of_lt (by omega)
      rw [h3]; omega
    · have h4 : N ≤ len := by
        rw [hN]
        refine Nat.le_of_lt_succ ((Nat.div_lt_iff_lt_mul (by omega)).2 ?_)
        have h5 : len ≤ len * s := Nat.le_mul_of_pos_right len (by omega)
        rw [Nat.succ_mul]
        omega
      rw [Nat.mul_add]
      omega
  have HNE : Vl (N = (len + s - 1) / s) := hN
  have hstops := chunk_stops Fence.wide 8 trivial rfl (by decide) a (w.heap.size + 1) (w.heap.size + 1 + 1) w.heap.size g off len cap s hs (by omega) HCP.out (by omega) (HA.out.imp id And.left) W0 bS bN
  rw [← hN] at hstops
  clear hN
  refine wpIn_rangeFunc_ownG (N := N) rfl (by decide) (gf := 198) (lb := #[.pointer (some ⟨w.heap.size + 1, 0, none⟩), .pointer (some ⟨w.heap.size + 1 + 1, 0, none⟩)]) rfl trivial (enters_of Tryz.func198 (by kernel_rfl) rfl)
    hstops
    KpB.trans (fun W l o o' h1 h2 h3 h4 => KpB.put (w := W0) (by omega) (by omega) (by omega) W l o o' h1 h2 h3 h4) (Below.refl _ _) (fun _ => rfl)
    (fun pre W => (UeI w (w.heap.size + 3) s B (pre.map (·.1)) W ∧ (Boxed W (w.heap.size + 1) 23 (.slice a len cap) ∧ Boxed W (w.heap.size + 1 + 1) 3 (.int .i64 s))) ∧ Below w.heap.size w W)
    (fun _ _ _ => False)
    (OwnFrom.and (OwnFrom.and (ueI_from w (w.heap.size + 3) s B s len _) (OwnFrom.and (Own.from (boxed_own _ _ _) _) (Own.from (boxed_own _ _ _) _))) (ownFrom_below (Nat.le_refl _) (by omega)))
    (fun _ _ _ _ _ hs _ _ => hs)
    ⟨⟨⟨_, bL, Or.inl ⟨rfl, rfl⟩, fun _ => rfl⟩, bS, bN⟩, hB0⟩
    (fun x => { tmps := #[Value.slice a len cap, Value.int IntKind.i64 ↑s, undef, undef, Value.slice none 0 0, Value.nilIface, Value.pointer (some ⟨w.heap.size, 0, none⟩), .slice (some ⟨g, off + x.1 * s, none⟩) (min s (len - x.1 * s)) (min s (len - x.1 * s)), Value.int IntKind.i64 ↑s, Value.bool false, Value.bool false, Value.int IntKind.i64 ↑s, Value.bool false, Value.bool false, undef, Value.slice a len cap, Value.int IntKind.i64 ↑len, Value.bool false, undef, Value.slice a len cap, Value.int IntKind.i64 ↑s, Value.func (Fn.func 198) #[] #[Value.pointer (some ⟨w.heap.size + 1, 0, none⟩), Value.pointer (some ⟨w.heap.size + 1 + 1, 0, none⟩)], .slice (some ⟨g, off + x.1 * s, none⟩) (min s (len - x.1 * s)) (min s (len - x.1 * s)), undef, undef, undef, undef, undef], defers := [] }) ?assign ?body ?done ?s
  case assign =>
    intro l x W K hK
    dsimp only [pcV]
    gi_wp2
    exact hK
  case body =>
    rintro l pre x W ⟨⟨⟨v, bV, hown, hne⟩, bS1, bN1⟩, hBW⟩ hlt
    have hx := x.2
    have hrow := row_pc ((HA.out.resolve_left (by omega)).2) x.1 hx
    have hlen := acc_len s hs2 B (pre.map (·.1))
    rw [List.length_map] at hlen
    have hlen2 : (accP s B (pre.map (·.1))).length ≤ 90000 := by
      have : pre.length * (s + 8) ≤ N * (s + 8) := Nat.mul_le_mul_right _ (by omega)
      omega
    have hws : w.heap.size + 2 < W.heap.size := by have := bN1.lt; omega
    have cV := bV.cell
    have H := vl (uappp_any w (w.heap.size + 3) v (accP s B (pre.map (·.1))) _ _ _ _ W HU.out (Or.inr ⟨_, _, rfl, hrow⟩) (fun h => by cases h) (by omega) hBW hown hne (by omega) (by omega) (by omega))
    have HBV := vl bV
    have HS1 := vl bS1
    have HN1 := vl bN1
    have HBW := vl hBW
    have HSN := vl (acc_snoc s B (pre.map (·.1)) x.1)
    clear bV hown hne bS1 bN1 hBW hrow hlen hlen2 bL bS bN hB0 hstops
    gi_wp2_with (refine ⟨trivial, ?_⟩; gi_at_call 180; refine (CallsIn.inRound l (callsIn_wide.2 H.out)).mono ?_; rintro e w1 ⟨v1, rfl, ho1, hb1, hk1⟩; obtain ⟨sa, sn, sc, hsv⟩ := ho1.shape; subst hsv; have bV1 : Boxed w1 w.heap.size 23 v := (hb1.block _ (by omega)).trans HBV.out; have cV1 := bV1.cell; have fV1 := bV1.frozen; have HO1 := vl ho1; have HB1 := vl hb1; have HK1 := vl hk1; have HV1 := vl bV1; clear ho1 hb1 hk1 bV1)
    have hb1 := HB1.out
    have hS2 : Boxed w1 (w.heap.size + 1) 23 (.slice a len cap) := (hb1.block _ (by omega)).trans HS1.out
    have hN2 : Boxed w1 (w.heap.size + 1 + 1) 3 (.int .i64 s) := (hb1.block _ (by omega)).trans HN1.out
    refine ⟨(HK1.out.trans (KeepsOthers.setCell _ _ _)).from _, ⟨(hb1.mono (B' := w.heap.size) (by omega)).setCell (Nat.le_refl _) _, fun o ho => ?_, fun o ho => ?_⟩, ⟨⟨_, HV1.out.set _, ?_, fun e => ?_⟩, hS2.other (by omega) _, hN2.other (by omega) _⟩, (HBW.out.trans (hb1.mono (B' := w.heap.size) (by omega))).setCell (Nat.le_refl _) _⟩
    · rw [← (show W.heap[w.heap.size + 1]? = _ from HS1.out).symm.trans ho]
      exact hS2.other (by omega) _
    · rw [← (show W.heap[w.heap.size + 1 + 1]? = _ from HN1.out).symm.trans ho]
      exact hN2.other (by omega) _
    · rw [List.map_append]
      show UOwn _ _ _ (accP s B (pre.map (·.1) ++ [x.1]))
      rw [HSN.out]
      refine HO1.out.block (by simp [World.setCell]) (fun k hk => Below.heap_setCell _ _ _ _ ?_)
      have := (HO1.out.base k hk).1
      show k ≠ w.heap.size
      omega
    · rw [List.map_append] at e
      have := acc_ne s B _ e
      simp at this
  case done =>
    rintro D xs W hD hS ⟨⟨⟨v, bV, hown, hne⟩, bS1, bN1⟩, hBW⟩ hK
    have hxl : xs.length = N := by have := congrArg List.length hS; simpa using this
    have hlen := acc_len s hs2 B (xs.map (·.1))
    rw [List.length_map, hxl] at hlen
    have hws : w.heap.size + 2 < W.heap.size := by have := bN1.lt; omega
    have cV := bV.cell
    have H := vl (uappp_any w (w.heap.size + 3) v (accP s B (xs.map (·.1))) none 0 0 [] W HU.out (arg_nil _ _ _) (fun _ => rfl) (by omega) hBW hown hne (by omega) (by omega) (by omega))
    have hpz : piece [] = endL := by simp [piece, hexL_one, hx, endL]
    have HALL : Vl (accP s B (xs.map (·.1)) ++ endL = chunkL s B) := by
      show _ = _
      have hS' : xs.map (·.1) = List.range N := hS
      rw [hS', HNE.out, ← hB]
      exact acc_all s hs B
    rw [hpz, HALL.out] at H
    have HBW := vl hBW
    have HK := vl hK
    clear bV hown hne bS1 bN1 hBW hlen bL bS bN hB0 hstops hpz hS hK
    gi_wp2_with (refine ⟨trivial, ?_⟩; gi_at_call 180; refine (callsIn_wide.2 H.out).mono ?_; rintro e w1 ⟨v1, rfl, ho1, hb1, hk1⟩; have HO1 := vl ho1; have HB1 := vl hb1; have HK1 := vl hk1; clear ho1 hb1 hk1)
    have hX2 : w1.heap[D]? = some (.deferred (some [])) := HK1.out.same D _ HK.out rfl
    refine ⟨by simp, .inl ⟨_, _, rfl, run_takeDeferred (b := D) (ds := []) hX2, ?_⟩⟩
    refine ⟨.tuple #[v1, .nilIface], by simp [results, Tryz.results116, go_sem], v1, rfl, ?_, ?_⟩
    · refine (UOwn.mono HO1.out (by omega)).put (fun e => ?_) hX2 rfl _
      have h5 := chunk_pos hs B
      rw [e] at h5
      simp at h5
    · exact (HBW.out.trans (HB1.out.mono (by omega))).trans (belowK_b (w := W0) (by omega) _ D _ _ hD hX2 rfl rfl)
  case s => exact fun _ _ _ _ _ _ h => h.elim
/-- chunk.Encode, whole. -/
theorem uenc_any : UEncSaid := by
  intro a len cap B size w hA hi hu
  have hlen := hA.len
  have HNL : Vl (UOwn w w.heap.size (.slice none 0 0) []) := Or.inl ⟨rfl, rfl⟩
  obtain ⟨i1, i2⟩ := hi
  by_cases h1 : size < 1
  · have e1 : chunksF B size = (1, []) := by unfold chunksF; rw [if_pos (Or.inl h1)]
    rw [e1]
    clear hA hu
    go_enter Tryz.func116, Tryz.ntmps116
    go_wp2
    go_ret2
    exact ⟨_, rfl, HNL.out, Below.refl _ _⟩
  by_cases h2 : 8000 < size
  · have e1 : chunksF B size = (1, []) := by unfold chunksF; rw [if_pos (Or.inr h2)]
    rw [e1]
    clear hA hu
    go_enter Tryz.func116, Tryz.ntmps116
    go_wp2
    go_ret2
    exact ⟨_, rfl, HNL.out, Below.refl _ _⟩
  by_cases h3 : 8000 < len
  · have e1 : chunksF B size = (4, []) := by unfold chunksF; rw [if_neg (by omega), if_pos (by omega)]
    have h3' : (8000 : Int) < (len : Int) := by omega
    rw [e1]
    clear hA hu
    go_enter Tryz.func116, Tryz.ntmps116
    go_wp2
    go_ret2
    exact ⟨_, rfl, HNL.out, Below.refl _ _⟩
  obtain ⟨s, rfl⟩ : ∃ s : Nat, size = s := ⟨size.toNat, by omega⟩
  have e1 : chunksF B (s : Int) = (0, chunkL s B) := by unfold chunksF; rw [if_neg (by omega), if_neg (by omega)]; simp
  rw [e1]
  rcases hA with ⟨h0, hB⟩ | ⟨g, off, ha, hr⟩
  · exact callsIn_wide.1 (uenc_loop a 0 0 len cap s B w (Or.inl h0) hlen (by omega) (by omega) (by omega) hu)
  · exact callsIn_wide.1 (uenc_loop a g off len cap s B w (Or.inr ⟨ha, hr⟩) hlen (by omega) (by omega) (by omega) hu)
end Go.Proofs.YtglmppadhlkkgagGreatDoor
