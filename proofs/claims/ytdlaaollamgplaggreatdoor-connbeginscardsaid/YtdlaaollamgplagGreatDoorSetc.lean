/-
  CONTRACTS of the Go function frame.settings, and of what it hands back. No claim by itself.
-/
import Derived.Test.YtdlaaollamgplagGreatDoorSplit
import Derived.Test.YtdlaaollamgplagGreatDoorChain2
namespace Go.Proofs.YtdlaaollamgplagGreatDoor
open Go Go.RowKit Go.Shelf
set_option maxRecDepth 100000
attribute [local go_sem] Oper.semAt_some
/-- The bytes are boxed; the function value captures the box. -/
theorem settings_call (a : Option Addr) (len cap : Nat) (w : World) :
    Calls Tryz.prog 136 #[.slice a len cap] w fun e w' => e = .returned (.func (.func 197) #[] #[.pointer (some ⟨w.heap.size, 0, none⟩)]) ∧ w' = w.alloc (.cells #[.slice a len cap] 23) := by
  go_enter Tryz.func136, Tryz.ntmps136
  go_wp2
  go_ret
  exact ⟨rfl, rfl⟩
theorem row_lo {w w' : World} {B g off len cap : Nat} {Z : List Int} (h : Row w g off len cap Z) (hb : Below B w w') (hg : g < B) : Row w' g off len cap Z :=
  ⟨h.hlen, h.hcap, h.hmax, fun t ht => (hb.cell (p := ⟨g, off + t, none⟩) hg).trans (h.hcell t ht), h.hbyte⟩
/-- A part of a row. -/
theorem row_part {w : World} {g off len cap : Nat} {Z : List Int} (h : Row w g off len cap Z) (s n c : Nat) (hs : s + n ≤ len) (hc : n ≤ c) (hm : c ≤ maxLen) : Row w g (off + s) n c ((Z.drop s).take n) := by
  have hl := h.hlen
  refine ⟨by simp; omega, hc, hm, fun t ht => ?_, fun t => ?_⟩
  · have e : ((Z.drop s).take n).getD t 0 = Z.getD (s + t) 0 := by simp [List.getD, ht, List.getElem?_drop]
    rw [e, Nat.add_assoc]
    exact h.hcell _ (by omega)
  · by_cases ht : t < n
    · have e : ((Z.drop s).take n).getD t 0 = Z.getD (s + t) 0 := by simp [List.getD, ht, List.getElem?_drop]
      rw [e]; exact h.hbyte _
    · have e : ((Z.drop s).take n).getD t 0 = 0 := by simp [List.getD, List.getElem?_take, ht]
      rw [e]; decide
theorem wpAnyIn_cast {F : Fence} {n : Nat} {P : Program} {md : Region.Mode} {ops : Array Oper} {Q : Exit → Act → World → Prop} {fuel : Nat} {l l' : Array Bool} {a : Act} {w : World} (e : l = l') (h : wpAnyIn F n P md ops Q fuel l' a w) : wpAnyIn F n P md ops Q fuel l a w := e ▸ h
/-- A setting, as a value. -/
def sArr (Z : List Int) (x : Nat) : Value := .agg #[.int .i64 (sId Z x), .int .i64 (sVal Z x)]
def sEnc (Z : List Int) (len : Nat) (x : Pc 6 len) : Array Value := #[sArr Z x.1]
def sAll (len : Nat) (ys : List (Pc 6 len)) : Prop := ys.map (·.1) = List.range ((len + 6 - 1) / 6)
def sSome (len : Nat) (pre : List (Pc 6 len)) : Prop := ∃ k, k ≤ (len + 6 - 1) / 6 ∧ pre.map (·.1) = List.range k
theorem ownFrom_mono {β : Type} {B B' : Nat} {I : β → World → Prop} (h : OwnFrom B I) (hb : B ≤ B') : OwnFrom B' I := fun s W W' row hs hg hr => h s W W' row hs hg (fun r e => ⟨Nat.le_trans hb (hr r e).1, (hr r e).2⟩)
set_option maxHeartbeats 8000000 in
theorem settings_own (a : Option Addr) (g off len cap n₀ Bb : Nat) (Z : List Int) (w : World) (h6 : len % 6 = 0) (hm : len ≤ 4611686018427387904) (hA : len = 0 ∨ (a = some ⟨g, off, none⟩ ∧ Row w g off len cap Z)) (hg : len = 0 ∨ g < n₀) (hB : Boxed w Bb 23 (.slice a len cap)) (hn₀ : n₀ ≤ w.heap.size) :
    SeqOwn2 Fence.wide 8 Tryz.prog 197 #[.pointer (some ⟨Bb, 0, none⟩)] (sEnc Z len) n₀ (sAll len) (sSome len) ((len + 6 - 1) / 6) 3 w := fun l J Jx W hW hJ hJx hY h0 => by
  have HCP : Hid (0 < len → len ≤ cap ∧ cap ≤ 9223372036854775807) := fun h => by
    rcases hA with h' | ⟨_, hr⟩
    · omega
    · have h1 := hr.hcap
      have h2 := hr.hmax
      unfold maxLen at h2
      exact ⟨h1, by omega⟩
  have hlc : len ≤ cap := by
    rcases Nat.eq_zero_or_pos len with h | h
    · omega
    · exact (HCP.out h).1
  have hlc' : (len : Int) ≤ (cap : Int) := by omega
  have r6 : (len : Int) % 6 = 0 := by omega
  have t6 : (len : Int).tmod 6 = 0 := by rw [Int.tmod_eq_emod_of_nonneg (by omega)]; omega
  have hadd : (a.map fun x => x.add 0) = a := by cases a <;> rfl
  have hBW : Boxed W Bb 23 (.slice a len cap) := (hW.block _ hB.lt).trans hB
  have hAW : len = 0 ∨ (a = some ⟨g, off, none⟩ ∧ Row W g off len cap Z) := hA.imp id (fun h => ⟨h.1, h.2.below hW⟩)
  have hn : n₀ ≤ W.heap.size := Nat.le_trans hn₀ hW.size
  have cB := hBW.cell
  have cB2 := (hBW.alloc (.cells #[.func (.yield l) #[] #[]] 242)).cell
  have HY := hide hY
  clear hB hA hW hn₀ hY
  refine callsIn_of_wp_marks Tryz.func197 rfl trivial ?_ rfl
  simp only [Tryz.ntmps197, List.size_toArray, List.length_cons, List.length_nil, Nat.reduceAdd, Nat.reduceSub, Array.replicate_succ, Array.replicate_zero, List.push_toArray, List.append_toArray, List.nil_append, List.cons_append]
  gi_wp2_with (refine ⟨trivial, ?_⟩; gi_at_call 141; refine (callsIn_wide.2 (chunk_call _ _ _ 6 _ (by decide))).mono ?_; rintro e w' ⟨rfl, rfl⟩)
  clear cB cB2 r6 t6 hadd hlc'
  have bY := ((Boxed.new W 242 (.func (.yield l) #[] #[])).alloc (Obj.cells #[Value.slice a len cap] 23)).alloc (Obj.cells #[Value.int IntKind.i64 6] 3)
  have bS := (Boxed.new (W.alloc (Obj.cells #[.func (.yield l) #[] #[]] 242)) 23 (.slice a len cap)).alloc (Obj.cells #[Value.int IntKind.i64 6] 3)
  have bN := Boxed.new ((W.alloc (Obj.cells #[.func (.yield l) #[] #[]] 242)).alloc (Obj.cells #[Value.slice a len cap] 23)) 3 (.int .i64 6)
  have hB0 : Below n₀ W (((W.alloc (Obj.cells #[.func (.yield l) #[] #[]] 242)).alloc (Obj.cells #[Value.slice a len cap] 23)).alloc (Obj.cells #[Value.int IntKind.i64 6] 3)) := (((Below.refl _ W).alloc hn _).alloc (by simp; omega) _).alloc (by simp; omega) _
  have hJ0 : J [] (((W.alloc (Obj.cells #[.func (.yield l) #[] #[]] 242)).alloc (Obj.cells #[Value.slice a len cap] 23)).alloc (Obj.cells #[Value.int IntKind.i64 6] 3)) := hJ.alloc _ (hJ.alloc _ (hJ.alloc _ h0))
  have hsz : (((W.alloc (Obj.cells #[.func (.yield l) #[] #[]] 242)).alloc (Obj.cells #[Value.slice a len cap] 23)).alloc (Obj.cells #[Value.int IntKind.i64 6] 3)).heap.size = W.heap.size + 3 := by simp
  simp only [World.size_alloc] at bS bN
  obtain ⟨W0, hW0⟩ : ∃ W0, ((W.alloc (Obj.cells #[.func (.yield l) #[] #[]] 242)).alloc (Obj.cells #[Value.slice a len cap] 23)).alloc (Obj.cells #[Value.int IntKind.i64 6] 3) = W0 := ⟨_, rfl⟩
  rw [hW0] at bY bS bN hB0 hJ0 hsz ⊢
  clear hW0
  refine wpIn_rangeFunc_ownG (N := (len + 6 - 1) / 6) rfl (by decide) (gf := 198) (lb := #[.pointer (some ⟨W.heap.size + 1, 0, none⟩), .pointer (some ⟨W.heap.size + 1 + 1, 0, none⟩)]) rfl trivial (enters_of Tryz.func198 (by kernel_rfl) rfl)
    (chunk_stops Fence.wide 7 trivial rfl (by decide) a (W.heap.size + 1) (W.heap.size + 1 + 1) n₀ g off len cap 6 (by decide) (by decide) HCP.out hm (hAW.imp id And.left) W0 bS bN)
    KpB.trans (fun X l o o' h1 h2 h3 h4 => KpB.put (w := W0) (by omega) (by omega) (by omega) X l o o' h1 h2 h3 h4) (Below.refl _ _) (fun _ => rfl)
    (fun pre X => ((J pre X ∧ Boxed X W.heap.size 242 (.func (.yield l) #[] #[])) ∧ (Boxed X (W.heap.size + 1) 23 (.slice a len cap) ∧ Boxed X (W.heap.size + 1 + 1) 3 (.int .i64 6))) ∧ Below n₀ W X)
    (fun c pre X => c = .ret ∧ Jx pre X)
    (OwnFrom.and (OwnFrom.and (OwnFrom.and (ownFrom_mono hJ (by omega)) (Own.from (boxed_own _ _ _) _)) (OwnFrom.and (Own.from (boxed_own _ _ _) _) (Own.from (boxed_own _ _ _) _))) (ownFrom_below hn (by omega)))
    (fun _ pre X Y row hs hgr hr => ⟨hs.1, hJx pre X Y row hs.2 hgr (fun r e => ⟨by have := (hr r e).1; omega, (hr r e).2⟩)⟩)
    ⟨⟨⟨hJ0, bY⟩, bS, bN⟩, hB0⟩
    (fun x => { tmps := #[.func (.yield l) #[] #[], .pointer (some ⟨Bb, 0, none⟩), .pointer (some ⟨W.heap.size, 0, none⟩), .slice (some ⟨g, off + x.1 * 6, none⟩) (min 6 (len - x.1 * 6)) (min 6 (len - x.1 * 6)), .slice a len cap, .slice a len cap, .int .i64 len, .slice a len cap, .int .i64 len, .int .i64 0, .int .i64 len, .slice a len cap, .func (.func 198) #[] #[.pointer (some ⟨W.heap.size + 1, 0, none⟩), .pointer (some ⟨W.heap.size + 1 + 1, 0, none⟩)], .slice (some ⟨g, off + x.1 * 6, none⟩) (min 6 (len - x.1 * 6)) (min 6 (len - x.1 * 6)), undef, undef, undef, undef, undef, undef, undef, undef, undef, undef], defers := [] }) ?assign ?body ?done ?stop
  case assign =>
    intro l x W K hK
    dsimp only [pcV]
    gi_wp2
    exact hK
  case body =>
    rintro lr pre x Wc ⟨⟨⟨hJc, bY1⟩, bS1, bN1⟩, hBl⟩ hlt
    have hx := x.2
    have hmin : min 6 (len - x.1 * 6) = 6 := by omega
    rw [hmin]
    have hsz1 : W.heap.size + 3 ≤ Wc.heap.size := by have := bN1.lt; omega
    have hrow : Row Wc.drew g off len cap Z := (row_lo (hAW.resolve_left (by omega)).2 hBl (hg.resolve_left (by omega))).below ((Below.refl _ _).drew)
    have hJd : J pre Wc.drew := hJ pre Wc _ none hJc (grown_drew Wc) (fun r e => by cases e)
    have HNA : Hid (Calls Tryz.prog 122 #[.slice (some ⟨g, off + x.1 * 6, none⟩) 2 6] Wc.drew fun e w' => e = .returned (.int .i64 (sId Z x.1)) ∧ Wc.drew = w') := by
      have h := number_any g (off + x.1 * 6) 2 6 ((Z.drop (x.1 * 6)).take 2) Wc.drew (row_part hrow (x.1 * 6) 2 6 (by omega) (by decide) (by decide)) (by decide)
      have e : sId Z x.1 = word ((Z.drop (x.1 * 6)).take 2) := by unfold sId; rw [Nat.mul_comm]
      rw [e]; exact h
    have HNB : Hid (Calls Tryz.prog 122 #[.slice (some ⟨g, off + x.1 * 6 + 2, none⟩) 4 4] Wc.drew fun e w' => e = .returned (.int .i64 (sVal Z x.1)) ∧ Wc.drew = w') := by
      have h := number_any g (off + (x.1 * 6 + 2)) 4 4 ((Z.drop (x.1 * 6 + 2)).take 4) Wc.drew (row_part hrow (x.1 * 6 + 2) 4 4 (by omega) (by decide) (by decide)) (by decide)
      have e : sVal Z x.1 = word ((Z.drop (x.1 * 6 + 2)).take 4) := by unfold sVal; rw [Nat.mul_comm]
      rw [e, Nat.add_assoc]; exact h
    obtain ⟨fn, tmps, assign, body, hy, hR⟩ := YieldAt.free (F := Fence.wide) rfl 5 (HY.out pre x Wc.drew hJd hlt hsz1)
    have HR : Hid (RoundIn (Fence.wide.inRound lr) 5 Tryz.prog l fn tmps assign body Wc.drew _) := hR
    dsimp only [sEnc, sArr] at hy
    have HFT : Hid (∀ W3, J (pre ++ [x]) W3 → Below n₀ Wc.drew W3 → KeepsIn W.heap.size 3 Wc.drew W3 → KeepsFrom W.heap.size Wc.drew W3 →
        Hid (KeepsFrom W0.heap.size Wc W3 ∧ KpB n₀ (W.heap.size + 1) (W.heap.size + 1 + 1) Wc W3 ∧ ((J (pre ++ [x]) W3 ∧ Boxed W3 W.heap.size 242 (.func (.yield l) #[] #[])) ∧ (Boxed W3 (W.heap.size + 1) 23 (.slice a len cap) ∧ Boxed W3 (W.heap.size + 1 + 1) 3 (.int .i64 6))) ∧ Below n₀ W W3)) := fun W3 h1 h2 h3 h4 => by
      have h2' : Below n₀ Wc W3 := ((Below.refl n₀ Wc).drew).trans h2
      exact ⟨keepsFrom_mono ((keeps_of_below ((Below.refl _ Wc).drew)).from _ |>.trans h4) (by omega),
        ⟨h2', fun o ho => h3 _ o (by omega) (by omega) ho, fun o ho => h3 _ o (by omega) (by omega) ho⟩,
        ⟨⟨h1, h3 _ _ (by omega) (by omega) bY1⟩, h3 _ _ (by omega) (by omega) bS1, h3 _ _ (by omega) (by omega) bN1⟩, hBl.trans h2'⟩
    have HFF : Hid (∀ W3, Jx (pre ++ [x]) W3 → KeepsFrom W.heap.size Wc.drew W3 → Hid (KeepsFrom W0.heap.size Wc W3 ∧ Jx (pre ++ [x]) W3)) := fun W3 h1 h4 =>
      ⟨keepsFrom_mono ((keeps_of_below ((Below.refl _ Wc).drew)).from _ |>.trans h4) (by omega), h1⟩
    have cY := bY1.cell
    generalize sId Z x.1 = p1 at *
    generalize sVal Z x.1 = p2 at *
    have mixed : Tryz.prog.follows Departure.mixedOrders = true := by kernel_rfl
    clear hrow hJd hR hJc bY1 bS1 bN1 hBl hlt bY bS bN hB0 hJ0 HY hJ hJx h0 hAW hBW hmin hsz1 hx
    generalize hoo : off + x.1 * 6 = oo at *
    clear hoo
    gi_wp2
    refine wpIn_region_any mixed ?_
    change wpAnyIn _ _ _ _ _ _ _ _ _ (World.drew _)
    refine wpAnyIn_cast (l' := #[false, false, false, false, false, false, false, false, false, false]) rfl ?_
    refine wpAnyIn_ready (rs := [0, 1, 4]) (by kernel_rfl) (by simp) ?_
    refine AllReadyIn.cons rfl (fun K hK => ?_) (AllReadyIn.cons rfl (fun K hK => ?_) (AllReadyIn.cons rfl (fun K hK => ?_) AllReadyIn.nil))
    go_simp
    refine hK _ _ ?_
    clear hK K
    refine wpAnyIn_cast (l' := #[true, false, false, false, false, false, false, false, false, false]) rfl ?S0
    rotate_left
    go_simp
    refine hK _ _ ?_
    clear hK K
    refine wpAnyIn_cast (l' := #[false, true, false, false, false, false, false, false, false, false]) rfl ?S1
    rotate_left
    go_simp
    refine hK _ _ ?_
    clear hK K
    refine wpAnyIn_cast (l' := #[false, false, false, false, true, false, false, false, false, false]) rfl ?S4
    rotate_left
    refine wpAnyIn_ready (rs := [1, 4]) (by kernel_rfl) (by simp) ?_
    refine AllReadyIn.cons rfl (fun K hK => ?_) (AllReadyIn.cons rfl (fun K hK => ?_) AllReadyIn.nil)
    go_simp
    refine hK _ _ ?_
    clear hK K
    refine wpAnyIn_cast (l' := #[true, true, false, false, false, false, false, false, false, false]) rfl ?S01
    rotate_left
    go_simp
    refine hK _ _ ?_
    clear hK K
    refine wpAnyIn_cast (l' := #[true, false, false, false, true, false, false, false, false, false]) rfl ?S04
    rotate_left
    refine wpAnyIn_ready (rs := [0, 2, 4]) (by kernel_rfl) (by simp) ?_
    refine AllReadyIn.cons rfl (fun K hK => ?_) (AllReadyIn.cons rfl (fun K hK => ?_) (AllReadyIn.cons rfl (fun K hK => ?_) AllReadyIn.nil))
    go_simp
    refine hK _ _ ?_
    clear hK K
    refine wpAnyIn_cast (l' := #[true, true, false, false, false, false, false, false, false, false]) rfl ?_
    exact ?S01
    go_simp
    refine hK _ _ ?_
    clear hK K
    refine wpAnyIn_cast (l' := #[false, true, true, false, false, false, false, false, false, false]) rfl ?S12
    rotate_left
    go_simp
    refine hK _ _ ?_
    clear hK K
    refine wpAnyIn_cast (l' := #[false, true, false, false, true, false, false, false, false, false]) rfl ?S14
    rotate_left
    refine wpAnyIn_ready (rs := [0, 1, 5]) (by kernel_rfl) (by simp) ?_
    refine AllReadyIn.cons rfl (fun K hK => ?_) (AllReadyIn.cons rfl (fun K hK => ?_) (AllReadyIn.cons rfl (fun K hK => ?_) AllReadyIn.nil))
    go_simp
    refine hK _ _ ?_
    clear hK K
    refine wpAnyIn_cast (l' := #[true, false, false, false, true, false, false, false, false, false]) rfl ?_
    exact ?S04
    go_simp
    refine hK _ _ ?_
    clear hK K
    refine wpAnyIn_cast (l' := #[false, true, false, false, true, false, false, false, false, false]) rfl ?_
    exact ?S14
    go_simp
    refine hK _ _ ?_
    clear hK K
    refine wpAnyIn_cast (l' := #[false, false, false, false, true, true, false, false, false, false]) rfl ?S45
    rotate_left
    refine wpAnyIn_ready (rs := [2, 4]) (by kernel_rfl) (by simp) ?_
    refine AllReadyIn.cons rfl (fun K hK => ?_) (AllReadyIn.cons rfl (fun K hK => ?_) AllReadyIn.nil)
    go_simp
    refine hK _ _ ?_
    clear hK K
    refine wpAnyIn_cast (l' := #[true, true, true, false, false, false, false, false, false, false]) rfl ?S012
    rotate_left
    go_simp
    refine hK _ _ ?_
    clear hK K
    refine wpAnyIn_cast (l' := #[true, true, false, false, true, false, false, false, false, false]) rfl ?S014
    rotate_left
    refine wpAnyIn_ready (rs := [1, 5]) (by kernel_rfl) (by simp) ?_
    refine AllReadyIn.cons rfl (fun K hK => ?_) (AllReadyIn.cons rfl (fun K hK => ?_) AllReadyIn.nil)
    go_simp
    refine hK _ _ ?_
    clear hK K
    refine wpAnyIn_cast (l' := #[true, true, false, false, true, false, false, false, false, false]) rfl ?_
    exact ?S014
    go_simp
    refine hK _ _ ?_
    clear hK K
    refine wpAnyIn_cast (l' := #[true, false, false, false, true, true, false, false, false, false]) rfl ?S045
    rotate_left
    refine wpAnyIn_ready (rs := [0, 3, 4]) (by kernel_rfl) (by simp) ?_
    refine AllReadyIn.cons rfl (fun K hK => ?_) (AllReadyIn.cons rfl (fun K hK => ?_) (AllReadyIn.cons rfl (fun K hK => ?_) AllReadyIn.nil))
    go_simp
    refine hK _ _ ?_
    clear hK K
    refine wpAnyIn_cast (l' := #[true, true, true, false, false, false, false, false, false, false]) rfl ?_
    exact ?S012
    go_simp
    focus gi_wp2_with (refine ⟨trivial, ?_⟩; gi_at_call 122; refine (CallsIn.inRound lr (callsIn_wide.2 HNA.out)).mono ?_; rintro e' w2 ⟨rfl, rfl⟩)
    refine wpAnyIn_cast (l' := #[false, true, true, true, false, false, false, false, false, false]) rfl ?S123
    rotate_left
    go_simp
    refine hK _ _ ?_
    clear hK K
    refine wpAnyIn_cast (l' := #[false, true, true, false, true, false, false, false, false, false]) rfl ?S124
    rotate_left
    refine wpAnyIn_ready (rs := [0, 2, 5]) (by kernel_rfl) (by simp) ?_
    refine AllReadyIn.cons rfl (fun K hK => ?_) (AllReadyIn.cons rfl (fun K hK => ?_) (AllReadyIn.cons rfl (fun K hK => ?_) AllReadyIn.nil))
    go_simp
    refine hK _ _ ?_
    clear hK K
    refine wpAnyIn_cast (l' := #[true, true, false, false, true, false, false, false, false, false]) rfl ?_
    exact ?S014
    go_simp
    refine hK _ _ ?_
    clear hK K
    refine wpAnyIn_cast (l' := #[false, true, true, false, true, false, false, false, false, false]) rfl ?_
    exact ?S124
    go_simp
    refine hK _ _ ?_
    clear hK K
    refine wpAnyIn_cast (l' := #[false, true, false, false, true, true, false, false, false, false]) rfl ?S145
    rotate_left
    refine wpAnyIn_ready (rs := [0, 1]) (by kernel_rfl) (by simp) ?_
    refine AllReadyIn.cons rfl (fun K hK => ?_) (AllReadyIn.cons rfl (fun K hK => ?_) AllReadyIn.nil)
    go_simp
    refine hK _ _ ?_
    clear hK K
    refine wpAnyIn_cast (l' := #[true, false, false, false, true, true, false, false, false, false]) rfl ?_
    exact ?S045
    go_simp
    refine hK _ _ ?_
    clear hK K
    refine wpAnyIn_cast (l' := #[false, true, false, false, true, true, false, false, false, false]) rfl ?_
    exact ?S145
    refine wpAnyIn_ready (rs := [3, 4]) (by kernel_rfl) (by simp) ?_
    refine AllReadyIn.cons rfl (fun K hK => ?_) (AllReadyIn.cons rfl (fun K hK => ?_) AllReadyIn.nil)
    go_simp
    focus gi_wp2_with (refine ⟨trivial, ?_⟩; gi_at_call 122; refine (CallsIn.inRound lr (callsIn_wide.2 HNA.out)).mono ?_; rintro e' w2 ⟨rfl, rfl⟩)
    refine wpAnyIn_cast (l' := #[true, true, true, true, false, false, false, false, false, false]) rfl ?S0123
    rotate_left
    go_simp
    refine hK _ _ ?_
    clear hK K
    refine wpAnyIn_cast (l' := #[true, true, true, false, true, false, false, false, false, false]) rfl ?S0124
    rotate_left
    refine wpAnyIn_ready (rs := [2, 5]) (by kernel_rfl) (by simp) ?_
    refine AllReadyIn.cons rfl (fun K hK => ?_) (AllReadyIn.cons rfl (fun K hK => ?_) AllReadyIn.nil)
    go_simp
    refine hK _ _ ?_
    clear hK K
    refine wpAnyIn_cast (l' := #[true, true, true, false, true, false, false, false, false, false]) rfl ?_
    exact ?S0124
    go_simp
    refine hK _ _ ?_
    clear hK K
    refine wpAnyIn_cast (l' := #[true, true, false, false, true, true, false, false, false, false]) rfl ?S0145
    rotate_left
    refine wpAnyIn_ready (rs := [1]) (by kernel_rfl) (by simp) ?_
    refine AllReadyIn.cons rfl (fun K hK => ?_) AllReadyIn.nil
    go_simp
    refine hK _ _ ?_
    clear hK K
    refine wpAnyIn_cast (l' := #[true, true, false, false, true, true, false, false, false, false]) rfl ?_
    exact ?S0145
    refine wpAnyIn_ready (rs := [0, 4]) (by kernel_rfl) (by simp) ?_
    refine AllReadyIn.cons rfl (fun K hK => ?_) (AllReadyIn.cons rfl (fun K hK => ?_) AllReadyIn.nil)
    go_simp
    refine hK _ _ ?_
    clear hK K
    refine wpAnyIn_cast (l' := #[true, true, true, true, false, false, false, false, false, false]) rfl ?_
    exact ?S0123
    go_simp
    refine hK _ _ ?_
    clear hK K
    refine wpAnyIn_cast (l' := #[false, true, true, true, true, false, false, false, false, false]) rfl ?S1234
    rotate_left
    refine wpAnyIn_ready (rs := [0, 3, 5]) (by kernel_rfl) (by simp) ?_
    refine AllReadyIn.cons rfl (fun K hK => ?_) (AllReadyIn.cons rfl (fun K hK => ?_) (AllReadyIn.cons rfl (fun K hK => ?_) AllReadyIn.nil))
    go_simp
    refine hK _ _ ?_
    clear hK K
    refine wpAnyIn_cast (l' := #[true, true, true, false, true, false, false, false, false, false]) rfl ?_
    exact ?S0124
    go_simp
    focus gi_wp2_with (refine ⟨trivial, ?_⟩; gi_at_call 122; refine (CallsIn.inRound lr (callsIn_wide.2 HNA.out)).mono ?_; rintro e' w2 ⟨rfl, rfl⟩)
    refine wpAnyIn_cast (l' := #[false, true, true, true, true, false, false, false, false, false]) rfl ?_
    exact ?S1234
    go_simp
    refine hK _ _ ?_
    clear hK K
    refine wpAnyIn_cast (l' := #[false, true, true, false, true, true, false, false, false, false]) rfl ?S1245
    rotate_left
    refine wpAnyIn_ready (rs := [0, 2]) (by kernel_rfl) (by simp) ?_
    refine AllReadyIn.cons rfl (fun K hK => ?_) (AllReadyIn.cons rfl (fun K hK => ?_) AllReadyIn.nil)
    go_simp
    refine hK _ _ ?_
    clear hK K
    refine wpAnyIn_cast (l' := #[true, true, false, false, true, true, false, false, false, false]) rfl ?_
    exact ?S0145
    go_simp
    refine hK _ _ ?_
    clear hK K
    refine wpAnyIn_cast (l' := #[false, true, true, false, true, true, false, false, false, false]) rfl ?_
    exact ?S1245
    refine wpAnyIn_ready (rs := [4]) (by kernel_rfl) (by simp) ?_
    refine AllReadyIn.cons rfl (fun K hK => ?_) AllReadyIn.nil
    go_simp
    refine hK _ _ ?_
    clear hK K
    refine wpAnyIn_cast (l' := #[true, true, true, true, true, false, false, false, false, false]) rfl ?S01234
    rotate_left
    refine wpAnyIn_ready (rs := [3, 5]) (by kernel_rfl) (by simp) ?_
    refine AllReadyIn.cons rfl (fun K hK => ?_) (AllReadyIn.cons rfl (fun K hK => ?_) AllReadyIn.nil)
    go_simp
    focus gi_wp2_with (refine ⟨trivial, ?_⟩; gi_at_call 122; refine (CallsIn.inRound lr (callsIn_wide.2 HNA.out)).mono ?_; rintro e' w2 ⟨rfl, rfl⟩)
    refine wpAnyIn_cast (l' := #[true, true, true, true, true, false, false, false, false, false]) rfl ?_
    exact ?S01234
    go_simp
    refine hK _ _ ?_
    clear hK K
    refine wpAnyIn_cast (l' := #[true, true, true, false, true, true, false, false, false, false]) rfl ?S01245
    rotate_left
    refine wpAnyIn_ready (rs := [2]) (by kernel_rfl) (by simp) ?_
    refine AllReadyIn.cons rfl (fun K hK => ?_) AllReadyIn.nil
    go_simp
    refine hK _ _ ?_
    clear hK K
    refine wpAnyIn_cast (l' := #[true, true, true, false, true, true, false, false, false, false]) rfl ?_
    exact ?S01245
    refine wpAnyIn_ready (rs := [0, 5]) (by kernel_rfl) (by simp) ?_
    refine AllReadyIn.cons rfl (fun K hK => ?_) (AllReadyIn.cons rfl (fun K hK => ?_) AllReadyIn.nil)
    go_simp
    refine hK _ _ ?_
    clear hK K
    refine wpAnyIn_cast (l' := #[true, true, true, true, true, false, false, false, false, false]) rfl ?_
    exact ?S01234
    go_simp
    refine hK _ _ ?_
    clear hK K
    refine wpAnyIn_cast (l' := #[false, true, true, true, true, true, false, false, false, false]) rfl ?S12345
    rotate_left
    refine wpAnyIn_ready (rs := [0, 3]) (by kernel_rfl) (by simp) ?_
    refine AllReadyIn.cons rfl (fun K hK => ?_) (AllReadyIn.cons rfl (fun K hK => ?_) AllReadyIn.nil)
    go_simp
    refine hK _ _ ?_
    clear hK K
    refine wpAnyIn_cast (l' := #[true, true, true, false, true, true, false, false, false, false]) rfl ?_
    exact ?S01245
    go_simp
    focus gi_wp2_with (refine ⟨trivial, ?_⟩; gi_at_call 122; refine (CallsIn.inRound lr (callsIn_wide.2 HNA.out)).mono ?_; rintro e' w2 ⟨rfl, rfl⟩)
    refine wpAnyIn_cast (l' := #[false, true, true, true, true, true, false, false, false, false]) rfl ?_
    exact ?S12345
    refine wpAnyIn_ready (rs := [5]) (by kernel_rfl) (by simp) ?_
    refine AllReadyIn.cons rfl (fun K hK => ?_) AllReadyIn.nil
    go_simp
    refine hK _ _ ?_
    clear hK K
    refine wpAnyIn_cast (l' := #[true, true, true, true, true, true, false, false, false, false]) rfl ?S012345
    rotate_left
    refine wpAnyIn_ready (rs := [3]) (by kernel_rfl) (by simp) ?_
    refine AllReadyIn.cons rfl (fun K hK => ?_) AllReadyIn.nil
    go_simp
    focus gi_wp2_with (refine ⟨trivial, ?_⟩; gi_at_call 122; refine (CallsIn.inRound lr (callsIn_wide.2 HNA.out)).mono ?_; rintro e' w2 ⟨rfl, rfl⟩)
    refine wpAnyIn_cast (l' := #[true, true, true, true, true, true, false, false, false, false]) rfl ?_
    exact ?S012345
    refine wpAnyIn_ready (rs := [0, 6]) (by kernel_rfl) (by simp) ?_
    refine AllReadyIn.cons rfl (fun K hK => ?_) (AllReadyIn.cons rfl (fun K hK => ?_) AllReadyIn.nil)
    go_simp
    refine hK _ _ ?_
    clear hK K
    refine wpAnyIn_cast (l' := #[true, true, true, true, true, true, false, false, false, false]) rfl ?_
    exact ?S012345
    go_simp
    focus gi_wp2_with (refine ⟨trivial, ?_⟩; gi_at_call 122; refine (CallsIn.inRound lr (callsIn_wide.2 HNB.out)).mono ?_; rintro e' w2 ⟨rfl, rfl⟩)
    refine wpAnyIn_cast (l' := #[false, true, true, true, true, true, true, false, false, false]) rfl ?S123456
    rotate_left
    refine wpAnyIn_ready (rs := [6]) (by kernel_rfl) (by simp) ?_
    refine AllReadyIn.cons rfl (fun K hK => ?_) AllReadyIn.nil
    go_simp
    focus gi_wp2_with (refine ⟨trivial, ?_⟩; gi_at_call 122; refine (CallsIn.inRound lr (callsIn_wide.2 HNB.out)).mono ?_; rintro e' w2 ⟨rfl, rfl⟩)
    refine wpAnyIn_cast (l' := #[true, true, true, true, true, true, true, false, false, false]) rfl ?S0123456
    rotate_left
    refine wpAnyIn_ready (rs := [0, 7]) (by kernel_rfl) (by simp) ?_
    refine AllReadyIn.cons rfl (fun K hK => ?_) (AllReadyIn.cons rfl (fun K hK => ?_) AllReadyIn.nil)
    go_simp
    refine hK _ _ ?_
    clear hK K
    refine wpAnyIn_cast (l' := #[true, true, true, true, true, true, true, false, false, false]) rfl ?_
    exact ?S0123456
    go_simp
    refine hK _ _ ?_
    clear hK K
    refine wpAnyIn_cast (l' := #[false, true, true, true, true, true, true, true, false, false]) rfl ?S1234567
    rotate_left
    refine wpAnyIn_ready (rs := [7]) (by kernel_rfl) (by simp) ?_
    refine AllReadyIn.cons rfl (fun K hK => ?_) AllReadyIn.nil
    go_simp
    refine hK _ _ ?_
    clear hK K
    refine wpAnyIn_cast (l' := #[true, true, true, true, true, true, true, true, false, false]) rfl ?S01234567
    rotate_left
    refine wpAnyIn_ready (rs := [0]) (by kernel_rfl) (by simp) ?_
    refine AllReadyIn.cons rfl (fun K hK => ?_) AllReadyIn.nil
    go_simp
    refine hK _ _ ?_
    clear hK K
    refine wpAnyIn_cast (l' := #[true, true, true, true, true, true, true, true, false, false]) rfl ?_
    exact ?S01234567
    refine wpAnyIn_ready (rs := [8]) (by kernel_rfl) (by simp) ?_
    refine AllReadyIn.cons rfl (fun K hK => ?_) AllReadyIn.nil
    · go_simp
      gi_wp2
      refine HR.out.mono ?_
      rintro e' W3 (⟨rfl, hJ3, ⟨hb3, hk3⟩, hf3⟩ | ⟨rfl, hJx3, hf3⟩)
      · have HFIN := HFT.out W3 hJ3 hb3 hk3 hf3
        clear hJ3 hb3 hk3 hf3
        gi_wp2
        refine wpAnyIn_ready (rs := [9]) (by kernel_rfl) (by simp) ?_
        refine AllReadyIn.cons rfl (fun K hK => ?_) ?_
        · go_simp
          refine hK _ _ ?_
          clear hK K
          refine wpAnyIn_done (by kernel_rfl) ?_ _
          gi_wp2
          exact HFIN.out
        exact AllReadyIn.nil
      · have HFIN := HFF.out W3 hJx3 hf3
        clear hJx3 hf3
        gi_wp2
        refine wpAnyIn_ready (rs := [9]) (by kernel_rfl) (by simp) ?_
        refine AllReadyIn.cons rfl (fun K hK => ?_) ?_
        · go_simp
          refine hK _ _ ?_
          clear hK K
          refine wpAnyIn_done (by kernel_rfl) ?_ _
          gi_wp2
          exact ⟨HFIN.out.1, rfl, HFIN.out.2⟩
        exact AllReadyIn.nil
  case done =>
    rintro D xs X hD hS ⟨⟨⟨hJc, _⟩, _, _⟩, _⟩ hX
    refine ⟨by simp, .inl ⟨_, _, rfl, run_takeDeferred (b := D) (ds := []) hX, ?_⟩⟩
    refine ⟨_, results_none rfl _ _ _, ?_⟩
    exact ⟨⟨_, rfl⟩, .inl ⟨xs, hS, hJ.putObj _ hJc (by omega) hX rfl⟩⟩
  case stop =>
    rintro D c pre X hD hS ⟨rfl, hJc⟩ hX
    gi_wp2
    refine ⟨by simp, .inl ⟨_, _, rfl, run_takeDeferred (b := D) (ds := []) hX, ?_⟩⟩
    refine ⟨_, results_none rfl _ _ _, ?_⟩
    exact ⟨⟨_, rfl⟩, .inr ⟨pre, hS, hJx.putObj _ hJc (by omega) hX rfl⟩⟩
end Go.Proofs.YtdlaaollamgplagGreatDoor
