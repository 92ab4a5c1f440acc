/-
  CONTRACTS of the Go function slices.Chunk at bytes, and of what it hands back. No claim by itself.
-/
import Derived.Shelf.Abstract
import Derived.Shelf.RegionOpen
import Derived.WalkKit
import Derived.OwnWalkIn
import Derived.TacticsInMore
import Derived.LoopNIn
import Derived.LoopIn
import Derived.Lib.MinMax
import Derived.Test.YtglmppadhlkkgagGreatDoorChain
import Derived.Test.YtglmppadhlkkgagGreatDoorUd2X
namespace Go.Proofs.YtglmppadhlkkgagGreatDoor
open Go Go.RowKit Go.Shelf
set_option maxRecDepth 100000
attribute [local go_sem] Oper.semAt_some
/-- The bytes and the size are boxed; the function value captures the boxes. -/
theorem chunk_call (a : Option Addr) (len cap N : Nat) (w : World) (hN : 1 ≤ N) :
    Calls Tryz.prog 141 #[.slice a len cap, .int .i64 N] w fun e w' => e = .returned (.func (.func 198) #[] #[.pointer (some ⟨w.heap.size, 0, none⟩), .pointer (some ⟨w.heap.size + 1, 0, none⟩)]) ∧ w' = (w.alloc (.cells #[.slice a len cap] 23)).alloc (.cells #[.int .i64 N] 3) := by
  have h : ¬ ((N : Int) < 1) := by omega
  go_enter Tryz.func141, Tryz.ntmps141
  go_wp2
  go_ret
  exact ⟨rfl, rfl⟩
/-- What a round keeps: what lay below n₀, and the two boxes. -/
def KpB (n₀ a b : Nat) (W W' : World) : Prop := Below n₀ W W' ∧ (∀ o, W.heap[a]? = some o → W'.heap[a]? = some o) ∧ (∀ o, W.heap[b]? = some o → W'.heap[b]? = some o)
theorem KpB.refl (n₀ a b : Nat) (W : World) : KpB n₀ a b W W := ⟨Below.refl _ _, fun _ h => h, fun _ h => h⟩
theorem KpB.trans {n₀ a b : Nat} {X Y Z : World} (h : KpB n₀ a b X Y) (k : KpB n₀ a b Y Z) : KpB n₀ a b X Z := ⟨h.1.trans k.1, fun o ho => k.2.1 o (h.2.1 o ho), fun o ho => k.2.2 o (h.2.2 o ho)⟩
theorem KpB.put {n₀ a b : Nat} {w : World} (hn : n₀ ≤ w.heap.size) (ha : a < w.heap.size) (hb : b < w.heap.size) (W : World) (l : Nat) (o o' : Obj) (hl : w.heap.size ≤ l) (h : W.heap[l]? = some o) (h1 : o.isCells = false) (h2 : o.isWalk = false) : KpB n₀ a b W (W.putObj l o') :=
  ⟨belowK_b hn W l o o' hl h h1 h2, fun _ ho => (World.putObj_heap_other (by omega)).trans ho, fun _ ho => (World.putObj_heap_other (by omega)).trans ho⟩
/-- The numbers of the pieces. -/
abbrev Pq (N len : Nat) := { x : Nat // x * N < len }
def pcV (g off N len : Nat) (x : Pq N len) : Array Value := #[.slice (some ⟨g, off + x.1 * N, none⟩) (min N (len - x.1 * N)) (min N (len - x.1 * N))]
set_option maxHeartbeats 4000000 in
theorem chunkc_in (F : Fence) (n : Nat) (hF : F.fn 198) (hro : F.round = none) (hn : 1 ≤ n) (l Bs Bn n₀ g off len cap N : Nat) (hN : 1 ≤ N) (hN2 : N ≤ 8192) (hlc : len ≤ cap) (hmx : cap ≤ 9223372036854775807) (hm : len ≤ 4611686018427387904) (J Jx : List (Pq N len) → World → Prop) (hJd : ∀ pre W, J pre W → J pre W.drew)
    (hY : ∀ pre x W, J pre W → pre.length < (len + N - 1) / N → YieldAt F (n - 1) Tryz.prog l (pcV g off N len x) W fun e W' =>
      (e = .returned (.bool true) ∧ J (pre ++ [x]) W' ∧ KpB n₀ Bs Bn W W') ∨ (e = .returned (.bool false) ∧ Jx (pre ++ [x]) W'))
    (W : World) (hBs : Boxed W Bs 23 (.slice (some ⟨g, off, none⟩) len cap)) (hBn : Boxed W Bn 3 (.int .i64 N)) (h0 : J [] W) :
    CallsIn F n Tryz.prog 198 #[.func (.yield l) #[] #[], .pointer (some ⟨Bs, 0, none⟩), .pointer (some ⟨Bn, 0, none⟩)] W fun e W' => (∃ v, e = .returned v) ∧
      ((∃ ys, ys.map (·.1) = List.range ((len + N - 1) / N) ∧ J ys W') ∨ (∃ pre, (∃ k, k ≤ (len + N - 1) / N ∧ pre.map (·.1) = List.range k) ∧ Jx pre W')) := by
  refine callsIn_of_wp Tryz.func198 rfl hF ?_ hro
  simp only [Tryz.ntmps198, List.size_toArray, List.length_cons, List.length_nil, Nat.reduceAdd, Nat.reduceSub, Array.replicate_succ, Array.replicate_zero, List.push_toArray, List.append_toArray, List.nil_append, List.cons_append]
  gi_wp2
  gi_loopw [4] (fun i wr => ∃ (k : Nat) (pre : List (Pq N len)), i = .int .i64 ((k * N : Nat) : Int) ∧ pre.map (·.1) = List.range k ∧ k * N < len + N ∧ J pre wr ∧ KpB n₀ Bs Bn W wr)
    (fun i _ => len + N - (intOf i).toNat)
  case atStart => exact ⟨0, [], by simp, rfl, by omega, h0, KpB.refl _ _ _ _⟩
  case round =>
    obtain ⟨k, pre, rfl, hpre, hk, hJ, hkp⟩ := hrel
    have bS : Boxed wr Bs 23 (.slice (some ⟨g, off, none⟩) len cap) := hkp.2.1 _ hBs
    have bN : Boxed wr Bn 3 (.int .i64 N) := hkp.2.2 _ hBn
    have cS := bS.cell
    have cN := bN.cell
    have hpl : pre.length = k := by have := congrArg List.length hpre; simpa using this
    by_cases hlt : k * N < len
    · have hkl : k < (len + N - 1) / N := by
        refine (Nat.le_div_iff_mul_le (by omega)).2 ?_
        rw [Nat.succ_mul]
        omega
      obtain ⟨fn, tmps, assign, body, hy, hR⟩ := hY pre ⟨k, hlt⟩ wr.drew (hJd _ _ hJ) (by rw [hpl]; exact hkl)
      dsimp only [pcV] at hy
      have HK := vl hkp
      have HBN : Vl (Boxed wr.drew Bn 3 (.int .i64 N)) := bN
      have HPRE := vl hpre
      have HR := vl hR
      clear hkp hpre hR bS bN hY hBs hBn h0
      obtain ⟨i, hi⟩ : ∃ i, i = k * N := ⟨_, rfl⟩
      obtain ⟨e, he⟩ : ∃ e, e = min N (len - i) := ⟨_, rfl⟩
      have he1 : 1 ≤ e := by omega
      have he2 : i + e ≤ len := by omega
      rw [← hi] at hy hlt hk ⊢
      rw [← he] at hy
      have HI := vl hi
      have HE := vl he
      have hmin : min (N : Int) ((len : Int) - (i : Int)) = (e : Int) := by omega
      have hmin2 : min (N : Int) (((len - i : Nat) : Nat) : Int) = (e : Int) := by omega
      have b0 : (0 : Int) ≤ (i : Int) := by omega
      have b1 : (i : Int) ≤ (len : Int) := by omega
      have b2 : (i : Int) ≤ (i : Int) + (e : Int) := by omega
      have b3 : (i : Int) + (e : Int) ≤ (cap : Int) := by omega
      have b4 : ((i : Int) + (e : Int)).toNat = i + e := by omega
      have b5 : i + e - i = e := by omega
      have b6 : (i : Int) ≤ (cap : Int) := by omega
      have b7 : ¬ (e = 0) := by omega
      have b8 : i ≤ cap := by omega
      clear hi he
      have b9 : ¬ (cap = i) := by omega
      have b10 : ¬ (i = cap) := by omega
      clear hJd
      gi_wp2
      gi_region
      all_goals gi_wp2
      all_goals (refine HR.out.mono ?_)
      all_goals (rintro e' W3 (⟨rfl, hJ3, hk3⟩ | ⟨rfl, hJx3⟩))
      all_goals first
        | (have hkq : KpB n₀ Bs Bn W W3 := HK.out.trans ⟨((Below.refl _ _).drew).trans hk3.1, hk3.2.1, hk3.2.2⟩
           have cN3 := (show Boxed W3 Bn 3 (.int .i64 N) from hk3.2.2 _ HBN.out).cell
           have HQ := vl hkq
           clear hkq hk3
           gi_wp2
           go_roundw
           case rel => exact ⟨k + 1, pre ++ [⟨k, by rw [← HI.out]; exact hlt⟩], by rw [HI.out, Nat.add_mul, Nat.one_mul]; go_num, by rw [List.map_append, HPRE.out, List.range_succ]; rfl, by rw [Nat.add_mul, Nat.one_mul, ← HI.out]; omega, hJ3, HQ.out⟩
           case measure => simp [intOf]; omega)
        | (gi_wp2
           refine bodyPost_ret (results_none rfl _ _ _) rfl ?_
           refine ⟨⟨_, rfl⟩, .inr ⟨_, ⟨k + 1, ?_, ?_⟩, hJx3⟩⟩
           · refine (Nat.le_div_iff_mul_le (by omega)).2 ?_
             rw [Nat.add_mul, Nat.one_mul, ← HI.out]; omega
           · rw [List.map_append, HPRE.out, List.range_succ]; rfl)
    · gi_wp2
      go_end0
      exact ⟨⟨_, rfl⟩, .inl ⟨pre, by
        rw [hpre]
        congr 1
        refine (Nat.div_eq_of_lt_le ?_ ?_).symm
        · omega
        · rw [Nat.add_mul]; omega, hJ⟩⟩
theorem grown_drew (W : World) : W.grownBy W.drew none := ⟨rfl, rfl, rfl, Nat.le_refl _, fun _ _ _ => rfl⟩
/-- Nothing: no round. -/
theorem chunkc_nil (F : Fence) (n : Nat) (hF : F.fn 198) (hro : F.round = none) (l Bs Bn cap : Nat) (a : Option Addr) {α : Type} (J : List α → World → Prop)
    (W : World) (hBs : Boxed W Bs 23 (.slice a 0 cap)) (h0 : J [] W) :
    CallsIn F n Tryz.prog 198 #[.func (.yield l) #[] #[], .pointer (some ⟨Bs, 0, none⟩), .pointer (some ⟨Bn, 0, none⟩)] W fun e W' => (∃ v, e = .returned v) ∧ J [] W' := by
  have cS := hBs.cell
  refine callsIn_of_wp Tryz.func198 rfl hF ?_ hro
  simp only [Tryz.ntmps198, List.size_toArray, List.length_cons, List.length_nil, Nat.reduceAdd, Nat.reduceSub, Array.replicate_succ, Array.replicate_zero, List.push_toArray, List.append_toArray, List.nil_append, List.cons_append]
  gi_wp2
  gi_loopw [4] (fun i wr => i = .int .i64 0 ∧ wr = W) (fun _ _ => 0)
  case atStart => exact ⟨rfl, rfl⟩
  case round =>
    obtain ⟨rfl, rfl⟩ := hrel
    gi_wp2
    go_end0
    exact ⟨⟨_, rfl⟩, h0⟩
/-- What slices.Chunk hands back gives the pieces, in their order. -/
theorem chunk_stops (F : Fence) (n : Nat) (hF : F.fn 198) (hro : F.round = none) (hn : 1 ≤ n) (a : Option Addr) (Bs Bn n₀ g off len cap N : Nat) (hN : 1 ≤ N) (hN2 : N ≤ 8192) (hcp : 0 < len → len ≤ cap ∧ cap ≤ 9223372036854775807) (hm : len ≤ 4611686018427387904)
    (ha : len = 0 ∨ a = some ⟨g, off, none⟩) (w : World) (hBs : Boxed w Bs 23 (.slice a len cap)) (hBn : Boxed w Bn 3 (.int .i64 N)) :
    SeqStopsK F n Tryz.prog 198 #[.pointer (some ⟨Bs, 0, none⟩), .pointer (some ⟨Bn, 0, none⟩)] (pcV g off N len) (KpB n₀ Bs Bn) (fun ys => ys.map (·.1) = List.range ((len + N - 1) / N))
      (fun pre => ∃ k, k ≤ (len + N - 1) / N ∧ pre.map (·.1) = List.range k) ((len + N - 1) / N) w := fun l J Jx W hW hJ _ hY h0 => by
  have bS : Boxed W Bs 23 (.slice a len cap) := (hW.block _ hBs.lt).trans hBs
  have bN : Boxed W Bn 3 (.int .i64 N) := (hW.block _ hBn.lt).trans hBn
  rcases Nat.eq_zero_or_pos len with rfl | hp
  · refine (chunkc_nil F n hF hro l Bs Bn cap a J W bS h0).mono ?_
    rintro e W' ⟨he, hj⟩
    refine ⟨he, .inl ⟨[], ?_, hj⟩⟩
    show [] = List.range ((0 + N - 1) / N)
    rw [Nat.div_eq_of_lt (by omega)]
    rfl
  · obtain rfl := ha.resolve_left (by omega)
    exact chunkc_in F n hF hro hn l Bs Bn n₀ g off len cap N hN hN2 (hcp hp).1 (hcp hp).2 hm J Jx (fun pre W hj => hJ pre W _ none hj (grown_drew W) (fun r e => by cases e)) hY W bS bN h0
end Go.Proofs.YtglmppadhlkkgagGreatDoor
