/-
  WHAT WAS ANSWERED: strings.SplitSeq at two bytes, and what it hands back. No claim by itself.
-/
import Derived.Shelf.Abstract
import Derived.Shelf.RegionOpen
import Derived.WalkKit
import Derived.OwnWalkIn
import Derived.TacticsInMore
import Derived.LoopNIn
import Derived.LoopIn
import Derived.BigRegionIn
import Derived.Test.YtibipnipeaeonaaGreatDoorWbox2
import Derived.Test.YtibipnipeaeonaaGreatDoorYmathX
import Derived.Test.YtibipnipeaeonaaGreatDoorWh1X
import Derived.Test.YtibipnipeaeonaaGreatDoorIdx0
namespace Go.Proofs.YtibipnipeaeonaaGreatDoor
open Go Go.RowKit Go.Shelf
set_option maxRecDepth 100000
attribute [local go_sem] Oper.semAt_some
/-- What is known of the library's variable. -/
def mxP (w : World) : Prop := ∃ m : Int, w.cell? ⟨3, 0, none⟩ = some (.int .i64 m)
theorem mxP.below {w w' : World} (h : mxP w) (hb : Below w.heap.size w w') : mxP w' := by
  obtain ⟨m, hm⟩ := h
  have hlt : 3 < w.heap.size := by
    rcases Nat.lt_or_ge 3 w.heap.size with h1 | h1
    · exact h1
    · simp [World.cell?, Array.getElem?_eq_none h1] at hm
  exact ⟨m, (hb.cell (p := ⟨3, 0, none⟩) hlt).trans hm⟩
theorem mxP.same {w w' : World} (h : mxP w) (hb : w'.heap[3]? = w.heap[3]?) : mxP w' := by
  obtain ⟨m, hm⟩ := h
  exact ⟨m, (World.cell?_of_block (a := ⟨3, 0, none⟩) hb).trans hm⟩
theorem idx_cut (a b : UInt8) (s : List UInt8) : (Lib.index s [a, b] = -1 ∧ cut2 a.toNat b.toNat (numsU s) = [numsU s]) ∨
    ∃ i : Nat, Lib.index s [a, b] = i ∧ i + 2 ≤ s.length ∧ cut2 a.toNat b.toNat (numsU s) = numsU (s.take i) :: cut2 a.toNat b.toNat (numsU (s.drop (i + 2))) := by
  rcases Lib.index_spec s [a, b] with ⟨h1, h2⟩ | ⟨i, h1, h2, h3, h4⟩
  · refine Or.inl ⟨h1, ?_⟩
    rw [cut2_end]
    intro k hk he
    have hk' : k + 1 < s.length := by simpa [numsU] using hk
    have := (occ_two s a b k hk').2 he
    rw [h2 k (by omega)] at this
    exact Bool.noConfusion this
  · have hr : i + 2 ≤ s.length := by
      rcases Lib.occAt_room h3 with h | h
      · simpa using h
      · simp at h
    have he := (occ_two s a b i (by omega)).1 h3
    refine Or.inr ⟨i, h1, hr, ?_⟩
    have hs : numsU s = numsU (s.take i) ++ (a.toNat : Int) :: (b.toNat : Int) :: numsU (s.drop (i + 2)) := by
      have e1 : s = s.take i ++ s.drop i := (List.take_append_drop _ _).symm
      rw [List.drop_eq_getElem_cons (show i < s.length by omega), List.drop_eq_getElem_cons (show i + 1 < s.length by omega)] at e1
      rw [numsU_getD s i (by omega), numsU_getD s (i + 1) (by omega)] at he
      rw [← he.1, ← he.2]
      exact (congrArg numsU e1).trans (by simp only [numsU, List.map_append, List.map_cons])
    conv => lhs; rw [hs]
    rw [cut2_take]
    intro k hk
    have hki : k < i := by simpa [numsU, Nat.min_eq_left (show i ≤ s.length by omega)] using hk
    rw [← hs]
    intro hx
    have := (occ_two s a b k (by omega)).2 hx
    rw [h4 k hki] at this
    exact Bool.noConfusion this
def CutR (s : ByteArray) (r : Int) : Prop := (r = -1 ∧ cut2 44 32 (unums s) = [unums s]) ∨ ∃ i : Nat, r = i ∧ i + 2 ≤ s.size ∧ cut2 44 32 (unums s) = unums (s.extract 0 i) :: cut2 44 32 (unums (s.extract (i + 2) s.size))
theorem zindex_any (s : ByteArray) (w : World) (hm : mxP w) (hs : s.size < 4294967281) : Calls Tryz.prog 93 #[.string s, .string ⟨#[44, 32]⟩] w fun e w' => (∃ r, e = .returned (.int .i64 r) ∧ CutR s r) ∧ w = w' := by
  obtain ⟨m, hm⟩ := hm
  refine (Any.strings_Index { Tryz.laysIndex with } s ⟨#[44, 32]⟩ m w hs hm).mono ?_
  rintro e w' ⟨rfl, rfl⟩
  refine ⟨⟨_, rfl, ?_⟩, rfl⟩
  rcases idx_cut 44 32 s.data.toList with ⟨h1, h2⟩ | ⟨i, h1, h2, h3⟩
  · exact Or.inl ⟨h1, h2⟩
  · refine Or.inr ⟨i, h1, h2, ?_⟩
    rw [un_take, un_drop]
    refine (show cut2 44 32 (unums s) = _ from h3).trans ?_
    unfold unums numsU
    rw [List.map_take, List.map_drop]
    rfl
/-- A piece. -/
abbrev Ln := { x : ByteArray // x.size ≤ 140737488351232 }
def lnV (x : Ln) : Array Value := #[.string x.1]
def lnsU (l : List Ln) : List (List Int) := l.map fun x => unums x.1
theorem lnsU_snoc (l : List Ln) (x : Ln) : lnsU (l ++ [x]) = lnsU l ++ [unums x.1] := by simp [lnsU]
def boxSz (b : Nat) (W : World) : Nat := match W.cell? ⟨b, 0, none⟩ with
  | some (.string r) => r.size
  | _ => 0
theorem boxSz_at {b : Nat} {W : World} {r : ByteArray} (h : W.cell? ⟨b, 0, none⟩ = some (.string r)) : boxSz b W = r.size := by unfold boxSz; rw [h]
theorem own_drew {β : Type} {B : Nat} {J : β → World → Prop} (hJ : OwnFrom B J) {s : β} {W : World} (h : J s W) : J s W.drew := hJ s W W.drew none h ⟨rfl, rfl, rfl, Nat.le_refl _, fun _ _ _ => rfl⟩ (fun r e => by cases e)
theorem boxed_set {W : World} {b : Nat} {t : TypeId} {v : Value} (h : Boxed W b t v) (u : Value) : Boxed (W.setCell ⟨b, 0, none⟩ u) b t u := by
  have k : W.heap[b]? = some (.cells #[v] t (0, 0)) := h
  show _ = _
  simp [World.setCell, Array.getElem?_modify, k]
theorem zsplit0_any (s : ByteArray) (w : World) : Calls Tryz.prog 78 #[.string s, .string ⟨#[44, 32]⟩, .int .i64 0] w fun e w' => e = .returned (.func (.func 91) #[] #[.pointer (some ⟨w.heap.size + 1, 0, none⟩), .pointer (some ⟨w.heap.size, 0, none⟩), .pointer (some ⟨w.heap.size + 2, 0, none⟩)]) ∧
    w' = ((w.alloc (.cells #[.string s] 9)).alloc (.cells #[.string ⟨#[44, 32]⟩] 9)).alloc (.cells #[.int .i64 0] 3) := by
  go_enter Tryz.func78, Tryz.ntmps78
  go_wp2
  go_ret
  exact ⟨rfl, rfl⟩
theorem zsplit_any (s : ByteArray) (w : World) : Calls Tryz.prog 64 #[.string s, .string ⟨#[44, 32]⟩] w fun e w' => e = .returned (.func (.func 91) #[] #[.pointer (some ⟨w.heap.size + 1, 0, none⟩), .pointer (some ⟨w.heap.size, 0, none⟩), .pointer (some ⟨w.heap.size + 2, 0, none⟩)]) ∧
    w' = ((w.alloc (.cells #[.string s] 9)).alloc (.cells #[.string ⟨#[44, 32]⟩] 9)).alloc (.cells #[.int .i64 0] 3) := by
  have H := vl (zsplit0_any s w)
  go_enter Tryz.func64, Tryz.ntmps64
  go_wp2_with fail
  refine H.out.mono ?_
  rintro _ _ ⟨rfl, rfl⟩
  go_wp2
  go_ret
  exact ⟨rfl, rfl⟩
/-- The blocks that the pieces' rounds leave. -/
def SpK (b : Nat) (k : Nat) : Prop := k = b ∨ k = b + 1 ∨ k = b + 2 ∨ k = 3
structure SpB (W : World) (b : Nat) (r : ByteArray) : Prop where
  s : Boxed W b 9 (.string r)
  sep : Boxed W (b + 1) 9 (.string ⟨#[44, 32]⟩)
  save : Boxed W (b + 2) 3 (.int .i64 0)
  mx : mxP W
theorem SpB.keep {W W' : World} {b : Nat} {r : ByteArray} (h : SpB W b r) (hk : ∀ k, SpK b k → W'.heap[k]? = W.heap[k]?) : SpB W' b r :=
  ⟨(hk b (Or.inl rfl)).trans h.s, (hk (b + 1) (Or.inr (Or.inl rfl))).trans h.sep, (hk (b + 2) (Or.inr (Or.inr (Or.inl rfl)))).trans h.save, h.mx.same (hk _ (Or.inr (Or.inr (Or.inr rfl))))⟩
theorem SpB.set {W : World} {b : Nat} {r : ByteArray} (h : SpB W b r) (hb : 3 < b) (u : ByteArray) : SpB (W.setCell ⟨b, 0, none⟩ (.string u)) b u :=
  ⟨boxed_set h.s _, h.sep.other (by omega) _, h.save.other (by omega) _, h.mx.same (Below.heap_setCell _ _ _ _ (by show 3 ≠ b; omega))⟩
theorem SpB.drew {W : World} {b : Nat} {r : ByteArray} (h : SpB W b r) : SpB W.drew b r := ⟨h.s, h.sep, h.save, h.mx⟩
set_option maxHeartbeats 4000000 in
theorem split_stops (n : Nat) (hn : 1 ≤ n) (T : ByteArray) (hT : T.size < 4294967281) (b : Nat) (hgb : 3 < b) (w : World) (hbx : SpB w b T) :
    SeqBx2 Fence.wide n Tryz.prog 91 #[.pointer (some ⟨b + 1, 0, none⟩), .pointer (some ⟨b, 0, none⟩), .pointer (some ⟨b + 2, 0, none⟩)] lnV b (SpK b) (fun xs => lnsU xs = cut2 44 32 (unums T)) (fun pre => ∃ r, lnsU pre ++ r = cut2 44 32 (unums T)) (T.size + 1) w := by
  intro l J Jx W hBW hJ _hJx hJb hY h0
  have hlt2 : b + 2 < w.heap.size := hbx.save.lt
  have HBX : Vl (SpB W b T) := vl (hbx.keep (fun k hk => hBW.block k (by rcases hk with h | h | h | h <;> omega)))
  have HJ := vl hJ
  have HJB := vl hJb
  have HY := vl hY
  have H0 := vl h0
  clear hBW hJ hJb hY h0 hbx
  refine callsIn_of_wp Tryz.func91 rfl trivial ?_ rfl
  simp only [Tryz.ntmps91, List.size_toArray, List.length_cons, List.length_nil, Nat.reduceAdd, Nat.reduceSub, Array.replicate_succ, Array.replicate_zero, List.push_toArray, List.append_toArray, List.nil_append, List.cons_append]
  have cS := HBX.out.s.cell
  have cP := HBX.out.sep.cell
  gi_wp2
  clear cS cP
  gi_loopw [] (fun wr => ∃ (pre : List Ln) (r : ByteArray), Vl (SpB wr b r) ∧ pre.length + r.size ≤ T.size ∧ Vl (lnsU pre ++ cut2 44 32 (unums r) = cut2 44 32 (unums T)) ∧ Vl (J pre wr) ∧ Vl (W.heap.size ≤ wr.heap.size)) (fun wr => boxSz b wr)
  case atStart => exact ⟨[], T, HBX, by simp, rfl, H0, Nat.le_refl _⟩
  case round =>
    obtain ⟨pre, r, HB, hsz, HP, HJ1, HS⟩ := hrel
    have cB := HB.out.s.cell
    have cP := HB.out.sep.cell
    have cV := HB.out.save.cell
    have HBS := vl (boxSz_at cB)
    have HX := vl (zindex_any r wr HB.out.mx (by omega))
    gi_wp2_with fail
    refine ⟨trivial, ?_⟩
    refine (callsIn_wide.2 HX.out).mono ?_
    rintro e w2 ⟨⟨ix, rfl, hix⟩, rfl⟩
    clear HX
    rcases hix with ⟨rfl, hcut⟩ | ⟨i, rfl, hi, hcut⟩
    · have HH := vl hcut
      obtain ⟨X, hX⟩ : ∃ X : Ln, X.1 = r := ⟨⟨r, by omega⟩, rfl⟩
      obtain ⟨fn, tmps, assign, body, hy, hR⟩ := HY.out pre X wr HJ1.out (by omega) HS.out
      have hpx : lnV X = #[.string r] := by unfold lnV; rw [hX]
      rw [hpx] at hy
      have HR := vl hR
      have HFIN : Vl (lnsU (pre ++ [X]) = cut2 44 32 (unums T)) := by
        show _ = _
        rw [lnsU_snoc, hX, ← HP.out, HH.out]
      clear hpx hR hX hcut
      gi_wp2_with fail
      clear hy
      refine HR.out.mono ?_
      rintro e W5 (⟨rfl, hJ5, hk5, hs5⟩ | ⟨rfl, hJ5⟩)
      · have HJ5 := vl hJ5
        clear hJ5 hk5 hs5
        gi_wp2_with fail
        go_end0
        exact ⟨⟨_, rfl⟩, Or.inl ⟨_, HFIN.out, HJ5.out⟩⟩
      · have HJ5 := vl hJ5
        clear hJ5
        gi_wp2_with fail
        go_end0
        exact ⟨⟨_, rfl⟩, Or.inr ⟨_, ⟨[], by rw [List.append_nil]; exact HFIN.out⟩, HJ5.out⟩⟩
    · have HH := vl hcut
      have c1 : (0 : Int) ≤ (i : Int) := by omega
      have c2 : (i : Int) ≤ (r.size : Int) := by omega
      have c3 : (i : Int) + 2 ≤ (r.size : Int) := by omega
      have c4 : ¬ (i : Int) < 0 := by omega
      have c5 : (0 : Int) ≤ (i : Int) + 2 := by omega
      obtain ⟨X, hX⟩ : ∃ X : Ln, X.1 = r.extract 0 i := ⟨⟨r.extract 0 i, by rw [ByteArray.size_extract]; omega⟩, rfl⟩
      obtain ⟨fn, tmps, assign, body, hy, hR⟩ := HY.out pre X wr HJ1.out (by omega) HS.out
      have hpx : lnV X = #[.string (r.extract 0 i)] := by unfold lnV; rw [hX]
      rw [hpx] at hy
      have HR := vl hR
      have HFIN : Vl (lnsU (pre ++ [X]) ++ cut2 44 32 (unums (r.extract (i + 2) r.size)) = cut2 44 32 (unums T)) := by
        show _ = _
        rw [lnsU_snoc, hX, ← HP.out, HH.out]
        simp
      clear hpx hR hX hcut
      gi_wp2_with fail
      clear hy
      refine HR.out.mono ?_
      rintro e W5 (⟨rfl, hJ5, hk5, hs5⟩ | ⟨rfl, hJ5⟩)
      · have HB5 := vl (HB.out.keep hk5)
        have HJ5 := vl hJ5
        have HS5 : Vl (W.heap.size ≤ W5.heap.size) := Nat.le_trans HS.out hs5
        have d1 := HB5.out.s.cell
        have d2 := HB5.out.sep.cell
        have d3 := HB5.out.s.frozen
        obtain ⟨W6, hW6⟩ : ∃ W6, W6 = W5.setCell ⟨b, 0, none⟩ (.string (r.extract (i + 2) r.size)) := ⟨_, rfl⟩
        have HB6 : Vl (SpB W6 b (r.extract (i + 2) r.size)) := by rw [hW6]; exact HB5.out.set hgb _
        have HJ6 : Vl (J (pre ++ [X]) W6) := by rw [hW6]; exact HJB.out _ _ _ HJ5.out
        have HS6 : Vl (W.heap.size ≤ W6.heap.size) := by
          have := HS5.out
          show _ ≤ _
          rw [hW6]
          simpa [World.setCell] using this
        have HW6 := vl hW6
        clear hJ5 hk5 hs5 hW6
        gi_wp2_with fail
        rw [← HW6.out]
        clear HW6 d1 d2 d3
        gi_wp2_with fail
        go_roundw
        case rel => exact ⟨pre ++ [X], r.extract (i + 2) r.size, HB6, by rw [List.length_append, ByteArray.size_extract]; simp; omega, HFIN, HJ6, HS6⟩
        case measure =>
          rw [boxSz_at HB6.out.s.cell, HBS.out, ByteArray.size_extract]
          omega
      · have HJ5 := vl hJ5
        clear hJ5
        gi_wp2_with fail
        refine bodyPost_ret (results_none rfl _ _ _) rfl ?_
        exact ⟨⟨_, rfl⟩, Or.inr ⟨_, ⟨_, HFIN.out⟩, HJ5.out⟩⟩
end Go.Proofs.YtibipnipeaeonaaGreatDoor
