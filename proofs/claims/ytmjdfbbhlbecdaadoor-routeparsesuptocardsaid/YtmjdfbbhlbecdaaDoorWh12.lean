/-
  WHERETO: strings.Lines, and what it hands back. No claim by itself.
-/
import Derived.Test.YtmjdfbbhlbecdaaDoorWbox
import Derived.Test.YtmjdfbbhlbecdaaDoorWh4
import Derived.Shelf.Abstract
import Derived.Shelf.RegionOpen
import Derived.WalkKit
import Derived.OwnWalkIn
import Derived.TacticsInMore
import Derived.LoopNIn
import Derived.LoopIn
import Derived.BigRegionIn
namespace Go.Proofs.YtmjdfbbhlbecdaaDoor
open Go Go.RowKit Go.Shelf
set_option maxRecDepth 100000
attribute [local go_sem] Oper.semAt_some
theorem lines_call (s : ByteArray) (w : World) :
    Calls Tryd.prog 29 #[.string s] w fun e w' => e = .returned (.func (.func 45) #[] #[.pointer (some ⟨w.heap.size, 0, none⟩)]) ∧ w' = w.alloc (.cells #[.string s] 9) := by
  go_enter Tryd.func29, Tryd.ntmps29
  go_wp2
  go_ret
  exact ⟨rfl, rfl⟩
/-- A line. -/
abbrev Ln := { x : ByteArray // x.size ≤ 140737488351232 }
def lnV (x : Ln) : Array Value := #[.string x.1]
def lnsU (l : List Ln) : List (List Int) := l.map fun x => unums x.1
theorem lnsU_snoc (l : List Ln) (x : Ln) : lnsU (l ++ [x]) = lnsU l ++ [unums x.1] := by simp [lnsU]
def boxSz (b : Nat) (W : World) : Nat := match W.cell? ⟨b, 0, none⟩ with
  | some (.string r) => r.size
  | _ => 0
theorem boxSz_at {b : Nat} {W : World} {r : ByteArray} (h : W.cell? ⟨b, 0, none⟩ = some (.string r)) : boxSz b W = r.size := by unfold boxSz; rw [h]
theorem own_drew {β : Type} {B : Nat} {J : β → World → Prop} (hJ : OwnFrom B J) {s : β} {W : World} (h : J s W) : J s W.drew := hJ s W W.drew none h ⟨rfl, rfl, rfl, Nat.le_refl _, fun _ _ _ => rfl⟩ (fun r e => by cases e)
theorem boxed_set {W : World} {b : Nat} {t : TypeId} {v : Value} (h : Boxed W b t v) (u : Value) : Boxed (W.setCell ⟨b, 0, none⟩ u) b t u := by
  have k : W.heap[b]? = some (.cells #[v] t (0, 0)) := h
  show _ = _
  simp [World.setCell, Array.getElem?_modify, k]
theorem lines_hit {r : List Int} {i : Nat} (h : idxI 10 r = (i : Int)) : i < r.length ∧ linesF r = r.take (i + 1) :: linesF (r.drop (i + 1)) := by
  have hm : (10 : Int) ∈ r := (idxI_pos 10 r).1 (by omega)
  obtain ⟨a, t, e, hn⟩ := mem_first 10 r hm
  rw [e, idxI_at t hn] at h
  have ha : a.length = i := by omega
  subst ha
  rw [e]
  refine ⟨by simp, ?_⟩
  rw [lines_at hn, show a ++ 10 :: t = (a ++ [10]) ++ t by simp, List.take_left' (by simp), List.drop_left' (by simp)]
theorem lines_miss {r : List Int} (h : idxI 10 r < 0) (hr : r ≠ []) : linesF r = [r] := lines_last (fun hm => by have := (idxI_pos 10 r).2 hm; omega) hr
set_option maxHeartbeats 4000000 in
theorem lines_stops (n : Nat) (hn : 1 ≤ n) (T : ByteArray) (hT : T.size ≤ 140737488351232) (b : Nat) (w : World) (hb : Boxed w b 9 (.string T)) :
    SeqBox Fence.wide n Tryd.prog 45 #[.pointer (some ⟨b, 0, none⟩)] lnV b (fun xs => lnsU xs = linesF (unums T)) (fun pre => ∃ r, lnsU pre ++ r = linesF (unums T)) (T.size + 1) w := by
  intro l J Jx W hBW hJ _hJx hJb hY h0
  have HBX : Vl (Boxed W b 9 (.string T)) := (hBW.block b hb.lt).trans hb
  have HJ := vl hJ
  have HJB := vl hJb
  have HY := vl hY
  have H0 := vl h0
  clear hBW hJ hJb hY h0 hb
  refine callsIn_of_wp Tryd.func45 rfl trivial ?_ rfl
  simp only [Tryd.ntmps45, List.size_toArray, List.length_cons, List.length_nil, Nat.reduceAdd, Nat.reduceSub, Array.replicate_succ, Array.replicate_zero, List.push_toArray, List.append_toArray, List.nil_append, List.cons_append]
  gi_wp2
  gi_loopw [] (fun wr => ∃ (pre : List Ln) (r : ByteArray), Vl (Boxed wr b 9 (.string r)) ∧ pre.length + r.size ≤ T.size ∧ Vl (lnsU pre ++ linesF (unums r) = linesF (unums T)) ∧ Vl (J pre wr) ∧ Vl (W.heap.size ≤ wr.heap.size)) (fun wr => boxSz b wr)
  case atStart => exact ⟨[], T, HBX, by simp, rfl, H0, Nat.le_refl _⟩
  case round =>
    obtain ⟨pre, r, HB, hsz, HP, HJ1, HS⟩ := hrel
    have cB := HB.out.cell
    have HBS := vl (boxSz_at cB)
    by_cases hr : 0 < r.size
    · have hr' : (0 : Int) < (r.size : Int) := by omega
      have hne : unums r ≠ [] := fun e => by have := unums_nil.1 e; omega
      have HX := vl (idxb_any r 10 wr)
      rw [show (((10 : UInt8).toNat : Nat) : Int) = 10 from rfl] at HX
      obtain ⟨ix, hix⟩ : ∃ ix, idxI 10 (unums r) = ix := ⟨_, rfl⟩
      rw [hix] at HX
      have HIX := vl hix
      have HNE := vl hne
      clear hix hne
      by_cases hneg : ix < 0
      · have hneg' : ¬ (0 : Int) ≤ ix := by omega
        have HH := vl (lines_miss (by rw [HIX.out]; exact hneg) HNE.out)
        have fB := HB.out.frozen
        obtain ⟨W4, hW4⟩ : ∃ W4, W4 = wr.setCell ⟨b, 0, none⟩ (.string ⟨#[]⟩) := ⟨_, rfl⟩
        have HB4 : Vl (Boxed W4 b 9 (.string ⟨#[]⟩)) := by rw [hW4]; exact boxed_set HB.out _
        have HJ4 : Vl (J pre W4) := by rw [hW4]; exact HJB.out pre _ _ HJ1.out
        have HS4 : Vl (W.heap.size ≤ W4.heap.size) := by
          have := HS.out
          show _ ≤ _
          rw [hW4]
          simpa [World.setCell] using this
        obtain ⟨X, hX⟩ : ∃ X : Ln, X.1 = r := ⟨⟨r, by omega⟩, rfl⟩
        obtain ⟨fn, tmps, assign, body, hy, hR⟩ := HY.out pre X W4 HJ4.out (by omega) HS4.out
        have hpx : lnV X = #[.string r] := by unfold lnV; rw [hX]
        rw [hpx] at hy
        have HR := vl hR
        have HXV := vl hX
        have HFIN : Vl (lnsU (pre ++ [X]) = linesF (unums T)) := by
          show _ = _
          rw [lnsU_snoc, hX, ← HP.out, HH.out]
        clear hpx hR hX hneg
        gi_wp2_with fail
        refine ⟨trivial, ?_⟩
        refine (callsIn_wide.2 HX.out).mono ?_
        rintro e w2 ⟨rfl, rfl⟩
        gi_wp2_with fail
        rw [← hW4, hy]
        clear hW4
        gi_wp2_with fail
        refine HR.out.mono ?_
        rintro e W5 (⟨rfl, hJ5, hk5, hs5⟩ | ⟨rfl, hJ5⟩)
        · have HJ5 := vl hJ5
          have HB5 : Vl (Boxed W5 b 9 (.string ⟨#[]⟩)) := hk5.trans HB4.out
          have HS5 : Vl (W.heap.size ≤ W5.heap.size) := Nat.le_trans HS4.out hs5
          clear hJ5 hk5 hs5
          gi_wp2_with fail
          go_roundw
          case rel => exact ⟨pre ++ [X], ⟨#[]⟩, HB5, by have : (⟨#[]⟩ : ByteArray).size = 0 := rfl; simp; omega, by show _ = _; rw [HFIN.out]; simp [lines_nil, show unums ⟨#[]⟩ = [] from rfl], HJ5, HS5⟩
          case measure =>
            rw [boxSz_at HB5.out.cell, HBS.out]
            exact hr
        · have HJ5 := vl hJ5
          clear hJ5
          gi_wp2_with fail
          refine bodyPost_ret (results_none rfl _ _ _) rfl ?_
          exact ⟨⟨_, rfl⟩, Or.inr ⟨_, ⟨[], by rw [List.append_nil]; exact HFIN.out⟩, HJ5.out⟩⟩
      · obtain ⟨i, rfl⟩ : ∃ i : Nat, ix = (i : Int) := ⟨ix.toNat, by omega⟩
        obtain ⟨hi, hh⟩ := lines_hit HIX.out
        rw [unums_len] at hi
        have HH := vl hh
        have fB := HB.out.frozen
        have c1 : (0 : Int) ≤ (i : Int) := by omega
        have c2 : (0 : Int) ≤ (i : Int) + 1 := by omega
        have c3 : (i : Int) + 1 ≤ (r.size : Int) := by omega
        obtain ⟨W4, hW4⟩ : ∃ W4, W4 = (wr.setCell ⟨b, 0, none⟩ (.string (r.extract (i + 1) r.size))).drew := ⟨_, rfl⟩
        have HB4 : Vl (Boxed W4 b 9 (.string (r.extract (i + 1) r.size))) := by rw [hW4]; exact boxed_set HB.out _
        have HJ4 : Vl (J pre W4) := by rw [hW4]; exact own_drew HJ.out (HJB.out pre _ _ HJ1.out)
        have HS4 : Vl (W.heap.size ≤ W4.heap.size) := by
          have := HS.out
          show _ ≤ _
          rw [hW4]
          simpa [World.setCell] using this
        obtain ⟨X, hX⟩ : ∃ X : Ln, X.1 = r.extract 0 (i + 1) := ⟨⟨r.extract 0 (i + 1), by rw [ByteArray.size_extract]; omega⟩, rfl⟩
        obtain ⟨fn, tmps, assign, body, hy, hR⟩ := HY.out pre X W4 HJ4.out (by omega) HS4.out
        have hpx : lnV X = #[.string (r.extract 0 (i + 1))] := by unfold lnV; rw [hX]
        rw [hpx] at hy
        have HR := vl hR
        have HFIN : Vl (lnsU (pre ++ [X]) ++ linesF (unums (r.extract (i + 1) r.size)) = linesF (unums T)) := by
          show _ = _
          rw [lnsU_snoc, hX, ← HP.out, HH.out, un_take, un_drop]
          simp
        clear hpx hR hX
        clear hh hneg
        gi_wp2_with fail
        refine ⟨trivial, ?_⟩
        refine (callsIn_wide.2 HX.out).mono ?_
        rintro e w2 ⟨rfl, rfl⟩
        gi_wp2_with fail
        gi_region
        rw [← hW4]
        clear hW4
        gi_wp2_with fail
        refine HR.out.mono ?_
        rintro e W5 (⟨rfl, hJ5, hk5, hs5⟩ | ⟨rfl, hJ5⟩)
        · have HJ5 := vl hJ5
          have HB5 : Vl (Boxed W5 b 9 (.string (r.extract (i + 1) r.size))) := hk5.trans HB4.out
          have HS5 : Vl (W.heap.size ≤ W5.heap.size) := Nat.le_trans HS4.out hs5
          clear hJ5 hk5 hs5
          gi_wp2_with fail
          go_roundw
          case rel => exact ⟨pre ++ [X], r.extract (i + 1) r.size, HB5, by rw [List.length_append, ByteArray.size_extract]; simp; omega, HFIN, HJ5, HS5⟩
          case measure =>
            rw [boxSz_at HB5.out.cell, HBS.out, ByteArray.size_extract]
            omega
        · have HJ5 := vl hJ5
          clear hJ5
          gi_wp2_with fail
          refine bodyPost_ret (results_none rfl _ _ _) rfl ?_
          exact ⟨⟨_, rfl⟩, Or.inr ⟨_, ⟨_, HFIN.out⟩, HJ5.out⟩⟩
    · have hr' : ¬ (0 : Int) < (r.size : Int) := by omega
      have HQ : Vl (lnsU pre = linesF (unums T)) := by
        have h := HP.out
        rw [unums_nil.2 (by omega), lines_nil, List.append_nil] at h
        exact h
      gi_wp2_with fail
      go_end0
      exact ⟨⟨_, rfl⟩, Or.inl ⟨pre, HQ.out, HJ1.out⟩⟩
end Go.Proofs.YtmjdfbbhlbecdaaDoor
