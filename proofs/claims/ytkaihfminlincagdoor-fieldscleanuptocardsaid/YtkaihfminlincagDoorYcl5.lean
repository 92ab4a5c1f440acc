/-
  FROM THE ONE TO THE OTHER: the developers' Clean. No claim by itself.
-/
import Derived.Test.YtkaihfminlincagDoorYcl4
namespace Go.Proofs.YtkaihfminlincagDoor
open Go Go.RowKit Go.Maps
set_option maxRecDepth 100000
theorem xnamed_any (a : Option Addr) (len cap : Nat) (L : List (ByteArray × ByteArray)) (w : World) (hA : FArg w a len cap L) (hl : len ≤ 4194304) (hs : VOk L) (hm : mxP w) :
    Calls Tryd.prog 6 #[.slice a len cap] w fun e w' => ∃ D c, e = .returned (.map (some w.heap.size)) ∧ MOwn w' w.heap.size c D ∧ Cnt D (namedL (fdsOf L)) ∧ Below w.heap.size w w' := by
  rcases hA with ⟨rfl, rfl⟩ | ⟨g, off, rfl, hr⟩
  · have hmm := @run_makeMap Tryd.prog
    go_enter Tryd.func6, Tryd.ntmps6
    go_wp2_with fail
    clear hmm
    go_loopw [11] (fun i wr => i = .int .i64 0 ∧ wr = w.alloc (.map #[] 0)) (fun _ _ => 0)
    case atStart => exact ⟨rfl, rfl⟩
    case round =>
      obtain ⟨rfl, rfl⟩ := hrel
      go_wp2_with fail
      go_ret
      exact ⟨.map [], 0, rfl, World.ownsMap_made _ _ _ _, cnt_nil, (Below.refl _ _).alloc (Nat.le_refl _) _⟩
  · exact xnamed_row g off len cap L w hr hl hs hm
theorem xcl1_any (n v : ByteArray) (cb mb c : Nat) (D : SDat) (nm : List (List Int)) (w : World) (hcell : w.cell? ⟨cb, 0, none⟩ = some (.map (some mb))) (hown : MOwn w mb c D) (hc : Cnt D nm) (hn : n.size ≤ 140737488351232) :
    Calls Tryd.prog 8 #[.agg #[.string n, .string v], .pointer (some ⟨cb, 0, none⟩)] w fun e w' => e = .returned (.bool (goneL nm (unums n))) ∧ Below w.heap.size w w' := by
  have hcb : cb < w.heap.size := by
    rcases Nat.lt_or_ge cb w.heap.size with h1 | h1
    · exact h1
    · simp [World.cell?, Array.getElem?_eq_none h1] at hcell
  have HO := vl hown
  have HC := vl hc
  have HCL := vl hcell
  have HG : Vl (goneL nm (unums n) = (btwL (unums n) || isLn (unums n, unums v) || decide (unums n ∈ nm))) := rfl
  have HX := vl (fun W => xbtw_any n v W)
  have HY := vl (fun W => xlen_any n v W)
  have HA : Vl (Below w.heap.size w (w.alloc (.cells #[.string n, .string v] 25))) := (Below.refl _ w).alloc (Nat.le_refl _) _
  clear hown hc hcell
  generalize btwL (unums n) = b1 at *
  generalize isLn (unums n, unums v) = b2 at *
  rw [HG.out]
  clear HG
  obtain ⟨b3, hb3⟩ : ∃ b, decide (unums n ∈ nm) = b := ⟨_, rfl⟩
  rw [hb3]
  have H3 := vl hb3
  clear hb3
  cases b1 with
  | true =>
    go_enter Tryd.func8, Tryd.ntmps8
    go_wp2_with fail
    refine (HX.out _).mono ?_
    rintro e w1 ⟨rfl, hb1⟩
    have HB1 := vl (HA.out.trans (hb1.mono (by simp)))
    clear hb1
    go_wp2_with fail
    go_ret
    exact ⟨rfl, HB1.out⟩
  | false =>
    go_enter Tryd.func8, Tryd.ntmps8
    go_wp2_with fail
    refine (HX.out _).mono ?_
    rintro e w1 ⟨rfl, hb1⟩
    have HB1 := vl (HA.out.trans (hb1.mono (by simp)))
    rw [World.size_alloc] at hb1
    obtain ⟨d1, d2⟩ := cell2_below hb1
    have hs1 : w.heap.size < w1.heap.size := by have := hb1.size; simp at this; omega
    clear hb1
    go_wp2_with fail
    refine (HY.out _).mono ?_
    rintro e w2 ⟨rfl, hb2⟩
    have HB2 := vl (HB1.out.trans (hb2.mono (by omega)))
    have e1 := (hb2.cell (p := ⟨w.heap.size, 0, none⟩) hs1).trans d1
    have e2 := (HB2.out.cell (p := ⟨cb, 0, none⟩) hcb).trans HCL.out
    have hrun := mown_look (mown_below HO.out HB2.out) HC.out hn
    clear hb2 d1 d2
    cases b2 with
    | true =>
      clear hrun
      go_wp2_with fail
      go_ret
      exact ⟨rfl, HB2.out⟩
    | false =>
      have HM : Vl (0 < nm.count (unums n) ↔ unums n ∈ nm) := List.count_pos_iff
      cases b3 with
      | true =>
        have h0 : (0 : Int) < (nm.count (unums n) : Nat) := by have := HM.out.2 (of_decide_eq_true H3.out); omega
        generalize nm.count (unums n) = cn at *
        clear HM
        go_wp2_with fail
        go_ret
        refine ⟨?_, HB2.out⟩
        show Ending.returned (Value.bool (decide (0 < cn))) = _
        rw [decide_eq_true (by omega : 0 < cn)]
        rfl
      | false =>
        have h0 : nm.count (unums n) = 0 := by
          rcases Nat.eq_zero_or_pos (nm.count (unums n)) with h | h
          · exact h
          · exact absurd (HM.out.1 h) (of_decide_eq_false H3.out)
        rw [h0] at hrun
        clear HM h0
        go_wp2_with fail
        go_ret
        exact ⟨rfl, HB2.out⟩
theorem prd_gone {w : World} {cb mb c : Nat} {D : SDat} {nm : List (List Int)} (hcell : w.cell? ⟨cb, 0, none⟩ = some (.map (some mb))) (hown : MOwn w mb c D) (hc : Cnt D nm) :
    PrdF w (.func (.func 8) #[] #[.pointer (some ⟨cb, 0, none⟩)]) (fun f => goneL nm f.1) := by
  have hcb : cb < w.heap.size := by
    rcases Nat.lt_or_ge cb w.heap.size with h1 | h1
    · exact h1
    · simp [World.cell?, Array.getElem?_eq_none h1] at hcell
  exact ⟨8, #[.pointer (some ⟨cb, 0, none⟩)], rfl, enters_of Tryd.func8 (by kernel_rfl) rfl, fun W n v hn hb => xcl1_any n v cb mb c D nm W ((hb.cell (p := ⟨cb, 0, none⟩) hcb).trans hcell) (mown_below hown hb) hc hn⟩
def goneF (L : List (ByteArray × ByteArray)) (f : Fd) : Bool := goneL (namedL (fdsOf L)) f.1
def cleanB (L : List (ByteArray × ByteArray)) : List (ByteArray × ByteArray) := L.filter (kpF (goneF L))
theorem fds_clean (L : List (ByteArray × ByteArray)) : fdsOf (cleanB L) = cleanL (fdsOf L) := fds_filter L _
theorem fown_mono {w : World} {b b' : Nat} {v : Value} {L : List (ByteArray × ByteArray)} (h : FOwn w b v L) (hb : b' ≤ b) : FOwn w b' v L := by
  obtain ⟨h1, h2 | ⟨g, cap, cur, hv, hg, hr⟩⟩ := id h
  · exact ⟨h1, Or.inl h2⟩
  · exact ⟨h1, Or.inr ⟨g, cap, cur, hv, Nat.le_trans hb hg, hr⟩⟩
theorem xclean_any (a : Option Addr) (len cap : Nat) (L : List (ByteArray × ByteArray)) (w : World) (hA : FArg w a len cap L) (hl : len ≤ 4194304) (hs : VOk L) (hm : mxP w) :
    Calls Tryd.prog 4 #[.slice a len cap] w fun e w' => ∃ v, e = .returned v ∧ FOwn w' w.heap.size v (cleanB L) ∧ Below w.heap.size w w' := by
  have HN := vl (xnamed_any a len cap L w hA hl hs hm)
  have HA := vl hA
  have HS := vl hs
  clear hA hs hm
  go_enter Tryd.func4, Tryd.ntmps4
  go_wp2_with fail
  refine HN.out.mono ?_
  rintro e w1 ⟨D, c, rfl, ho, hc, hb⟩
  have hk : (w1.alloc (.cells #[.map (some w.heap.size)] 28)).heap[w1.heap.size]? = some (.cells #[.map (some w.heap.size)] 28 (0, 0)) := heap_alloc_new w1 _
  have hcc : (w1.alloc (.cells #[.map (some w.heap.size)] 28)).cell? ⟨w1.heap.size, 0, none⟩ = some (.map (some w.heap.size)) := by simp only [World.cell?, hk]; rfl
  have HB2 : Vl (Below w.heap.size w (w1.alloc (.cells #[.map (some w.heap.size)] 28))) := hb.alloc hb.size _
  have HP := vl (prd_gone hcc (ho.alloc _) hc)
  have HW := vl (xwo_any a len cap L _ _ (w1.alloc (.cells #[.map (some w.heap.size)] 28)) (HA.out.below HB2.out) (by omega) (fun t => (HS.out t).1) HP.out)
  have hsz : w.heap.size ≤ w1.heap.size := hb.size
  clear HN ho hc hb hk hcc HP HA HS
  go_wp2_with fail
  refine HW.out.mono ?_
  rintro e w3 ⟨v, rfl, ho3, hb3⟩
  rw [World.size_alloc] at ho3 hb3
  have HF : Vl (FOwn w3 w.heap.size v (cleanB L) ∧ Below w.heap.size w w3) := vl ⟨fown_mono ho3 (by omega), HB2.out.trans (hb3.mono (by omega))⟩
  clear ho3 hb3 HW HB2
  go_wp2_with fail
  go_ret
  exact ⟨_, rfl, HF.out.1, HF.out.2⟩
end Go.Proofs.YtkaihfminlincagDoor
