/-
  CONNECTIONS TO PLACES: the Go function Take of package pool, whole. No claim by itself.
-/
import Derived.Handy
import Derived.Test.YtibjbdcmhjbndaaDoorLo10X
namespace Go.Proofs.YtibjbdcmhjbndaaDoor
open Go Go.RowKit Go.Maps
set_option maxRecDepth 100000
theorem tk_set3 {Y : World} {n pb : Nat} {to : ByteArray} (hK : TkB Y n pb to) (a b e : Value) :
    (((Y.setCell ⟨n + 1 + 1, 0, none⟩ a).setCell ⟨n + 1 + 1 + 1, 0, none⟩ b).setCell ⟨n + 1 + 1 + 1 + 1, 0, none⟩ e).cell? ⟨n + 1 + 1, 0, none⟩ = some a ∧
    (((Y.setCell ⟨n + 1 + 1, 0, none⟩ a).setCell ⟨n + 1 + 1 + 1, 0, none⟩ b).setCell ⟨n + 1 + 1 + 1 + 1, 0, none⟩ e).cell? ⟨n + 1 + 1 + 1, 0, none⟩ = some b ∧
    (((Y.setCell ⟨n + 1 + 1, 0, none⟩ a).setCell ⟨n + 1 + 1 + 1, 0, none⟩ b).setCell ⟨n + 1 + 1 + 1 + 1, 0, none⟩ e).cell? ⟨n + 1 + 1 + 1 + 1, 0, none⟩ = some e ∧
    Below n Y (((Y.setCell ⟨n + 1 + 1, 0, none⟩ a).setCell ⟨n + 1 + 1 + 1, 0, none⟩ b).setCell ⟨n + 1 + 1 + 1 + 1, 0, none⟩ e) := by
  obtain ⟨-, -, c2, c3, c4, -, -, -⟩ := hK.cells
  refine ⟨?_, ?_, ?_, (((Below.refl n Y).setCell (by show n ≤ n + 1 + 1; omega) _).setCell (by show n ≤ n + 1 + 1 + 1; omega) _).setCell (by show n ≤ n + 1 + 1 + 1 + 1; omega) _⟩
  · rw [World.cell?_setCell_far _ _ _ _ (by show n + 1 + 1 + 1 + 1 ≠ n + 1 + 1; omega), World.cell?_setCell_far _ _ _ _ (by show n + 1 + 1 + 1 ≠ n + 1 + 1; omega)]
    exact World.cell?_setCell_same _ _ _ c2
  · rw [World.cell?_setCell_far _ _ _ _ (by show n + 1 + 1 + 1 + 1 ≠ n + 1 + 1 + 1; omega)]
    refine World.cell?_setCell_same _ _ _ (u := .bool false) ?_
    rw [World.cell?_setCell_far _ _ _ _ (by show n + 1 + 1 ≠ n + 1 + 1 + 1; omega)]
    exact c3
  · refine World.cell?_setCell_same _ _ _ (u := .nilIface) ?_
    rw [World.cell?_setCell_far _ _ _ _ (by show n + 1 + 1 + 1 ≠ n + 1 + 1 + 1 + 1; omega), World.cell?_setCell_far _ _ _ _ (by show n + 1 + 1 ≠ n + 1 + 1 + 1 + 1; omega)]
    exact c4
set_option maxHeartbeats 4000000 in
theorem otake_no {w : World} {pb bb ib : Nat} {DB DI : Dat} {S : Po} (h : PoM w pb bb ib DB DI S) (to : ByteArray) (hto : to.size ≤ 140737488351232) (htk : tokL (unums to) = false) :
    Calls Tryd.prog 8 #[pptr pb, .string to] w (OTakeE w pb bb ib S to) := by
  obtain ⟨W1, hW1⟩ : ∃ W1, tkW w pb to = W1 := ⟨_, rfl⟩
  have hB1 : Below w.heap.size w W1 := by rw [← hW1]; exact tkW_below w pb to
  have hs1 : W1.heap.size = w.heap.size + 5 := by rw [← hW1]; exact tkW_size w pb to
  have hK1 : TkB W1 w.heap.size pb to := by rw [← hW1]; exact tkW_rows w pb to
  have HTK := vl (ntoken_any to W1 hto)
  rw [htk] at HTK
  have HB1 := vl hB1
  have HS1 := vl hs1
  have HK1 := vl hK1
  have HTT := vl htk
  have HM := vl h
  obtain ⟨-, c1, -, -, -, -, -, -⟩ := hK1.cells
  have HW1 := vl hW1
  have c1' := c1
  unfold tkW at hW1
  rw [← hW1] at c1'
  clear h hB1 hs1 hK1 htk c1 hW1
  unfold pptr
  go_enter Tryd.func8, Tryd.ntmps8
  go_wp2_with fail
  have e1 := HW1.out
  unfold tkW at e1
  rw [e1]
  clear e1 c1' HW1
  refine HTK.out.mono ?_
  rintro _ W2 ⟨rfl, hb2⟩
  have HB2 := vl (HB1.out.trans (hb2.mono HB1.out.size))
  have HK2 := vl (HK1.out.below hb2 (by rw [HS1.out]; exact Nat.le_refl _))
  obtain ⟨-, -, c2, c3, c4, f2, f3, f4⟩ := HK2.out.cells
  clear hb2 HTK HK1 HB1
  go_wp2_with fail
  obtain ⟨j2, j3, j4, hb3⟩ := tk_set3 HK2.out (.int .i64 0) (.bool false) (.iface 53 (.int .i64 2))
  refine bodyPost_ret (v := .tuple #[.int .i64 0, .bool false, .iface 53 (.int .i64 2)]) (by simp [results, Tryd.results8, go_sem, j2, j3, j4]) rfl ?_
  unfold OTakeE
  rw [take_no HTT.out]
  exact ⟨rfl, pok_same HM.out (HB2.out.trans hb3)⟩
theorem otake_any {w : World} {pb bb ib : Nat} {DB DI : Dat} {S : Po} (h : PoM w pb bb ib DB DI S) (hI : PoI S) (to : ByteArray) (hto : to.size ≤ 140737488351232) (ht1 : S.turn ≤ 1000000000000) (hl1 : S.last ≤ 1000000000000) :
    Calls Tryd.prog 8 #[pptr pb, .string to] w (OTakeE w pb bb ib S to) := by
  cases htk : tokL (unums to) with
  | false => exact otake_no h to hto htk
  | true => exact (callsIn_wide (n := 9)).1 (otake_in h hI to hto ht1 hl1 htk)
theorem poI_takeT {S : Po} (h : PoI S) (to : ByteArray) : PoI (takeT S to).2.2.2 := by
  unfold takeT
  split
  · exact poI_take h to
  · exact h
end Go.Proofs.YtibjbdcmhjbndaaDoor
