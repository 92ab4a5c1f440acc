/-
  ORDER: a row of fields whose places are exchanged, in memory. No claim by itself.
-/
import Derived.BigRegion
import Derived.Laws.OwnMore
import Derived.Test.YtibipnipeaeonaaDoorZsm2
import Derived.Test.YtibipnipeaeonaaDoorMC
import Derived.Test.YtibipnipeaeonaaDoorMB
namespace Go.Proofs.YtibipnipeaeonaaDoor
open Go Go.RowKit
set_option maxRecDepth 100000
abbrev FB := ByteArray × ByteArray
def nmK (f : FB) : List Int := unums f.1
/-- A row of fields that is turned in its places: all else stays. -/
structure SW (w0 : World) (g off len cap : Nat) (D : List FB) (w : World) : Prop where
  row : FRow w g off len cap D
  blk : ∃ cur, w.heap[g]? = some (.cells cur 31 (0, 0))
  tn : Tn (fun k => k = g) w0 w
theorem SW.fro {w0 w : World} {g off len cap : Nat} {D : List FB} (h : SW w0 g off len cap D w) (j : Nat) : w.frozen? ⟨g, j, none⟩ = false := by
  obtain ⟨cur, hg⟩ := h.blk
  exact frozen_of_row w g j cur _ hg
theorem Tn.trans' {S : Nat → Prop} {a b c : World} (h : Tn S a b) (k : Tn S b c) : Tn S a c :=
  ⟨k.os.trans h.os, k.tape.trans h.tape, k.output.trans h.output, Nat.le_trans h.size k.size, fun i hi hs => (k.block i (Nat.lt_of_lt_of_le hi h.size) hs).trans (h.block i hi hs)⟩
theorem SW.below {w0 w w' : World} {g off len cap : Nat} {D : List FB} (h : SW w0 g off len cap D w) (hb : Below w.heap.size w w') : SW w0 g off len cap D w' := by
  obtain ⟨cur, hg⟩ := h.blk
  have hlt : g < w.heap.size := (Array.getElem?_eq_some_iff.1 hg).1
  exact ⟨h.row.below hb, ⟨cur, (hb.block g hlt).trans hg⟩, h.tn.trans' (Tn.of_below hb)⟩
theorem cell_set2 {w : World} {g : Nat} {cur : Array Value} (hg : w.heap[g]? = some (.cells cur 31 (0, 0))) {o v : _} {x : Value} (i : Nat) (hi : w.cell? ⟨g, i, none⟩ = some x) :
    (w.setCell ⟨g, o, none⟩ v).cell? ⟨g, i, none⟩ = if i = o then some v else some x := by
  have h1 := heap_setCell_same w g o cur 31 v hg
  rw [cell_of_row _ g i _ _ _ h1]
  rw [cell_of_row _ g i _ _ _ hg] at hi
  rw [Array.getElem?_setIfInBounds]
  by_cases e : o = i
  · subst e
    have : o < cur.size := (Array.getElem?_eq_some_iff.1 hi).1
    simp [this]
  · rw [if_neg e, if_neg (fun h => e h.symm), hi]
/-- One place is written. -/
theorem SW.put {w0 w : World} {g off len cap : Nat} {D : List FB} (h : SW w0 g off len cap D w) (i : Nat) (hi : i < len) (f : FB) :
    SW w0 g off len cap (D.set i f) ((w.setCell ⟨g, off + i * 2, none⟩ (.string f.1)).setCell ⟨g, off + i * 2 + 1, none⟩ (.string f.2)) := by
  obtain ⟨cur, hg⟩ := h.blk
  have h1 := heap_setCell_same w g (off + i * 2) cur 31 (.string f.1) hg
  have h2 := heap_setCell_same _ g (off + i * 2 + 1) _ 31 (.string f.2) h1
  have hl := h.row.hlen
  refine ⟨⟨by rw [List.length_set]; exact hl, h.row.hcap, h.row.hmax, fun t ht => ?_, fun t ht => ?_⟩, ⟨_, h2⟩, (h.tn.trans' (tn_set rfl)).trans' (tn_set rfl)⟩
  · have k1 := cell_set2 hg (o := off + i * 2) (v := .string f.1) (off + t * 2) (h.row.hname t ht)
    rw [getD_set' _ _ _ _ (by omega)]
    by_cases e : t = i
    · subst e
      rw [if_pos rfl] at k1 ⊢
      have k2 := cell_set2 h1 (o := off + t * 2 + 1) (v := .string f.2) (off + t * 2) k1
      rw [k2, if_neg (by omega)]
    · rw [if_neg (by omega)] at k1
      have k2 := cell_set2 h1 (o := off + i * 2 + 1) (v := .string f.2) (off + t * 2) k1
      rw [k2, if_neg (by omega), if_neg e]
  · have k1 := cell_set2 hg (o := off + i * 2) (v := .string f.1) (off + t * 2 + 1) (h.row.hvalue t ht)
    rw [if_neg (by omega)] at k1
    rw [getD_set' _ _ _ _ (by omega)]
    have k2 := cell_set2 h1 (o := off + i * 2 + 1) (v := .string f.2) (off + t * 2 + 1) k1
    rw [k2]
    by_cases e : t = i
    · subst e
      rw [if_pos rfl, if_pos rfl]
    · rw [if_neg (by omega), if_neg e]
theorem SW.drew {w0 w : World} {g off len cap : Nat} {D : List FB} (h : SW w0 g off len cap D w) : SW w0 g off len cap D w.drew := h.below ((Below.refl _ w).drew)
/-- Two places are exchanged. -/
theorem SW.swap {w0 w : World} {g off len cap : Nat} {D : List FB} (h : SW w0 g off len cap D w) (i j : Nat) (hi : i < len) (hj : j < len) {x1 x2 y1 y2 : ByteArray} (ha : D.getD i fnone = (x1, x2)) (hb : D.getD j fnone = (y1, y2)) :
    SW w0 g off len cap (swapL fnone D i j) ((((w.setCell ⟨g, off + i * 2, none⟩ (.string y1)).setCell ⟨g, off + i * 2 + 1, none⟩ (.string y2)).setCell ⟨g, off + j * 2, none⟩ (.string x1)).setCell ⟨g, off + j * 2 + 1, none⟩ (.string x2)).drew := by
  unfold swapL
  rw [ha, hb]
  exact ((h.put i hi (y1, y2)).put j hj (x1, x2)).drew
set_option maxHeartbeats 2000000 in
theorem zswr_any (w0 : World) (g off len cap a b n : Nat) (F : Value) (D : List FB) (w : World) (h : SW w0 g off len cap D w) (hab : a + n ≤ b) (hbn : b + n ≤ len) (hlen : len ≤ 4611686018427387904) :
    Calls Tryd.prog 86 #[.slice (some ⟨g, off, none⟩) len cap, .int .i64 a, .int .i64 b, .int .i64 n, F] w fun e w' => (∃ v, e = .returned v) ∧ ∃ E, SwR fnone D a b n E ∧ SW w0 g off len cap E w' := by
  have H := vl h
  have hl := h.row.hlen
  have HL := vl hl
  have hcap := h.row.hcap
  clear h hl
  go_enter Tryd.func86, Tryd.ntmps86
  go_wp2_with fail
  go_loopw [10] (fun i wr => ∃ (k : Nat) (E : List FB), i = .int .i64 k ∧ k ≤ n ∧ Vl (SwR fnone D a b k E) ∧ Vl (SW w0 g off len cap E wr)) (fun i _ => n - (intOf i).toNat)
  case atStart => exact ⟨0, D, rfl, by omega, SwR.zero _ _ _, H⟩
  case round =>
    obtain ⟨k, E, rfl, hk, HS, HW⟩ := hrel
    by_cases hlt : k < n
    · have hlt' : (k : Int) < (n : Int) := by omega
      have c1 := HW.out.row.hname (a + k) (by omega)
      have c2 := HW.out.row.hvalue (a + k) (by omega)
      have c3 := HW.out.row.hname (b + k) (by omega)
      have c4 := HW.out.row.hvalue (b + k) (by omega)
      obtain ⟨x, hx⟩ : ∃ x, E.getD (a + k) fnone = x := ⟨_, rfl⟩
      obtain ⟨y, hy⟩ : ∃ y, E.getD (b + k) fnone = y := ⟨_, rfl⟩
      rw [hx] at c1 c2
      rw [hy] at c3 c4
      have HX := vl hx
      have HY := vl hy
      have f1 := HW.out.fro
      have b1 : (a : Int) + (k : Int) < (len : Int) := by omega
      have b2 : (b : Int) + (k : Int) < (len : Int) := by omega
      have b3 : a + k < len := by omega
      have b4 : b + k < len := by omega
      have hne : a + k ≠ b + k := by omega
      have z1 : (0 : Int) ≤ (a : Int) + (k : Int) := by omega
      have z2 : (0 : Int) ≤ (b : Int) + (k : Int) := by omega
      obtain ⟨x1, x2⟩ := x
      obtain ⟨y1, y2⟩ := y
      obtain ⟨W4, hW4⟩ : ∃ W4, W4 = ((((wr.setCell ⟨g, off + (a + k) * 2, none⟩ (.string y1)).setCell ⟨g, off + (a + k) * 2 + 1, none⟩ (.string y2)).setCell ⟨g, off + (b + k) * 2, none⟩ (.string x1)).setCell ⟨g, off + (b + k) * 2 + 1, none⟩ (.string x2)).drew := ⟨_, rfl⟩
      have HW4 : Vl (SW w0 g off len cap (swapL fnone E (a + k) (b + k)) W4) := by
        rw [hW4]
        exact HW.out.swap (a + k) (b + k) b3 b4 HX.out HY.out
      have HS4 : Vl (SwR fnone D a b (k + 1) (swapL fnone E (a + k) (b + k))) := HS.out.next hlt hab (by rw [HL.out]; exact hbn)
      have HWD := vl hW4
      clear hx hy hW4
      go_wp2_with fail
      go_region
      rw [← HWD.out]
      clear HWD c1 c2 c3 c4 f1
      go_wp2_with fail
      go_roundw
      case rel => exact ⟨k + 1, _, by go_num, by omega, HS4, HW4⟩
      case measure => simp [intOf]; omega
    · have hke : k = n := by omega
      subst hke
      go_wp2_with fail
      go_end0
      exact ⟨⟨_, rfl⟩, E, HS.out, HW.out⟩
end Go.Proofs.YtibipnipeaeonaaDoor
