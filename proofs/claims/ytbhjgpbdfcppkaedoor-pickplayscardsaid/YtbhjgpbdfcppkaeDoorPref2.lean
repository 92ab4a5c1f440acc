/-
  A PICKER as the document's answer keeps it: Least. No claim by itself.
-/
import Derived.Test.YtbhjgpbdfcppkaeDoorPref
import Derived.BigQuiet
import Derived.Deep.QuietTactic
namespace Go.Proofs.YtbhjgpbdfcppkaeDoor
open Go.RowKit
set_option maxRecDepth 100000
theorem drewN_below {B : Nat} {w w' : World} (h : Below B w w') (n : Nat) : Below B w (w'.drewN n) := h.trans ⟨rfl, rfl, rfl, Nat.le_refl _, fun _ _ => rfl⟩
/-- The index of who is the least one, of the first k. -/
def LeastAt (L : PL) (k : Nat) (i : Int) : Prop := (i = -1 ∧ (L.take k).foldl lstep none = none) ∨ ∃ j : Nat, i = j ∧ j < k ∧ j < L.length ∧ (L.take k).foldl lstep none = some (pnth L j)
theorem least_step {L : PL} {k : Nat} {x : Option PkO} (h : (L.take k).foldl lstep none = x) (hk : k < L.length) : (L.take (k + 1)).foldl lstep none = lstep x (pnth L k) := by
  rw [ptake_nth L k hk, List.foldl_append, h]
  rfl
theorem LeastAt.no {L : PL} {k : Nat} {i : Int} (h : LeastAt L k i) (hk : k < L.length) (hw : (pnth L k).wants = false) : LeastAt L (k + 1) i := by
  have e : ∀ x, lstep x (pnth L k) = x := fun x => by unfold lstep; rw [hw]; rfl
  rcases h with ⟨h1, h2⟩ | ⟨j, h1, h2, h3, h4⟩
  · exact Or.inl ⟨h1, by rw [least_step h2 hk, e]⟩
  · exact Or.inr ⟨j, h1, by omega, h3, by rw [least_step h4 hk, e]⟩
theorem LeastAt.first {L : PL} {k : Nat} {i : Int} (h : LeastAt L k i) (hk : k < L.length) (hw : (pnth L k).wants = true) (hi : i = -1) : LeastAt L (k + 1) (k : Int) := by
  rcases h with ⟨h1, h2⟩ | ⟨j, h1, _, _, _⟩
  · exact Or.inr ⟨k, rfl, by omega, hk, by rw [least_step h2 hk]; unfold lstep; rw [hw]; rfl⟩
  · omega
theorem LeastAt.next {L : PL} {k j : Nat} (h : LeastAt L k (j : Int)) (hk : k < L.length) (hw : (pnth L k).wants = true) (b : Bool) (hb : pkb (pnth L k) (pnth L j) = b) : LeastAt L (k + 1) (if b then (k : Int) else (j : Int)) := by
  rcases h with ⟨h1, h2⟩ | ⟨j', h1, h2, h3, h4⟩
  · omega
  · obtain rfl : j = j' := by omega
    have e : lstep (some (pnth L j)) (pnth L k) = if b then some (pnth L k) else some (pnth L j) := by unfold lstep; rw [hw, ← hb]; rfl
    cases b
    · exact Or.inr ⟨j, rfl, by omega, h3, by rw [least_step h4 hk, e]; rfl⟩
    · exact Or.inr ⟨k, rfl, by omega, hk, by rw [least_step h4 hk, e]; rfl⟩
set_option maxHeartbeats 2000000 in
theorem rpleast_any {w : World} {rb : Nat} {v : Value} {L : PL} (h : RpP w rb v L) (hL : L.length ≤ 1000) :
    Calls Tryd.prog 15 #[kptr rb] w fun e w' => (∃ i, e = .returned (.int .i64 i) ∧ LeastAt L L.length i) ∧ Below w.heap.size w w' := by
  have HP : Vl (∀ wx, Below w.heap.size w wx → RpP wx rb v L) := fun wx hb => h.below hb
  obtain ⟨a, c, rfl, hc1, hc2, hcell⟩ := pown_shape rfl h.row
  clear h hcell
  unfold kptr
  go_enter Tryd.func15, Tryd.ntmps15
  go_wp2_with fail
  go_loopw [3, 4] (fun x i wr => ∃ (k : Nat) (j : Int), i = .int .i64 k ∧ x = .int .i64 j ∧ k ≤ L.length ∧ Vl (LeastAt L k j) ∧ Vl (Below w.heap.size w wr)) (fun _ i _ => L.length - (intOf i).toNat)
  case atStart => exact ⟨0, -1, rfl, rfl, by omega, Or.inl ⟨rfl, by simp⟩, Below.refl _ _⟩
  case round =>
    obtain ⟨k, j, rfl, rfl, hk, HR, HB⟩ := hrel
    have hP := HP.out wr HB.out
    have c0 := hP.c0
    obtain ⟨a', c', he, _, _, hcell⟩ := pown_shape rfl hP.row
    obtain ⟨rfl, rfl⟩ : a = a' ∧ c = c' := by simpa using he
    clear he hP
    by_cases hlt : k < L.length
    case neg =>
      have p1 : ¬ ((k : Int) < (L.length : Int)) := by omega
      have hkl : k = L.length := by omega
      clear hcell
      go_wp2
      go_ret
      exact ⟨⟨j, rfl, hkl ▸ HR.out⟩, HB.out⟩
    have p1 : (k : Int) < (L.length : Int) := by omega
    obtain ⟨g, rfl, hg0, k0, k1, k2, k3, _⟩ := hcell k hlt
    have HN := vl (show ∀ b, (pnth L k).wants = b → (pnth L k).wants = b from fun _ h => h)
    have HCL := vl hcell
    clear hcell
    have hge := HR.out
    have hj : j = -1 ∨ ∃ jj : Nat, j = jj ∧ jj < L.length := by
      rcases hge with ⟨h, _⟩ | ⟨jj, h, _, h', _⟩
      · exact Or.inl h
      · exact Or.inr ⟨jj, h, h'⟩
    clear hge
    obtain ⟨q, hq⟩ : ∃ q, pnth L k = q := ⟨_, rfl⟩
    have HQ := vl hq
    rw [hq] at k0 k1 k2 k3
    clear hq HN
    obtain ⟨pi, pw, ps, pt⟩ := q
    dsimp only at k0 k1 k2 k3
    have hgl : g < wr.heap.size := blk_of_cell k0
    have hrl : rb < wr.heap.size := blk_of_cell c0
    go_wp2_with fail
    obtain ⟨W1, hW1⟩ : ∃ W1, W1 = wr.alloc (.cells #[.int .i64 pi, .int .i64 pw, .int .i64 ps, .bool pt] 44) := ⟨_, rfl⟩
    have hbw : Below wr.heap.size wr W1 := by rw [hW1]; exact (Below.refl _ _).alloc (Nat.le_refl _) _
    have hxv : W1.heap[wr.heap.size]? = some (.cells #[.int .i64 pi, .int .i64 pw, .int .i64 ps, .bool pt] 44 (0, 0)) := by rw [hW1]; exact heap_alloc_new _ _
    have v0 : W1.cell? ⟨wr.heap.size, 0, none⟩ = some (.int .i64 pi) := by simp only [World.cell?, hxv]; rfl
    have v2 : W1.cell? ⟨wr.heap.size, 2, none⟩ = some (.int .i64 ps) := by simp only [World.cell?, hxv]; rfl
    have v3 : W1.cell? ⟨wr.heap.size, 3, none⟩ = some (.bool pt) := by simp only [World.cell?, hxv]; rfl
    have c0' := (hbw.cell (p := ⟨rb, 0, none⟩) hrl).trans c0
    have BW := vl (HB.out.trans (hbw.mono HB.out.size))
    have HX := vl (fun t ht => by
      obtain ⟨g', e, _, a0, _, a2, _⟩ := HCL.out t ht
      obtain rfl : g = g' := by simpa using e
      exact And.intro ((hbw.cell (p := ⟨g, t * 4, none⟩) hgl).trans a0) ((hbw.cell (p := ⟨g, t * 4 + 2, none⟩) hgl).trans a2))
    rw [← hW1]
    clear hW1 hbw hxv c0 k0 k1 k2 k3 HCL hgl hrl HB
    generalize wr.heap.size = xb at *
    cases pt with
    | false =>
      go_quiet (fail)
      go_wp2
      go_roundw
      case rel => exact ⟨k + 1, j, by go_num, rfl, by omega, HR.out.no hlt (by rw [HQ.out]), drewN_below BW.out _⟩
      case measure => simp [intOf]; omega
    | true =>
    rcases hj with rfl | ⟨jj, rfl, hjj⟩
    · go_quiet (fail)
      go_wp2
      go_roundw
      case rel => exact ⟨k + 1, k, by go_num, rfl, by omega, HR.out.first hlt (by rw [HQ.out]) rfl, drewN_below BW.out _⟩
      case measure => simp [intOf]; omega
    · obtain ⟨y0, y2⟩ := HX.out jj hjj
      have hj0 : ¬ ((jj : Int) < 0) := by omega
      have hj1 : (jj : Int) < (L.length : Int) := by omega
      obtain ⟨r, hr⟩ : ∃ r, pnth L jj = r := ⟨_, rfl⟩
      have HRR := vl hr
      rw [hr] at y0 y2
      clear hr HX
      obtain ⟨ri, rw', rs, rt⟩ := r
      dsimp only at y0 y2
      have KEY : Vl (∀ b, (decide (ps < rs) || (decide (ps = rs) && decide (pi < ri))) = b → LeastAt L (k + 1) (if b then (k : Int) else (jj : Int))) := fun b hb => HR.out.next hlt (by rw [HQ.out]) b (by rw [HQ.out, HRR.out]; exact hb)
      by_cases q1 : ps < rs
      · go_quiet (fail)
        go_wp2
        go_roundw
        case rel => exact ⟨k + 1, k, by go_num, rfl, by omega, KEY.out true (by simp [q1]), drewN_below BW.out _⟩
        case measure => simp [intOf]; omega
      · by_cases q2 : ps = rs
        · subst q2
          by_cases q3 : pi < ri
          · go_quiet (fail)
            go_wp2
            go_roundw
            case rel => exact ⟨k + 1, k, by go_num, rfl, by omega, KEY.out true (by simp [q3]), drewN_below BW.out _⟩
            case measure => simp [intOf]; omega
          · go_quiet (fail)
            go_wp2
            go_roundw
            case rel => exact ⟨k + 1, jj, by go_num, rfl, by omega, KEY.out false (by simp [q3]), drewN_below BW.out _⟩
            case measure => simp [intOf]; omega
        · have q2' : (ps == rs) = false := beq_eq_false_iff_ne.2 q2
          go_quiet (fail)
          go_wp2
          go_roundw
          case rel => exact ⟨k + 1, jj, by go_num, rfl, by omega, KEY.out false (by simp [q1, q2]), drewN_below BW.out _⟩
          case measure => simp [intOf]; omega
end Go.Proofs.YtbhjgpbdfcppkaeDoor
