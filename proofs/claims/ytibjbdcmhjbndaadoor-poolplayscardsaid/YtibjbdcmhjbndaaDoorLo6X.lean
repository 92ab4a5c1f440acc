/-
  CONNECTIONS TO PLACES: the Go function Tick of package pool. No claim by itself.
-/
import Derived.Sort.OwnSortedInts
import Derived.Shelf.SortM.Plain
import Derived.Shelf.SortM.SortNone
import Derived.WalkKit
import Derived.Deep.AppendLies
import Derived.Test.YtibjbdcmhjbndaaDoorML
import Derived.Test.YtibjbdcmhjbndaaDoorOpla0
namespace Go.Proofs.YtibjbdcmhjbndaaDoor
open Go Go.RowKit Go.Maps Go.Sort
set_option maxRecDepth 100000
theorem i_info3 : (Tryd.prog.info? 3).map (fun i => (i.zero, i.size, i.bytes)) = some (some (.int .i64 0), 1, 8) := by kernel_rfl
theorem tn_more {S : Nat → Prop} {a b c : World} {row : Option Nat} (h : Tn S a b) (g : b.grownBy c row) (hr : ∀ k, row = some k → S k ∨ a.heap.size ≤ k) : Tn S a c :=
  ⟨g.os.trans h.os, g.tape.trans h.tape, g.output.trans h.output, Nat.le_trans h.size g.size, fun k hk hs => (g.block k (Nat.lt_of_lt_of_le hk h.size) (fun e => by rcases hr k e.symm with h1 | h1; exact hs h1; omega)).trans (h.block k hk hs)⟩
/-- A row of ints that is handed back. -/
def IRow (w : World) (v : Value) (B : Nat) (ids : List Int) : Prop := (v = .slice none 0 0 ∧ ids = []) ∨ ∃ g c, v = .slice (some ⟨g, 0, none⟩) ids.length c ∧ B ≤ g ∧ g < w.heap.size ∧ ids.length ≤ c ∧ c ≤ maxLen ∧ ∀ t, t < ids.length → w.cell? ⟨g, t, none⟩ = some (.int .i64 (ids.getD t 0))
theorem irow_own {w : World} {v : Value} {B n : Nat} {ids : List Int} (h : w.ownsRow B 3 1 v n (ids.map (Value.int .i64))) (hn : n = ids.length) : IRow w v B ids := by
  subst hn
  have hk := h
  rcases h.2 with ⟨h1, h2⟩ | ⟨g, c, cur, h1, h2, h3, h4, h5, h6, h7⟩
  · exact Or.inl ⟨h1, List.length_eq_zero_iff.1 h2⟩
  · subst h1
    refine Or.inr ⟨g, c, rfl, h2, (Array.getElem?_eq_some_iff.1 h3).1, h4, h5, fun t ht => ?_⟩
    rw [hk.cellAt t (by omega)]
    simp [ht]
def OTickE (w : World) (pb bb ib : Nat) (S : Po) (now old : Int) (e : Ending) (w' : World) : Prop :=
  (tickE S now old ≠ 0 ∧ e = .returned (.tuple #[.slice none 0 0, .iface 53 (.int .i64 (tickE S now old))]) ∧ w = w') ∨
  (tickE S now old = 0 ∧ ∃ v ids, e = .returned (.tuple #[v, .nilIface]) ∧ IRow w' v w.heap.size ids ∧ TickIds S now old ids ∧ PoK w pb bb ib (tickS S now old) w')
set_option maxHeartbeats 1000000 in
theorem otick_no {w : World} {pb bb ib : Nat} {DB DI : Dat} {S : Po} (h : PoM w pb bb ib DB DI S) (now old : Int) (he : tickE S now old ≠ 0) :
    Calls Tryd.prog 12 #[pptr pb, .int .i64 now, .int .i64 old] w (OTickE w pb bb ib S now old) := by
  have H1 := vl (istime_any now w)
  have H2 := vl (istime_any old w)
  obtain ⟨-, -, -, c3, -, -, -⟩ := h.cells
  have HF : Vl (OTickE w pb bb ib S now old (.returned (.tuple #[.slice none 0 0, .iface 53 (.int .i64 (tickE S now old))])) w) := vl (Or.inl ⟨he, rfl, rfl⟩)
  clear h
  unfold pptr
  unfold tickE at he HF
  by_cases h1 : 0 ≤ now ∧ now ≤ 1000000
  · rw [decide_eq_true h1] at H1
    by_cases h2 : 0 ≤ old ∧ old ≤ 1000000
    · rw [decide_eq_true h2] at H2
      rw [if_neg (by omega)] at HF he
      by_cases h3 : now < S.now
      · rw [if_pos h3] at HF
        clear h1 h2 he
        go_enter Tryd.func12, Tryd.ntmps12
        go_wp2_with fail
        refine H1.out.mono ?_
        rintro e w' ⟨rfl, rfl⟩
        go_wp2_with fail
        refine H2.out.mono ?_
        rintro e w' ⟨rfl, rfl⟩
        go_wp2
        go_ret2
        exact HF.out
      · rw [if_neg h3] at he
        exact absurd rfl he
    · rw [decide_eq_false h2] at H2
      rw [if_pos (by omega)] at HF
      clear h1 h2 he
      go_enter Tryd.func12, Tryd.ntmps12
      go_wp2_with fail
      refine H1.out.mono ?_
      rintro e w' ⟨rfl, rfl⟩
      go_wp2_with fail
      refine H2.out.mono ?_
      rintro e w' ⟨rfl, rfl⟩
      go_wp2
      go_ret2
      exact HF.out
  · rw [decide_eq_false h1] at H1
    rw [if_pos (by omega)] at HF
    clear h1 he
    go_enter Tryd.func12, Tryd.ntmps12
    go_wp2_with fail
    refine H1.out.mono ?_
    rintro e w' ⟨rfl, rfl⟩
    go_wp2
    go_ret2
    exact HF.out
theorem blk_now {w : World} {pb : Nat} {a b c d : Int} {x y : Value} {t : TypeId} (h : w.heap[pb]? = some (.cells #[.int .i64 a, .int .i64 b, .int .i64 c, .int .i64 d, x, y] t (0, 0))) (v : Int) : (w.setCell ⟨pb, 3, none⟩ (.int .i64 v)).heap[pb]? = some (.cells #[.int .i64 a, .int .i64 b, .int .i64 c, .int .i64 v, x, y] t (0, 0)) := heap_setCell_same w pb 3 _ t _ h
/-- What holds between two entries. -/
structure TkI (B : Nat) (W : World) (ib : Nat) (L : LL) (p : Lk → Bool) (left : Lit → Bool) (D : Dat) (v : Value) (zs : List Int) (wr : World) : Prop where
  mf : MF D (fLeft L p left) (nI L - zs.length)
  perm : zs.Perm ((cameL L p left).map Lk.id)
  tn : Tn (fun k => k = ib) W wr
  row : wr.ownsRow B 3 1 v zs.length (zs.map (Value.int .i64))
  size : B ≤ wr.heap.size
theorem came_len {L : LL} {p : Lk → Bool} {left : Lit → Bool} (hp : ∀ o ∈ L, p o = true → o.busy = false) : (cameL L p left).length ≤ nI L := by
  have h2 := nI_filter (L := L) (p := p) hp
  have h1 : (cameL L p left).length ≤ (L.filter p).length := by
    unfold cameL
    rw [← List.countP_eq_length_filter, ← List.countP_eq_length_filter]
    exact List.countP_mono_left (fun x _ h => by simp at h; exact h.1)
  omega
theorem sorted_le (zs : List Int) : (zs.mergeSort fun x y => decide (x ≤ y)).Pairwise (· ≤ ·) := by
  have h := List.pairwise_mergeSort (le := fun x y : Int => decide (x ≤ y)) (fun a b c h1 h2 => by simp at *; omega) (fun a b => by simp; omega) zs
  exact h.imp (fun {a b} h => by simpa using h)
theorem Tn.trans' {S : Nat → Prop} {a b c : World} (h : Tn S a b) (k : Tn S b c) : Tn S a c := tn_trans h k
theorem Tn.wider {S T : Nat → Prop} {a b : World} (h : Tn S a b) (k : ∀ i, S i → T i) : Tn T a b := ⟨h.os, h.tape, h.output, h.size, fun i hi hs => h.block i hi (fun e => hs (k i e))⟩
/-- Where all entries have come. -/
theorem tick_end {w W wr X : World} {pb bb ib n : Nat} {DB DI D : Dat} {S : Po} {now old : Int} {left : Lit → Bool} {v v' : Value} {zs ids : List Int} (h : PoM w pb bb ib DB DI S) (hI : PoI S) (he : tickE S now old = 0)
    (hb1 : W.heap[pb]? = some (.cells #[.int .i64 S.many, .int .i64 S.last, .int .i64 S.turn, .int .i64 now, .map (some bb), .map (some ib)] 56 (0, 0))) (hob : W.ownsMap Tryd.prog 3 lkElem bb (nB S.L) DB) (htw : Tn (Po3 pb bb ib) w W)
    (hT : TkI (w.heap.size + 1) W ib S.L (goesB now old) left D v zs wr) (hl : ∀ kl, left kl = false) (ho : wr.ownsMap Tryd.prog 3 lkElem ib n D) (hX : Tn (fun k => k = ib) W X) (hXm : X.heap[ib]? = wr.heap[ib]?)
    (hr : IRow X v' w.heap.size ids) (hp : ids.Perm zs) (hs : ids.Pairwise (· ≤ ·)) : OTickE w pb bb ib S now old (.returned (.tuple #[v', .nilIface])) X := by
  have hg := goes_idle (now := now) (old := old) S.L
  have hz : zs.Perm ((S.L.filter (goesB now old)).map Lk.id) := by have := hT.perm; rwa [cameL_end hl] at this
  have hn : nI (S.L.filter (fun x => !goesB now old x)) = nI S.L - zs.length := by
    have h1 := nI_filter hg
    have h2 := hz.length_eq
    rw [List.length_map] at h2
    omega
  have hm := hT.mf.congr (fun i => fLeft_end hI.nodup hl i) hn
  refine Or.inr ⟨he, v', ids, rfl, hr, ⟨hp.trans hz, hs⟩, ⟨DB, D, (hX.block pb (Array.getElem?_eq_some_iff.1 hb1).1 (fun e => h.n2 e.symm)).trans hb1, h.n1, h.n2, h.n3, ?_, ?_, ?_, hm⟩, tn_trans htw (hX.wider (fun i e => Or.inr (Or.inr e)))⟩
  · show X.ownsMap _ _ _ _ (nB (S.L.filter (fun x => !goesB now old x))) _
    rw [nB_filter hg]
    exact own_block hob (hX.block bb hob.lt h.n3)
  · show X.ownsMap _ _ _ _ (nI (S.L.filter (fun x => !goesB now old x))) _
    have := map_tight (own_block ho hXm)
    rwa [hm.size] at this
  · exact h.relB.congr (fun i => fB_filter hI.nodup hg i) (nB_filter hg)
set_option maxHeartbeats 4000000 in
theorem otick_yes {w : World} {pb bb ib : Nat} {DB DI : Dat} {S : Po} (h : PoM w pb bb ib DB DI S) (hI : PoI S) (now old : Int) (he : tickE S now old = 0) :
    Calls Tryd.prog 12 #[pptr pb, .int .i64 now, .int .i64 old] w (OTickE w pb bb ib S now old) := by
  have hr : (0 ≤ now ∧ now ≤ 1000000) ∧ (0 ≤ old ∧ old ≤ 1000000) ∧ S.now ≤ now := by
    unfold tickE at he
    split at he
    · cases he
    · split at he
      · cases he
      · omega
  obtain ⟨r1, r2, r3⟩ := hr
  have H1 := vl (istime_any now w)
  have H2 := vl (istime_any old w)
  rw [decide_eq_true r1] at H1
  rw [decide_eq_true r2] at H2
  obtain ⟨-, -, -, c3, -, -, cf⟩ := h.cells
  have f3 := cf 3
  have HE := vl he
  obtain ⟨W, hW⟩ : ∃ W, w.setCell ⟨pb, 3, none⟩ (.int .i64 now) = W := ⟨_, rfl⟩
  have b1 : W.heap[pb]? = some (.cells #[.int .i64 S.many, .int .i64 S.last, .int .i64 S.turn, .int .i64 now, .map (some bb), .map (some ib)] 56 (0, 0)) := by rw [← hW]; exact blk_now h.blk now
  have far : ∀ k, k ≠ pb → W.heap[k]? = w.heap[k]? := fun k hk => by rw [← hW]; exact Below.heap_setCell _ _ _ _ hk
  have HOI := vl (own_block h.ownI (far ib h.n2))
  have HOB := vl (own_block h.ownB (far bb h.n1))
  have HSW : Vl (W.heap.size = w.heap.size) := vl (by rw [← hW]; simp)
  have HTW : Vl (Tn (Po3 pb bb ib) w W) := vl (by rw [← hW]; exact tn_set (Or.inl rfl))
  have HB1 := vl b1
  have HM := vl h
  have HI := vl hI
  have HL := vl h.lt
  have c5 : W.cell? ⟨pb, 5, none⟩ = some (.map (some ib)) := by simp only [World.cell?, b1]; rfl
  have HC5 := vl c5
  have HW := vl hW
  clear h hI he cf far hW b1
  obtain ⟨q1, q2⟩ := r1
  obtain ⟨q3, q4⟩ := r2
  have q5 : ¬ now < S.now := by omega
  clear r3
  unfold pptr
  go_enter Tryd.func12, Tryd.ntmps12
  go_wp2_with fail
  refine H1.out.mono ?_
  rintro e w' ⟨rfl, rfl⟩
  go_wp2_with fail
  refine H2.out.mono ?_
  rintro e w' ⟨rfl, rfl⟩
  have c5' : (w.setCell ⟨pb, 3, none⟩ (.int .i64 now)).cell? ⟨pb, 5, none⟩ = some (.map (some ib)) := by rw [HW.out]; exact c5
  have HOI' : Vl ((w.setCell ⟨pb, 3, none⟩ (.int .i64 now)).ownsMap Tryd.prog 3 lkElem ib (nI S.L) DI) := by rw [HW.out]; exact HOI
  clear H1 H2 c5
  go_wp2_with (first | (at_range; refine wpList_range_own _ rfl _ 54 rfl 3 65 klaw Tryd.underlying54 _ ib (nI S.L) DI rfl HOI'.out ?_; intro w0 hrg0 hg0 hs0; rw [HW.out, HSW.out] at hrg0; rw [HW.out] at hg0 hs0; have HRG := vl hrg0; have HG0 := vl hg0; have HS0 := vl hs0; clear hrg0 hg0 hs0 c3 f3 c5') | go_in)
  rw [show (w.setCell ⟨pb, 3, none⟩ (.int .i64 now)).heap.size = w.heap.size by rw [HW.out, HSW.out]]
  clear HOI' HW
  go_frame
  obtain ⟨i0, hi, hz0, hz1, hz2⟩ := info_parts i_info3
  have HCW : Vl (∀ X, Tn (fun k => k = ib) W X → X.cell? ⟨pb, 5, none⟩ = some (.map (some ib))) := vl (fun X hX => hX.cell HC5.out (fun e => HM.out.n2 e.symm))
  have HNL : Vl (nI S.L ≤ 8) := vl (by
    have h1 : nI S.L ≤ S.L.length := by unfold nI idleL; exact List.length_filter_le _ _
    have := HI.out.len
    have := HI.out.many.2
    omega)
  have HGI := vl (goes_idle (now := now) (old := old) S.L)
  go_loopw [8, 9, 10] (fun s8 _ _ wr => ∃ (v : Value) (zs : List Int) (left : Lit → Bool) (D : Dat) (cnt : Nat), s8 = v ∧ Vl (wr.ranges Tryd.prog 3 lkElem ib w.heap.size (nI S.L) D left cnt) ∧ Vl (TkI (w.heap.size + 1) W ib S.L (goesB now old) left D v zs wr))
    (fun _ _ _ wr => wr.rangeLeft ib w.heap.size)
  case atStart =>
    refine ⟨_, [], _, _, _, rfl, HRG, vl ⟨?_, ?_, ?_, World.ownsRow_nil _ _ _ _, ?_⟩⟩
    · exact HM.out.relI.congr (fun i => fLeft_start HM.out.relI HGI.out i) (by simp)
    · rw [cameL_start HM.out.relI HI.out.nodup HGI.out]
      exact List.Perm.refl _
    · exact tn_grown HG0.out (fun k hk => by cases hk)
    · rw [HS0.out, HSW.out]
      exact Nat.le_refl _
  case round =>
    obtain ⟨v, zs, left, D, cnt, hv, HRW, HT⟩ := hrel
    symm at hv
    subst hv
    have hlen : zs.length ≤ 8 := by
      have h1 := HT.out.perm.length_eq
      rw [List.length_map] at h1
      have h2 := came_len (L := S.L) (left := left) HGI.out
      have h3 := HNL.out
      omega
    go_wp2_with (first
      | (at_next; refine wpList_next_lk _ rfl _ rfl klaw Tryd.underlying3 ib w.heap.size (nI S.L) D left cnt rfl HRW.out ?_ ?_)
      | go_in)
    · intro hl
      have HLL := vl hl
      clear hl
      have HEND := vl (fun X v' ids (hX : Tn (fun k => k = ib) W X) (hXm : X.heap[ib]? = wr.heap[ib]?) (hr : IRow X v' w.heap.size ids) (hp : ids.Perm zs) (hs : ids.Pairwise (· ≤ ·)) => tick_end HM.out HI.out HE.out HB1.out HOB.out HTW.out HT.out HLL.out HRW.out.owns hX hXm hr hp hs)
      rcases HT.out.row.2 with ⟨hv, h0⟩ | ⟨g, cap, cur, hv, hbase, hgb, k1, k2, k3, k4⟩
      · have hz : zs = [] := List.length_eq_zero_iff.1 h0
        subst hv
        subst hz
        have HS := vl (AnyM.slices_Sort_int_none (P := Tryd.prog) Tryd.osort none 0 wr)
        have HF := vl (HEND.out wr (.slice none 0 0) [] HT.out.tn rfl (Or.inl ⟨rfl, rfl⟩) (List.Perm.refl _) List.Pairwise.nil)
        clear HEND h0
        go_wp2_with fail
        refine HS.out.mono ?_
        rintro _ w3 ⟨rfl, rfl⟩
        go_wp2_with fail
        go_ret2
        exact HF.out
      · subst hv
        rw [Nat.mul_one] at k4
        have hgl : g < wr.heap.size := (Array.getElem?_eq_some_iff.1 hgb).1
        have HS : Vl (Calls Tryd.prog 23 #[.slice (some ⟨g, 0, none⟩) zs.length cap] wr fun e w' => e = .returned (.tuple #[]) ∧ ∃ n os, w' = grow (putRow (Value.int .i64) (Sort.ahead wr n) g 0 (zs.mergeSort fun x y => decide (x ≤ y)).toArray) os) := vl (AnyM.slices_Sort_int (P := Tryd.prog) Tryd.osort g 0 cap zs wr (holds_of_blockI hgb k4) hgl (by omega))
        have hml : (zs.mergeSort fun x y => decide (x ≤ y)).length = zs.length := List.length_mergeSort _
        have HF : Vl (∀ n os, OTickE w pb bb ib S now old (.returned (.tuple #[.slice (some ⟨g, 0, none⟩) zs.length cap, .nilIface])) (grow (putRow (Value.int .i64) (Sort.ahead wr n) g 0 (zs.mergeSort fun x y => decide (x ≤ y)).toArray) os)) := vl (fun n os => by
          have hgg := grownBy_sortedI (w := wr) (g := g) (n := n) (os := os) (zs.mergeSort fun x y => decide (x ≤ y)).toArray
          refine HEND.out _ _ (zs.mergeSort fun x y => decide (x ≤ y)) (tn_more HT.out.tn hgg (fun k hk => by cases hk; exact Or.inr (by rw [HSW.out]; omega))) (grown_old hgg HRW.out.owns.lt (by have := HL.out.2.2; omega)) ?_ (List.mergeSort_perm _ _) (sorted_le zs)
          have := ownsRow_sortedI (n := n) (os := os) hml (Nat.le_trans (Nat.le_succ _) hbase) hgb k1 k2 k3
          rw [← hml] at this ⊢
          exact irow_own this rfl)
        generalize (zs.mergeSort fun x y => decide (x ≤ y)) = ss at *
        clear HEND hgb k1 k2 k3 k4 hml
        go_wp2_with fail
        refine HS.out.mono ?_
        rintro _ w3 ⟨rfl, n, os, rfl⟩
        have HF2 := vl (HF.out n os)
        obtain ⟨W3, hW3⟩ : ∃ W3, grow (putRow (Value.int .i64) (Sort.ahead wr n) g 0 ss.toArray) os = W3 := ⟨_, rfl⟩
        rw [hW3] at HF2 ⊢
        clear hW3 HF HS
        go_wp2_with fail
        go_ret2
        exact HF2.out
    · intro id s t q w1 cnt1 hid hlf hat hrg1 hlt hg1 hen
      obtain ⟨o, hoL, hoid, hob, hov⟩ := fI_inv (fLeft_at (mf_entry HT.out.mf hat))
      obtain ⟨rfl, rfl, rfl⟩ : s = o.to ∧ t = o.turn ∧ q = o.at_ := by
        unfold iV at hov
        injection hov with a b
        injection b with b c
        exact ⟨a, b, c⟩
      subst hoid
      have hor := HI.out.turns o hoL hob
      have hat1 := hor.2.2.1
      have hat2 := hor.2.2.2
      have HR1 := vl hrg1
      have HLT := vl hlt
      have HOL := vl hoL
      have HLF := vl hlf
      have HID := vl hid
      have HG1 := vl hg1
      have HT1 : Vl (Tn (fun k => k = ib) W w1) := vl (tn_more HT.out.tn hg1 (fun k hk => by cases hk; exact Or.inr (Nat.le_of_eq HSW.out)))
      have HR1' : Vl (w1.ownsRow (w.heap.size + 1) 3 1 v zs.length (zs.map (Value.int .i64))) := vl (HT.out.row.kept hg1 (by
        cases e : v.ownBlock with
        | none => exact Or.inl rfl
        | some k => exact Or.inr (fun e2 => by have := (HT.out.row.lt k e).1; cases e2; omega)))
      have HS1 : Vl (w.heap.size + 1 ≤ w1.heap.size) := vl (Nat.le_trans HT.out.size hg1.size)
      clear hat hrg1 hlt hlf hov hid hg1 hor
      by_cases hg : old < now - o.at_
      · have hgb : goesB now old o = true := by unfold goesB; rw [hob]; simp [hg]
        have hwr : IntKind.i64.wrap (now - o.at_) = now - o.at_ := by rw [IntKind.wrap_i64]; omega
        have HKY := vl (okey64 HID.out)
        have c5 := HCW.out _ (HT1.out.trans' (Tn.of_below ((Below.refl _ w1).alloc (Nat.le_refl _) (.cells #[.string o.to, .int .i64 o.turn, .int .i64 o.at_] 65))))
        have HRA := vl (HR1.out.alloc (.cells #[.string o.to, .int .i64 o.turn, .int .i64 o.at_] 65))
        have HDL : Vl (∀ w3 cnt3, w3.ranges Tryd.prog 3 lkElem ib w.heap.size (nI S.L) (D.del (pkK o.id)) (fun z => strike left o.id z && !z.sameKey (pkK o.id)) cnt3 → (w1.alloc (.cells #[.string o.to, .int .i64 o.turn, .int .i64 o.at_] 65)).grownBy w3 (some ib) →
            w3.ranges Tryd.prog 3 lkElem ib w.heap.size (nI S.L) (D.del (pkK o.id)) (strike left o.id) cnt3 ∧ MF (D.del (pkK o.id)) (fLeft S.L (goesB now old) (strike left o.id)) (nI S.L - (zs ++ [o.id]).length) ∧ Tn (fun k => k = ib) W w3 ∧ w3.ownsRow (w.heap.size + 1) 3 1 v zs.length (zs.map (Value.int .i64)) ∧ w.heap.size + 1 ≤ w3.heap.size) := vl (by
          intro w3 cnt3 hr3 hg3
          refine ⟨?_, ?_, ?_, ?_, ?_⟩
          · have e : (fun z => strike left o.id z && !z.sameKey (pkK o.id)) = strike left o.id := Maps.strike_twice left (pkK o.id)
            rwa [e] at hr3
          · have hm := HT.out.mf.del (HRW.out.owns.tidy klaw) o.id
            have hs : fLeft S.L (goesB now old) left o.id = some (iV o) := by
              unfold fLeft
              rw [HLF.out, fI_some (lk_mem HI.out.nodup HOL.out) hob]
              simp
            rw [hs] at hm
            exact hm.congr (fun i => fLeft_yes HI.out.nodup HOL.out hgb i) (by simp; omega)
          · exact tn_more (HT1.out.trans' (Tn.of_below ((Below.refl _ w1).alloc (Nat.le_refl _) _))) hg3 (fun k hk => by cases hk; exact Or.inl rfl)
          · exact (HR1'.out.alloc _).kept hg3 (by
              cases e : v.ownBlock with
              | none => exact Or.inl rfl
              | some k => exact Or.inr (fun e2 => by have := (HR1'.out.lt k e).1; cases e2; have := HL.out.2.2; omega))
          · have := HS1.out
            have := hg3.size
            simp at this
            omega)
        have HPM : Vl ((zs ++ [o.id]).Perm ((cameL S.L (goesB now old) (strike left o.id)).map Lk.id)) := vl (by
          have h1 := (cameL_yes HI.out.nodup HOL.out hgb HLF.out).map Lk.id
          rw [List.map_append] at h1
          exact (HT.out.perm.append_right [o.id]).trans h1.symm)
        clear HT HT1 HR1' HS1 hgb hob hoL HR1
        go_upto_region 12 with (at_delete; refine wpList_delete_ranges _ rfl _ _ 54 3 rfl 65 klaw Tryd.underlying54 lkElem ib w.heap.size (nI S.L) D (strike left o.id) cnt1 rfl HRA.out _ _ rfl HKY.out ?_; intro w3 cnt3 hrg3 hle3 hturn3; have HD3 := vl (HDL.out w3 cnt3 hrg3 hturn3.grown); have HLE := vl hle3; have HRW3 := vl (HD3.out.2.2.2.1.alloc (.cells #[.int .i64 o.id] 3)); have hsz3 := HD3.out.2.2.2.2; clear hrg3 hle3 hturn3 c5)
        go_wp2_with (at_builtin; refine wpList_append_own _ rfl _ _ 35 rfl (w.heap.size + 1) 3 i0 (.int .i64 0) 1 8 Tryd.underlying35 hi hz0 hz1 hz2 rfl (by decide) _ _ _ rfl HRW3.out ⟨w3.heap.size, 0, none⟩ 1 1 [.int .i64 o.id] rfl rfl (cell_one_new _ _ _) (by intro u hu; simp at hu; subst hu; rfl) ?c3 ?c4 ?c5 ?_)
        case c3 => unfold maxLen; omega
        case c4 => omega
        case c5 => simp; omega
        intro v' w4 hr4 hg4 hv4
        have HR4 : Vl (w4.ownsRow (w.heap.size + 1) 3 1 v' (zs ++ [o.id]).length ((zs ++ [o.id]).map (Value.int .i64))) := vl (by rw [List.map_append, List.length_append]; exact hr4)
        obtain ⟨q1, q2, q3, q4, q5⟩ := HD3.out
        have hob4 : ∀ k, v.ownBlock = some k → w.heap.size + 1 ≤ k := fun k e => (q4.lt k e).1
        have hib := HL.out.2.2
        have HT4 : Vl (TkI (w.heap.size + 1) W ib S.L (goesB now old) (strike left o.id) (D.del (pkK o.id)) v' (zs ++ [o.id]) w4) := vl ⟨q2, HPM.out, tn_more (q3.trans' (Tn.of_below ((Below.refl _ w3).alloc (Nat.le_refl _) _))) hg4 (fun k hk => Or.inr (by have := hob4 k hk; rw [HSW.out]; omega)), HR4.out, by have := hg4.size; simp at this; omega⟩
        have HRG4 : Vl (w4.ranges Tryd.prog 3 lkElem ib w.heap.size (nI S.L) (D.del (pkK o.id)) (strike left o.id) cnt3) := vl ((q1.alloc _).kept hg4 (fun e => by have := hob4 _ e.symm; omega) (fun e => by have := hob4 _ e.symm; omega))
        obtain ⟨g4, cap4, rfl, _, _⟩ := World.ownsRow.form HR4.out (by simp)
        clear hr4 hg4 hv4 q1 q2 q3 q4 q5 hob4 HDL HRA
        go_wp2_with fail
        go_roundw
        case rel => exact ⟨_, zs ++ [o.id], _, _, _, rfl, HRG4, HT4⟩
        case measure => rw [HRG4.out.left_eq, HRW.out.left_eq]; have := HLT.out; have := HLE.out; omega
      · have hgb : goesB now old o = false := by unfold goesB; rw [hob]; simp; omega
        have HTE : Vl (TkI (w.heap.size + 1) W ib S.L (goesB now old) (strike left o.id) D v zs w1) := vl ⟨HT.out.mf.congr (fun i => fLeft_no HI.out.nodup HOL.out hgb i) rfl, by rw [cameL_no HI.out.nodup HOL.out hgb]; exact HT.out.perm, HT1.out, HR1'.out, HS1.out⟩
        have hwr : IntKind.i64.wrap (now - o.at_) = now - o.at_ := by rw [IntKind.wrap_i64]; omega
        clear HT hgb hob
        obtain ⟨qa, hqa⟩ : ∃ qa, qa = o.at_ := ⟨_, rfl⟩
        rw [← hqa] at hen hg hwr hat1 hat2 ⊢
        clear hqa
        go_wp2
        go_roundw
        case rel => exact ⟨v, zs, _, D, _, rfl, vl (HR1.out.alloc _), vl ⟨HTE.out.mf, HTE.out.perm, HTE.out.tn.trans' (Tn.of_below ((Below.refl _ w1).alloc (Nat.le_refl _) _)), HTE.out.row.alloc _, by have := HTE.out.size; simp; omega⟩⟩
        case measure => rw [(HR1.out.alloc _).left_eq, HRW.out.left_eq]; exact HLT.out
end Go.Proofs.YtibjbdcmhjbndaaDoor
