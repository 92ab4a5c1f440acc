/-
  CONTRACT of the Go function chunk.readPiece. No claim by itself.
-/
import Derived.Test.YtgjolljhjagngafDoorUd3
import Derived.Handy
namespace Go.Proofs.YtgjolljhjagngafDoor
open Go.RowKit
set_option maxRecDepth 100000
/-- A piece at the beginning of bytes: where its size ends, how many bytes it has. -/
structure PAt (M : Nat) (Z : List Int) (q n : Nat) : Prop where
  h1 : rdN M 0 0 Z = (0, (n : Int), Z.drop q)
  h2 : mt (Z.drop q) = (0, Z.drop (q + 2))
  h3 : q + 2 + n ≤ Z.length
  h4 : mt (Z.drop (q + 2 + n)) = (0, Z.drop (q + 2 + n + 2))
  h5 : q + 2 + n + 2 ≤ Z.length
  h6 : M + n ≤ 8000
theorem PAt.pc {bd Z : List Int} {M q n : Nat} (h : PAt M Z q n) (hM : bd.length = M) : Pc bd Z n (Z.drop q) (Z.drop (q + 2)) (Z.drop (q + 2 + n + 2)) := by
  have h3 := h.h3
  exact ⟨by rw [hM]; exact h.h1, h.h2, by rw [List.length_drop]; omega, by rw [Int.toNat_natCast, List.drop_drop]; exact h.h4⟩
/-- What is told of a piece. -/
def RpTold (M : Nat) (Z : List Int) (a : Option Addr) (cap : Nat) (r : Value) : Prop :=
  (∃ x, x ≠ 0 ∧ (∀ (bd : List Int) (g : Nat), bd.length = M → unF (g + 1) bd Z = (x, [], [])) ∧ r = .tuple #[.agg #[.slice none 0 0, .int .i64 0], .iface 58 (.int .i64 x)]) ∨
  (∃ q n g off, PAt M Z q n ∧ a = some ⟨g, off, none⟩ ∧ r = .tuple #[.agg #[.slice (some ⟨g, off + (q + 2), none⟩) n (cap - (q + 2)), .int .i64 ((q + 2 + n + 2 : Nat) : Int)], .nilIface])
theorem rd_room (m : Int) : ∀ (b : List Int) (k : Nat) (n : Int) {v : Int} {r : List Int}, rdN m k n b = (0, v, r) → m + n ≤ 8000 → m + v ≤ 8000 ∧ ∃ q, q ≤ b.length ∧ r = b.drop q ∧ (k = 0 → 1 ≤ q) := by
  intro b
  induction b with
  | nil => intro k n v r h; simp [rdN] at h
  | cons c t ih =>
    intro k n v r h hm
    unfold rdN at h
    split at h
    · split at h
      · simp at h
      · rename_i hk
        simp at h
        obtain ⟨rfl, rfl⟩ := h
        exact ⟨hm, 0, by omega, rfl, fun e => absurd e hk⟩
    · split at h
      · simp at h
      · split at h
        · simp at h
        · obtain ⟨i1, q, i2, i3, _⟩ := ih _ _ h (by omega)
          exact ⟨i1, q + 1, by simp; omega, by rw [i3]; rfl, fun _ => by omega⟩
theorem pb_cell {w : World} {B : Nat} {x y : Value} (h : w.heap[B]? = some (.cells #[x, y] 67 (0, 0))) : w.cell? ⟨B, 0, none⟩ = some x ∧ w.cell? ⟨B, 1, none⟩ = some y ∧ w.frozen? ⟨B, 0, none⟩ = false ∧ w.frozen? ⟨B, 1, none⟩ = false := by simp [World.cell?, World.frozen?, h]
theorem pb_set0 {w : World} {B : Nat} {x y : Value} (h : w.heap[B]? = some (.cells #[x, y] 67 (0, 0))) (a : Value) : (w.setCell ⟨B, 0, none⟩ a).heap[B]? = some (.cells #[a, y] 67 (0, 0)) := by
  simp [World.setCell, Array.getElem?_modify, h]
theorem pb_set1 {w : World} {B : Nat} {x y : Value} (h : w.heap[B]? = some (.cells #[x, y] 67 (0, 0))) (a : Value) : (w.setCell ⟨B, 1, none⟩ a).heap[B]? = some (.cells #[x, a] 67 (0, 0)) := by
  simp [World.setCell, Array.getElem?_modify, h]
theorem zero_piece (w : World) : (zeroValue 67).run Tryd.prog w = .ok (.agg #[.slice none 0 0, .int .i64 0]) w := by kernel_rfl
set_option maxHeartbeats 4000000 in
theorem urdp_any (a : Option Addr) (len cap : Nat) (Z : List Int) (M : Nat) (w : World) (hA : Arg w a len cap Z) (hl : len ≤ 281474976710656) (hM : M ≤ 8000) :
    Calls Tryd.prog 74 #[.slice a len cap, .int .i64 ((8000 - M : Nat) : Int)] w fun e w' => ∃ r, e = .returned r ∧ RpTold M Z a cap r ∧ Below w.heap.size w w' := by
  have hlen := hA.len
  have HA := vl hA
  obtain ⟨W1, hW1⟩ : ∃ W1, W1 = w.alloc (.cells #[.slice none 0 0, .int .i64 0] 67) := ⟨_, rfl⟩
  have hb1 : Below w.heap.size w W1 := by rw [hW1]; exact (Below.refl _ _).alloc (Nat.le_refl _) _
  have hh1 : W1.heap[w.heap.size]? = some (.cells #[.slice none 0 0, .int .i64 0] 67 (0, 0)) := by rw [hW1]; exact heap_alloc_new w _
  have hs1 : w.heap.size < W1.heap.size := by rw [hW1]; simp
  have H1 := vl (urds_any a len cap Z M W1 (hA.below hb1) hl hM)
  have HB1 := vl hb1
  have HH1 := vl hh1
  clear hA hb1 hh1
  obtain ⟨R, hR⟩ : ∃ R, R = 8000 - M := ⟨_, rfl⟩
  rw [← hR] at H1 ⊢
  clear hR
  obtain ⟨G, hG⟩ : ∃ G, G = w.heap.size := ⟨_, rfl⟩
  rw [← hG] at HH1 hs1
  have hGw : w.heap.size ≤ G := Nat.le_of_eq hG.symm
  go_enter Tryd.func74, Tryd.ntmps74
  go_wp2_with fail
  rw [← hW1, ← hG]
  clear hW1 hG
  refine H1.out.mono ?_
  rintro e w2 ⟨rfl, hb2⟩
  have HH2 : Vl (w2.heap[G]? = some (.cells #[.slice none 0 0, .int .i64 0] 67 (0, 0))) := (hb2.block _ hs1).trans HH1.out
  have HB2 : Vl (Below w.heap.size w w2) := HB1.out.trans (hb2.mono HB1.out.size)
  clear H1 hb2 HH1 HB1 hs1
  obtain ⟨c0, c1, f0, f1⟩ := pb_cell HH2.out
  by_cases e1 : (rdN M 0 0 Z).1 = 0
  case neg =>
    obtain ⟨x, hx⟩ : ∃ x, (rdN M 0 0 Z).1 = x := ⟨_, rfl⟩
    rw [hx] at e1
    rw [rsV_bad hx e1]
    have HT : Vl (RpTold M Z a cap (.tuple #[.agg #[.slice none 0 0, .int .i64 0], .iface 58 (.int .i64 x)])) := Or.inl ⟨x, e1, fun bd g hbd => unF_f1 (by rw [hbd]; exact hx) e1, rfl⟩
    clear hx
    have d0 := (pb_cell (pb_set1 (pb_set0 HH2.out (.slice none 0 0)) (.int .i64 0))).1
    have d1 := (pb_cell (pb_set1 (pb_set0 HH2.out (.slice none 0 0)) (.int .i64 0))).2.1
    go_wp2
    refine bodyPost_ret (v := .tuple #[.agg #[.slice none 0 0, .int .i64 0], .iface 58 (.int .i64 x)]) (by simp [results, Tryd.results74, go_sem, d0, d1]; try rfl) rfl ?_
    exact ⟨_, rfl, HT.out, (HB2.out.setCell (p := ⟨G, 0, none⟩) hGw _).setCell (p := ⟨G, 1, none⟩) hGw _⟩
  obtain ⟨x0, v, r, hx⟩ : ∃ x0 v r, rdN M 0 0 Z = (x0, v, r) := ⟨_, _, _, rfl⟩
  obtain rfl : x0 = 0 := by rw [hx] at e1; exact e1
  obtain ⟨hv1, q, hq, rfl, hq1⟩ := rd_room _ _ _ _ hx (by omega)
  have hq1 := hq1 rfl
  obtain ⟨n, rfl⟩ : ∃ n : Nat, v = n := ⟨v.toNat, by have := (rdN_len _ _ _ _ hx).2 (by omega); omega⟩
  have hrv : rsV M Z = .tuple #[.int .i64 n, .int .i64 q, .nilIface] := by
    unfold rsV errW
    rw [hx]
    simp
    omega
  rw [hrv]
  have HX := vl hx
  clear hrv hx e1
  obtain ⟨g, off, rfl, hr2⟩ : ∃ g off, a = some ⟨g, off, none⟩ ∧ Row w2 g off len cap Z := by
    rcases HA.out.below HB2.out with ⟨h0, _⟩ | h0
    · omega
    · exact h0
  have hcp := hr2.hcap
  have hmx := hr2.hmax
  unfold maxLen at hmx
  obtain ⟨o1, ho1, hr21⟩ := u_cut hr2 q (len - q) (by omega)
  rw [List.take_of_length_le (by rw [List.length_drop]; omega)] at hr21
  have HC1 := vl (ucle_any _ _ _ _ w2 (Or.inr ⟨g, o1, rfl, hr21⟩) (by omega))
  have HR2 := vl hr2
  have hq' : (q : Int) ≤ (len : Int) := by omega
  clear hr2 hr21
  go_wp2_with fail
  refine HC1.out.mono ?_
  rintro e w3 ⟨rfl, hb3⟩
  have HH3 : Vl (w3.heap[G]? = some (.cells #[.slice none 0 0, .int .i64 0] 67 (0, 0))) := (hb3.block _ (Array.getElem?_eq_some_iff.1 HH2.out).1).trans HH2.out
  have HB3 : Vl (Below w.heap.size w w3) := HB2.out.trans (hb3.mono HB2.out.size)
  have HR3 := vl (HR2.out.below hb3)
  clear HC1 hb3 HH2 HB2 HR2 c0 c1 f0 f1 ho1
  obtain ⟨c0, c1, f0, f1⟩ := pb_cell HH3.out
  obtain ⟨x2, r2, hx2⟩ : ∃ x2 r2, mt (Z.drop q) = (x2, r2) := ⟨_, _, rfl⟩
  have e2 : (mt (Z.drop q)).1 = x2 := by rw [hx2]
  by_cases h2 : x2 = 0
  case neg =>
    rw [e2, show errW x2 = .iface 58 (.int .i64 x2) by unfold errW; rw [if_neg h2]]
    have HT : Vl (RpTold M Z (some ⟨g, off, none⟩) cap (.tuple #[.agg #[.slice none 0 0, .int .i64 0], .iface 58 (.int .i64 x2)])) := Or.inl ⟨x2, h2, fun bd g hbd => unF_f2 (by rw [hbd]; exact HX.out) e2 h2, rfl⟩
    clear hx2 e2
    have d0 := (pb_cell (pb_set1 (pb_set0 HH3.out (.slice none 0 0)) (.int .i64 0))).1
    have d1 := (pb_cell (pb_set1 (pb_set0 HH3.out (.slice none 0 0)) (.int .i64 0))).2.1
    go_wp2
    refine bodyPost_ret (v := .tuple #[.agg #[.slice none 0 0, .int .i64 0], .iface 58 (.int .i64 x2)]) (by simp [results, Tryd.results74, go_sem, d0, d1]; try rfl) rfl ?_
    exact ⟨_, rfl, HT.out, (HB3.out.setCell (p := ⟨G, 0, none⟩) hGw _).setCell (p := ⟨G, 1, none⟩) hGw _⟩
  subst h2
  rw [e2]
  have hz := mt_ok hx2
  have hzl : q + 2 ≤ len := by
    have := congrArg List.length hz
    rw [List.length_drop] at this
    simp at this
    omega
  have hr2 : r2 = Z.drop (q + 2) := by
    have := congrArg (List.drop 2) hz
    rw [List.drop_drop] at this
    exact this.symm
  subst hr2
  have HX2 := vl hx2
  have hee : errW 0 = .nilIface := rfl
  rw [hee]
  clear hx2 e2 hz hee
  by_cases h3 : q + 2 + n ≤ len
  case neg =>
    have HT : Vl (RpTold M Z (some ⟨g, off, none⟩) cap (.tuple #[.agg #[.slice none 0 0, .int .i64 0], .iface 58 (.int .i64 8)])) := Or.inl ⟨8, by decide, fun bd g hbd => unF_f3 (by rw [hbd]; exact HX.out) HX2.out (by rw [List.length_drop]; omega), rfl⟩
    have h3' : (len : Int) < (q : Int) + 2 + (n : Int) := by omega
    have d0 := (pb_cell (pb_set1 (pb_set0 HH3.out (.slice none 0 0)) (.int .i64 0))).1
    have d1 := (pb_cell (pb_set1 (pb_set0 HH3.out (.slice none 0 0)) (.int .i64 0))).2.1
    go_wp2
    refine bodyPost_ret (v := .tuple #[.agg #[.slice none 0 0, .int .i64 0], .iface 58 (.int .i64 8)]) (by simp [results, Tryd.results74, go_sem, d0, d1]; try rfl) rfl ?_
    exact ⟨_, rfl, HT.out, (HB3.out.setCell (p := ⟨G, 0, none⟩) hGw _).setCell (p := ⟨G, 1, none⟩) hGw _⟩
  obtain ⟨p, hp⟩ : ∃ p, p = q + 2 := ⟨_, rfl⟩
  have hpi : (q : Int) + 2 = (p : Int) := by omega
  obtain ⟨t, ht⟩ : ∃ t, t = p + n := ⟨_, rfl⟩
  have hti : (p : Int) + (n : Int) = (t : Int) := by omega
  have HP0 := vl hp
  rw [← hp] at h3 hzl
  clear hp
  obtain ⟨o4, ho4, hr4⟩ := u_cut HR3.out t (len - t) (by omega)
  rw [List.take_of_length_le (by rw [List.length_drop]; omega)] at hr4
  have HC4 := vl (ucle_any _ _ _ _ w3 (Or.inr ⟨g, o4, rfl, hr4⟩) (by omega))
  have HT0 := vl ht
  have htl : (t : Int) ≤ (len : Int) := by omega
  have htl' : ¬ ((len : Int) < (t : Int)) := by omega
  clear hr4 ht
  go_wp2_with fail
  refine HC4.out.mono ?_
  rintro e w4 ⟨rfl, hb4⟩
  have HH4 : Vl (w4.heap[G]? = some (.cells #[.slice none 0 0, .int .i64 0] 67 (0, 0))) := (hb4.block _ (Array.getElem?_eq_some_iff.1 HH3.out).1).trans HH3.out
  have HB4 : Vl (Below w.heap.size w w4) := HB3.out.trans (hb4.mono HB3.out.size)
  have HR4 := vl (HR3.out.below hb4)
  clear HC4 hb4 HH3 HB3 HR3 c0 c1 f0 f1 ho4
  obtain ⟨c0, c1, f0, f1⟩ := pb_cell HH4.out
  obtain ⟨x4, r4, hx4⟩ : ∃ x4 r4, mt (Z.drop t) = (x4, r4) := ⟨_, _, rfl⟩
  have e4 : (mt (Z.drop t)).1 = x4 := by rw [hx4]
  by_cases h4 : x4 = 0
  case neg =>
    rw [e4, show errW x4 = .iface 58 (.int .i64 x4) by unfold errW; rw [if_neg h4]]
    have HT : Vl (RpTold M Z (some ⟨g, off, none⟩) cap (.tuple #[.agg #[.slice none 0 0, .int .i64 0], .iface 58 (.int .i64 x4)])) := Or.inl ⟨x4, h4, fun bd g hbd => unF_f4 (by rw [hbd]; exact HX.out) HX2.out (by rw [List.length_drop, ← HP0.out]; omega) (by rw [Int.toNat_natCast, List.drop_drop, ← HP0.out, ← HT0.out]; exact e4) h4, rfl⟩
    clear hx4 e4
    have d0 := (pb_cell (pb_set1 (pb_set0 HH4.out (.slice none 0 0)) (.int .i64 0))).1
    have d1 := (pb_cell (pb_set1 (pb_set0 HH4.out (.slice none 0 0)) (.int .i64 0))).2.1
    go_wp2
    refine bodyPost_ret (v := .tuple #[.agg #[.slice none 0 0, .int .i64 0], .iface 58 (.int .i64 x4)]) (by simp [results, Tryd.results74, go_sem, d0, d1]; try rfl) rfl ?_
    exact ⟨_, rfl, HT.out, (HB4.out.setCell (p := ⟨G, 0, none⟩) hGw _).setCell (p := ⟨G, 1, none⟩) hGw _⟩
  subst h4
  rw [e4]
  have hz4 := mt_ok hx4
  have hzl4 : t + 2 ≤ len := by
    have := congrArg List.length hz4
    rw [List.length_drop] at this
    simp at this
    omega
  have hr4 : r4 = Z.drop (t + 2) := by
    have := congrArg (List.drop 2) hz4
    rw [List.drop_drop] at this
    exact this.symm
  subst hr4
  have HPA : Vl (PAt M Z q n) := by
    refine ⟨HX.out, HX2.out, ?_, ?_, ?_, by have := hv1; omega⟩
    · rw [← HP0.out]; omega
    · rw [← HP0.out, ← HT0.out]; exact hx4
    · rw [← HP0.out, ← HT0.out]; omega
  have hee : errW 0 = .nilIface := rfl
  rw [hee]
  obtain ⟨o5, ho5, hr5⟩ := u_cut HR4.out p n (by omega)
  rw [if_neg (show ¬ (cap = p) by omega)] at ho5
  obtain rfl : o5 = off + p := by simp at ho5; exact ho5.symm
  clear ho5
  have HR5 := vl hr5
  have htp : t - p = n := by omega
  have htp2 : (p : Int) ≤ (t : Int) := by omega
  have htc : (t : Int) ≤ (cap : Int) := by omega
  clear hx4 e4 hz4 hee hr5
  have d0 := (pb_cell (pb_set1 (pb_set0 HH4.out (.slice (some ⟨g, off + p, none⟩) n (cap - p))) (.int .i64 ((t : Int) + 2)))).1
  have d1 := (pb_cell (pb_set1 (pb_set0 HH4.out (.slice (some ⟨g, off + p, none⟩) n (cap - p))) (.int .i64 ((t : Int) + 2)))).2.1
  go_wp2
  refine bodyPost_ret (v := .tuple #[.agg #[.slice (some ⟨g, off + p, none⟩) n (cap - p), .int .i64 ((t : Int) + 2)], .nilIface]) (by simp [results, Tryd.results74, go_sem, d0, d1]; try rfl) rfl ?_
  refine ⟨_, rfl, Or.inr ⟨q, n, g, off, HPA.out, rfl, ?_⟩, (HB4.out.setCell (p := ⟨G, 0, none⟩) hGw _).setCell (p := ⟨G, 1, none⟩) hGw _⟩
  rw [← HP0.out, ← HT0.out]
  simp
end Go.Proofs.YtgjolljhjagngafDoor
