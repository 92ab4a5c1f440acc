/-
  FRAMEROW: the walk of the law. No claim by itself.
-/
import Derived.Test.YtdlaaollamgpladSfr
import Derived.Test.YtdlaaollamgpladFropen
import Derived.Deep.RegionHeld3
namespace Go.Proofs.Ytdlaaollamgplad
open Go.RowKit
set_option maxRecDepth 100000
/-- Frames in a row of memory: each one's numbers, where its body lies, and the body. -/
structure FrRow (w : World) (g off len cap : Nat) (F : Nat → Frm) (A : Nat → Option Addr) (C : Nat → Nat) : Prop where
  hcap : len ≤ cap
  hmax : cap ≤ maxLen
  hel : ∀ t, t < len → (w.cell? ⟨g, off + t * 4, none⟩ = some (.int .i64 (F t).1) ∧ w.cell? ⟨g, off + t * 4 + 1, none⟩ = some (.int .i64 (F t).2.1)) ∧ (w.cell? ⟨g, off + t * 4 + 2, none⟩ = some (.int .i64 (F t).2.2.1) ∧ w.cell? ⟨g, off + t * 4 + 3, none⟩ = some (.slice (A t) (F t).2.2.2.length (C t))) ∧
    Arg w (A t) (F t).2.2.2.length (C t) (F t).2.2.2
theorem lt_cell {w : World} {g o : Nat} {v : Value} (h : w.cell? ⟨g, o, none⟩ = some v) : g < w.heap.size := by
  rcases Nat.lt_or_ge g w.heap.size with h1 | h1
  · exact h1
  · simp [World.cell?, Array.getElem?_eq_none h1] at h
theorem FrRow.below {w w' : World} {g off len cap : Nat} {F : Nat → Frm} {A : Nat → Option Addr} {C : Nat → Nat} (h : FrRow w g off len cap F A C) (hb : Below w.heap.size w w') : FrRow w' g off len cap F A C := by
  refine ⟨h.hcap, h.hmax, fun t ht => ?_⟩
  obtain ⟨⟨h1, h2⟩, ⟨h3, h4⟩, h5⟩ := h.hel t ht
  have hg := lt_cell h1
  exact ⟨⟨(hb.cell (p := ⟨g, off + t * 4, none⟩) hg).trans h1, (hb.cell (p := ⟨g, off + t * 4 + 1, none⟩) hg).trans h2⟩, ⟨(hb.cell (p := ⟨g, off + t * 4 + 2, none⟩) hg).trans h3, (hb.cell (p := ⟨g, off + t * 4 + 3, none⟩) hg).trans h4⟩, h5.below hb⟩
def FrArg (w : World) (a : Option Addr) (len cap : Nat) (F : Nat → Frm) (A : Nat → Option Addr) (C : Nat → Nat) : Prop :=
  len = 0 ∨ ∃ g off, a = some ⟨g, off, none⟩ ∧ FrRow w g off len cap F A C
/-- The bytes of frames from the i-th on. -/
def rowL (F : Nat → Frm) (i n : Nat) : List Int := ((List.range (n - i)).map fun t => frmL (F (i + t))).flatten
theorem rowL_nil (F : Nat → Frm) (n : Nat) : rowL F n n = [] := by simp [rowL]
theorem rowL_step (F : Nat → Frm) (i n : Nat) (h : i < n) : rowL F i n = frmL (F i) ++ rowL F (i + 1) n := by
  unfold rowL
  rw [show n - i = (n - (i + 1)) + 1 by omega, List.range_succ_eq_map]
  simp only [List.map_cons, List.map_map, List.flatten_cons, Nat.add_zero]
  congr 3
  funext t
  show frmL (F (i + (t + 1))) = _
  rw [show i + (t + 1) = i + 1 + t by omega]
theorem rowL_snoc (F : Nat → Frm) (n : Nat) : rowL F 0 (n + 1) = rowL F 0 n ++ frmL (F n) := by
  unfold rowL
  simp [List.range_succ]
theorem rowL_len (F : Nat → Frm) (n : Nat) (h : ∀ t, t < n → frmE (F t) = 0) : (rowL F 0 n).length ≤ 1033 * n := by
  induction n with
  | zero => simp [rowL]
  | succ n ih =>
    rw [rowL_snoc, List.length_append, frm_len]
    have h1 := ih (fun t ht => h t (by omega))
    have h2 := h n (by omega)
    have h3 : (F n).2.2.2.length ≤ 1024 := by
      unfold frmE at h2
      split at h2
      · simp at h2
      · split at h2
        · simp at h2
        · omega
    omega
theorem frm_byte (f : Frm) (h : frmE f = 0) (hb : ∀ x ∈ f.2.2.2, 0 ≤ x ∧ x < 256) : ∀ x ∈ frmL f, 0 ≤ x ∧ x < 256 := by
  intro x hx
  unfold frmL at hx
  unfold frmE at h
  split at h
  · simp at h
  · rename_i h1
    rcases List.mem_append.1 hx with h | h
    · exact bigL_byte _ _ x h
    · rcases List.mem_append.1 h with h | h
      · simp at h; rcases h with rfl | rfl <;> omega
      · rcases List.mem_append.1 h with h | h
        · exact bigL_byte _ _ x h
        · exact hb x h
theorem rowL_byte (F : Nat → Frm) : ∀ n, (∀ t, t < n → frmE (F t) = 0) → (∀ t, t < n → ∀ x ∈ (F t).2.2.2, 0 ≤ x ∧ x < 256) → ∀ x ∈ rowL F 0 n, 0 ≤ x ∧ x < 256
  | 0, _, _ => by simp [rowL]
  | n + 1, h, hb => by
    intro x hx
    rw [rowL_snoc] at hx
    rcases List.mem_append.1 hx with h' | h'
    · exact rowL_byte F n (fun t ht => h t (by omega)) (fun t ht => hb t (by omega)) x h'
    · exact frm_byte _ (h n (by omega)) (hb n (by omega)) x h'
theorem arg_byte {w : World} {a : Option Addr} {len cap : Nat} {Z : List Int} (h : Arg w a len cap Z) : ∀ x ∈ Z, 0 ≤ x ∧ x < 256 := by
  rcases h with ⟨_, rfl⟩ | ⟨g, off, _, hr⟩
  · simp
  · exact byte_mem hr.hbyte
set_option maxHeartbeats 8000000 in
theorem frow_row (g off len cap : Nat) (F : Nat → Frm) (A : Nat → Option Addr) (C : Nat → Nat) (w : World) (hr : FrRow w g off len cap F A C) (h0 : 0 < len) :
    Calls Try.prog 3 #[.slice (some ⟨g, off, none⟩) len cap] w fun e w' => e = .returned (.bool true) ∧ Below w.heap.size w w' := by
  have hcap := hr.hcap
  have hmx := hr.hmax
  unfold maxLen at hmx
  obtain ⟨i0, hi, hz0, hz1, hz2⟩ := info_parts info5
  have HR : Hid (∀ wx, Below w.heap.size w wx → FrRow wx g off len cap F A C) := fun wx hb => hr.below hb
  have HBY : Hid (∀ t, t < len → ∀ x ∈ (F t).2.2.2, 0 ≤ x ∧ x < 256) := fun t ht => arg_byte (hr.hel t ht).2.2
  clear hr
  obtain ⟨N, hN⟩ : ∃ N, N = min len 30 := ⟨_, rfl⟩
  have hN1 : N ≤ len := by omega
  have hN2 : N ≤ 30 := by omega
  have HN := hide hN
  clear hN
  go_enter Try.func3, Try.ntmps3
  go_wp2_with fail
  refine (encode_any 4 0 0 none 0 0 [] w (Or.inl ⟨rfl, rfl⟩) rfl).mono ?_
  rintro e w1 ⟨⟨v1, x1, rfl, hm1⟩, hb1⟩
  rcases hm1 with ⟨_, rfl, ho1⟩ | ⟨hne, _⟩
  · have hl9 : (frmL (4, 0, 0, [])).length = 9 := by decide
    rw [hl9] at ho1
    obtain ⟨g1, c1, rfl⟩ := fr_shape ho1 (by decide)
    have s1 := hb1.size
    have B1 := hide hb1
    clear ho1 hb1 hl9
    go_wp2
    go_loopw [5, 6] (fun b i wr => ∃ k : Nat, i = .int .i64 k ∧ k ≤ N ∧ wr.ownsRow w.heap.size 5 1 b (rowL F 0 k).length ((rowL F 0 k).map (Value.int .u8)) ∧ (∀ t, t < k → frmE (F t) = 0) ∧ Below w.heap.size w wr) (fun _ i _ => N - (intOf i).toNat)
    case atStart => exact ⟨0, rfl, Nat.zero_le _, by simpa [rowL] using World.ownsRow_nil _ _ _ _, fun t ht => by omega, B1.out⟩
    case round =>
      obtain ⟨k, rfl, hk, hown, hall, hB⟩ := hrel
      have HO := hide hown
      have HALL := hide hall
      have HB := hide hB
      have sB := hB.size
      clear hown hall hB
      by_cases hlt : k < N
      · obtain ⟨⟨q1, q2⟩, ⟨q3, q4⟩, q5⟩ := (HR.out wr HB.out).hel k (by omega)
        have QA := hide q5
        have p1 : (k : Int) < (len : Int) := by omega
        have p2 : (k : Int) < 30 := by omega
        have HE := hide (encode_any (F k).1 (F k).2.1 (F k).2.2.1 (A k) (F k).2.2.2.length (C k) (F k).2.2.2 wr QA.out rfl)
        clear q5
        go_wp2_with fail
        refine HE.out.mono ?_
        rintro e w2 ⟨⟨v2, x2, rfl, hm2⟩, hb2⟩
        have s2 := hb2.size
        have B2 := hide (HB.out.trans (hb2.mono (by omega)))
        have O2 := hide (own_below HO.out hb2)
        have hm2' : EncMade wr w2 (F k) v2 x2 := hm2
        clear hm2 hb2 HE q1 q2 q3 q4 HB
        rcases hm2' with ⟨e0, rfl, ho2⟩ | ⟨en, rfl, rfl⟩
        · have hl : (rowL F 0 k).length ≤ 30990 := by
            have := rowL_len F k HALL.out
            omega
          have hl2 : (frmL (F k)).length ≤ 1033 ∧ 1 ≤ (frmL (F k)).length := by
            have h1 := rowL_len (fun _ => F k) 1 (fun t _ => e0)
            have e1 : rowL (fun _ => F k) 0 1 = frmL (F k) := by simp [rowL]
            rw [e1] at h1
            have h2 := frm_len (F k)
            omega
          obtain ⟨g2, c2, rfl⟩ := fr_shape ho2 hl2.2
          have R2 := hide (row_of rfl ho2 (frm_byte _ e0 (HBY.out k (by omega))))
          have HALL2 : Hid (∀ t, t < k + 1 → frmE (F t) = 0) := by
            intro t ht
            by_cases h : t = k
            · rw [h]; exact e0
            · exact HALL.out t (by omega)
          have HS := hide (rowL_snoc F k)
          have sB2 := B2.out.size
          clear e0 ho2 HALL HO
          generalize frmL (F k) = P at *
          generalize hq : rowL F 0 k = Qq at *
          clear hq
          go_wp2_with (at_builtin; refine wpList_append_own _ rfl _ _ 23 rfl w.heap.size 5 i0 (.int .u8 0) 1 1 Try.underlying23 hi hz0 hz1 hz2 rfl (by decide) _ _ _ rfl O2.out ⟨g2, 0, none⟩ P.length c2 (P.map (Value.int .u8)) rfl (by simp) (fr_news R2.out) (fr_one P) ?c3 ?c4 ?c5 ?_)
          case c3 => unfold maxLen; omega
          case c4 => omega
          case c5 => omega
          intro v3 w3 hown3 hgrow3 _
          have B3 := hide (B2.out.grown hgrow3 (by omega) (fun k hk => (O2.out.lt k hk).1))
          have O3 := hide hown3
          clear hown3 hgrow3
          go_wp2
          go_roundw
          case rel => exact ⟨k + 1, by go_num, by omega, by rw [HS.out, List.length_append, List.map_append]; exact O3.out, HALL2.out, B3.out⟩
          case measure => simp [intOf]; omega
        · clear en
          go_wp2
          go_ret
          exact ⟨rfl, B2.out⟩
      · obtain rfl : k = N := by omega
        have hNn : ¬ ((k : Int) < (len : Int) ∧ (k : Int) < 30) := by have := HN.out; omega
        have hd : (decide ((k : Int) < (len : Int)) && decide ((k : Int) < 30)) = false := by
          rw [← Bool.decide_and]; exact decide_eq_false hNn
        have hpos : 1 ≤ (rowL F 0 k).length := by
          have h1 : 0 < k := by have := HN.out; omega
          rw [rowL_step F 0 k h1, List.length_append, frm_len]; omega
        obtain ⟨gb, cb, rfl⟩ := fr_shape HO.out hpos
        have RB := hide (row_of rfl HO.out (rowL_byte F k HALL.out (fun t ht => HBY.out t (by omega))))
        have hk30 : k ≤ 30 := hN2
        clear hpos hNn
        rcases Nat.lt_or_ge k len with hkl | hkl
        · have hk3 : k = 30 := by have := HN.out; omega
          subst hk3
          go_wp2
          go_loopw [5, 9] (fun b i wr => ∃ (j : Nat) (gq oq cq : Nat), i = .int .i64 j ∧ j ≤ 30 ∧ b = .slice (some ⟨gq, oq, none⟩) (rowL F j 30).length cq ∧ Row wr gq oq (rowL F j 30).length cq (rowL F j 30) ∧ Below w.heap.size w wr) (fun _ i _ => 30 - (intOf i).toNat)
          case atStart => exact ⟨0, gb, 0, cb, rfl, Nat.zero_le _, rfl, RB.out, HB.out⟩
          case round =>
            obtain ⟨j, gq, oq, cq, rfl, hj, rfl, hrow, hBq⟩ := hrel
            have sq := hBq.size
            have BQ := hide hBq
            by_cases hjlt : j < 30
            · have p1 : (j : Int) < (len : Int) := by omega
              have p2 : (j : Int) < 30 := by omega
              have p1n : j < len := by omega
              have hst := rowL_step F j 30 hjlt
              have hbnd := hrow.hcap
              have hmxq := hrow.hmax
              unfold maxLen at hmxq
              have hrd : rdF (rowL F j 30) = (F j, ((9 + (F j).2.2.2.length : Nat) : Int), 0) := by rw [hst]; exact rd_frm _ _ (HALL.out j (by omega))
              have HRD : Hid (Calls Try.prog 8 #[.slice (some ⟨gq, oq, none⟩) (rowL F j 30).length cq] wr fun e w' => RdFe w' (F j, ((9 + (F j).2.2.2.length : Nat) : Int), 0) e ∧ Below wr.heap.size wr w') := by
                have h := read_any (some ⟨gq, oq, none⟩) (rowL F j 30).length cq (rowL F j 30) wr (Or.inr ⟨gq, oq, rfl, hrow⟩) rfl
                rw [hrd] at h
                exact h
              have hlst : (rowL F j 30).length = 9 + (F j).2.2.2.length + (rowL F (j + 1) 30).length := by rw [hst, List.length_append, frm_len]
              obtain ⟨oc, hoc, hrc⟩ := fcut_row hrow (9 + (F j).2.2.2.length) (rowL F (j + 1) 30).length (by omega)
              have hdr : ((rowL F j 30).drop (9 + (F j).2.2.2.length)).take (rowL F (j + 1) 30).length = rowL F (j + 1) 30 := by
                rw [hst, List.drop_left' (frm_len _), List.take_length]
              rw [hdr] at hrc
              have HRC := hide hrc
              have HOC := hide hoc
              have HLST := hide hlst
              have HEL := hide ((HR.out wr hBq).hel j p1n)
              obtain ⟨m, hm⟩ : ∃ m, m = (rowL F (j + 1) 30).length := ⟨_, rfl⟩
              obtain ⟨M, hM⟩ : ∃ M, M = (rowL F j 30).length := ⟨_, rfl⟩
              rw [← hm] at HLST HRC
              rw [← hM] at HLST HRD hbnd ⊢
              have HM := hide hm
              clear hst hrd hlst hdr hrc hoc hrow hBq hm hM
              generalize F j = fj at *
              obtain ⟨fk, ff, fs, FL⟩ := fj
              simp only at HRD HOC HLST HEL HRC
              have e9 : (((9 + FL.length : Nat) : Int)) = (FL.length : Int) + 9 := by omega
              rw [e9] at HRD
              clear e9
              go_wp2_with fail
              refine HRD.out.mono ?_
              rintro e w2 ⟨⟨a2, c2, x2, rfl, hA2, hE2⟩, hb2⟩
              simp only at hA2 hE2 ⊢
              obtain rfl : x2 = .nilIface := by
                rcases hE2 with ⟨_, h⟩ | ⟨h, _⟩
                · exact h
                · exact absurd rfl h
              have s2 := hb2.size
              obtain ⟨w3, hw3⟩ : ∃ w3, w3 = w2.alloc (.cells #[.int .i64 fk, .int .i64 ff, .int .i64 fs, .slice a2 FL.length c2] 29) := ⟨_, rfl⟩
              have hb3 : Below w2.heap.size w2 w3 := by rw [hw3]; exact (Below.refl _ _).alloc (Nat.le_refl _) _
              have s3 : w2.heap.size + 1 ≤ w3.heap.size := by rw [hw3]; simp
              have hx3 : w3.heap[w2.heap.size]? = some (.cells #[.int .i64 fk, .int .i64 ff, .int .i64 fs, .slice a2 FL.length c2] 29 (0, 0)) := by rw [hw3]; exact Array.getElem?_push_size
              have B3 := hide (BQ.out.trans ((hb2.trans (hb3.mono (by omega))).mono (by omega)))
              have hbq3 : Below wr.heap.size wr w3 := hb2.trans (hb3.mono (by omega))
              have A3 := hide (hA2.below hb3)
              have R3 := hide (HRC.out.below hbq3)
              obtain ⟨⟨z1, z2⟩, ⟨z3, z4⟩, z5⟩ := HEL.out
              have hgq := lt_cell z1
              have HS : Hid (∀ wx, Below w3.heap.size w3 wx → ((wx.cell? ⟨w2.heap.size, 0, none⟩ = some (.int .i64 fk) ∧ wx.cell? ⟨w2.heap.size, 1, none⟩ = some (.int .i64 ff)) ∧ (wx.cell? ⟨w2.heap.size, 2, none⟩ = some (.int .i64 fs) ∧ wx.cell? ⟨w2.heap.size, 3, none⟩ = some (.slice a2 FL.length c2))) ∧ ((wx.cell? ⟨g, off + j * 4, none⟩ = some (.int .i64 fk) ∧ wx.cell? ⟨g, off + j * 4 + 1, none⟩ = some (.int .i64 ff)) ∧ (wx.cell? ⟨g, off + j * 4 + 2, none⟩ = some (.int .i64 fs) ∧ wx.cell? ⟨g, off + j * 4 + 3, none⟩ = some (.slice (A j) FL.length (C j))))) := fun wx hb => by
                have hx : wx.heap[w2.heap.size]? = some (.cells #[.int .i64 fk, .int .i64 ff, .int .i64 fs, .slice a2 FL.length c2] 29 (0, 0)) := (hb.block _ (by omega)).trans hx3
                have hbx : Below wr.heap.size wr wx := hbq3.trans (hb.mono (by omega))
                refine ⟨⟨⟨?_, ?_⟩, ?_, ?_⟩, ⟨(hbx.cell (p := ⟨g, off + j * 4, none⟩) hgq).trans z1, (hbx.cell (p := ⟨g, off + j * 4 + 1, none⟩) hgq).trans z2⟩, (hbx.cell (p := ⟨g, off + j * 4 + 2, none⟩) hgq).trans z3, (hbx.cell (p := ⟨g, off + j * 4 + 3, none⟩) hgq).trans z4⟩ <;> simp [World.cell?, hx]
              have HSF := hide (sframe_same fk ff fs a2 FL.length c2 (A j) FL.length (C j) FL w3.drew (A3.out.below ((Below.refl _ _).drew)) ((z5.below hbq3).below ((Below.refl _ _).drew)))
              have HSD : Hid (∀ wx, Below w3.drew.heap.size w3.drew wx → Below w3.heap.size w3 wx) := fun wx hb => (Below.refl _ _).drew.trans hb
              have QD := hide (HS.out w3.drew ((Below.refl _ _).drew))
              obtain ⟨⟨⟨y1, y2⟩, y3, y4⟩, ⟨y5, y6⟩, y7, y8⟩ := HS.out w3 (Below.refl _ _)
              have HW3 := hide hw3
              clear hw3 hb3 hx3 hb2 hbq3 hA2 hE2 z1 z2 z3 z4 z5 HRD HEL HRC
              go_wp2_with fail
              rw [← HW3.out]
              go_region_held3 (fun wx => ((wx.cell? ⟨w2.heap.size, 0, none⟩ = some (.int .i64 fk) ∧ wx.cell? ⟨w2.heap.size, 1, none⟩ = some (.int .i64 ff)) ∧ (wx.cell? ⟨w2.heap.size, 2, none⟩ = some (.int .i64 fs) ∧ wx.cell? ⟨w2.heap.size, 3, none⟩ = some (.slice a2 FL.length c2))) ∧ ((wx.cell? ⟨g, off + j * 4, none⟩ = some (.int .i64 fk) ∧ wx.cell? ⟨g, off + j * 4 + 1, none⟩ = some (.int .i64 ff)) ∧ (wx.cell? ⟨g, off + j * 4 + 2, none⟩ = some (.int .i64 fs) ∧ wx.cell? ⟨g, off + j * 4 + 3, none⟩ = some (.slice (A j) FL.length (C j)))))
                (first | (with_reducible exact QD.out) | (with_reducible exact HS.out w4 (HSD.out w4 hb4)))
                ((go_at_call 9; refine HSF.out.mono ?_; rintro e w4 ⟨rfl, hb4⟩))
              have s4 := hb4.size
              have B4 := hide (B3.out.trans ((HSD.out w4 hb4).mono (by omega)))
              have R4 := hide (R3.out.below (HSD.out w4 hb4))
              obtain ⟨⟨⟨t1, t2⟩, t3, t4⟩, _⟩ := HS.out w4 (HSD.out w4 hb4)
              have hMl := HLST.out
              have hMi : (M : Int) = 9 + (FL.length : Int) + (m : Int) := by omega
              have hi1 : (0 : Int) ≤ (FL.length : Int) + 9 := by omega
              have hi2 : (FL.length : Int) + 9 ≤ (M : Int) := by omega
              have hi3 : ((FL.length : Int) + 9).toNat = 9 + FL.length := by omega
              have hi4 : M - (9 + FL.length) = m := by omega
              have hi5 : (M : Int) ≤ (cq : Int) := by omega
              clear hMi hb4 y1 y2 y3 y4 y5 y6 y7 y8 HSF QD HS HSD A3 R3 B3
              go_wp2
              go_roundw
              case rel => exact ⟨j + 1, gq, oc, cq - (9 + FL.length), by go_num, by omega, by rw [HOC.out, ← HM.out], by rw [← HM.out]; exact R4.out, B4.out⟩
              case measure => simp [intOf]; omega
            · obtain rfl : j = 30 := by omega
              rw [rowL_nil]
              go_wp2
              go_ret
              exact ⟨by simp, BQ.out⟩
        · obtain rfl : k = len := by omega
          go_wp2
          go_loopw [5, 9] (fun b i wr => ∃ (j : Nat) (gq oq cq : Nat), i = .int .i64 j ∧ j ≤ k ∧ b = .slice (some ⟨gq, oq, none⟩) (rowL F j k).length cq ∧ Row wr gq oq (rowL F j k).length cq (rowL F j k) ∧ Below w.heap.size w wr) (fun _ i _ => k - (intOf i).toNat)
          case atStart => exact ⟨0, gb, 0, cb, rfl, Nat.zero_le _, rfl, RB.out, HB.out⟩
          case round =>
            obtain ⟨j, gq, oq, cq, rfl, hj, rfl, hrow, hBq⟩ := hrel
            have sq := hBq.size
            have BQ := hide hBq
            by_cases hjlt : j < k
            · have p1 : (j : Int) < (k : Int) := by omega
              have p2 : (j : Int) < 30 := by omega
              have p1n : j < k := by omega
              have hst := rowL_step F j k hjlt
              have hbnd := hrow.hcap
              have hmxq := hrow.hmax
              unfold maxLen at hmxq
              have hrd : rdF (rowL F j k) = (F j, ((9 + (F j).2.2.2.length : Nat) : Int), 0) := by rw [hst]; exact rd_frm _ _ (HALL.out j (by omega))
              have HRD : Hid (Calls Try.prog 8 #[.slice (some ⟨gq, oq, none⟩) (rowL F j k).length cq] wr fun e w' => RdFe w' (F j, ((9 + (F j).2.2.2.length : Nat) : Int), 0) e ∧ Below wr.heap.size wr w') := by
                have h := read_any (some ⟨gq, oq, none⟩) (rowL F j k).length cq (rowL F j k) wr (Or.inr ⟨gq, oq, rfl, hrow⟩) rfl
                rw [hrd] at h
                exact h
              have hlst : (rowL F j k).length = 9 + (F j).2.2.2.length + (rowL F (j + 1) k).length := by rw [hst, List.length_append, frm_len]
              obtain ⟨oc, hoc, hrc⟩ := fcut_row hrow (9 + (F j).2.2.2.length) (rowL F (j + 1) k).length (by omega)
              have hdr : ((rowL F j k).drop (9 + (F j).2.2.2.length)).take (rowL F (j + 1) k).length = rowL F (j + 1) k := by
                rw [hst, List.drop_left' (frm_len _), List.take_length]
              rw [hdr] at hrc
              have HRC := hide hrc
              have HOC := hide hoc
              have HLST := hide hlst
              have HEL := hide ((HR.out wr hBq).hel j p1n)
              obtain ⟨m, hm⟩ : ∃ m, m = (rowL F (j + 1) k).length := ⟨_, rfl⟩
              obtain ⟨M, hM⟩ : ∃ M, M = (rowL F j k).length := ⟨_, rfl⟩
              rw [← hm] at HLST HRC
              rw [← hM] at HLST HRD hbnd ⊢
              have HM := hide hm
              clear hst hrd hlst hdr hrc hoc hrow hBq hm hM
              generalize F j = fj at *
              obtain ⟨fk, ff, fs, FL⟩ := fj
              simp only at HRD HOC HLST HEL HRC
              have e9 : (((9 + FL.length : Nat) : Int)) = (FL.length : Int) + 9 := by omega
              rw [e9] at HRD
              clear e9
              go_wp2_with fail
              refine HRD.out.mono ?_
              rintro e w2 ⟨⟨a2, c2, x2, rfl, hA2, hE2⟩, hb2⟩
              simp only at hA2 hE2 ⊢
              obtain rfl : x2 = .nilIface := by
                rcases hE2 with ⟨_, h⟩ | ⟨h, _⟩
                · exact h
                · exact absurd rfl h
              have s2 := hb2.size
              obtain ⟨w3, hw3⟩ : ∃ w3, w3 = w2.alloc (.cells #[.int .i64 fk, .int .i64 ff, .int .i64 fs, .slice a2 FL.length c2] 29) := ⟨_, rfl⟩
              have hb3 : Below w2.heap.size w2 w3 := by rw [hw3]; exact (Below.refl _ _).alloc (Nat.le_refl _) _
              have s3 : w2.heap.size + 1 ≤ w3.heap.size := by rw [hw3]; simp
              have hx3 : w3.heap[w2.heap.size]? = some (.cells #[.int .i64 fk, .int .i64 ff, .int .i64 fs, .slice a2 FL.length c2] 29 (0, 0)) := by rw [hw3]; exact Array.getElem?_push_size
              have B3 := hide (BQ.out.trans ((hb2.trans (hb3.mono (by omega))).mono (by omega)))
              have hbq3 : Below wr.heap.size wr w3 := hb2.trans (hb3.mono (by omega))
              have A3 := hide (hA2.below hb3)
              have R3 := hide (HRC.out.below hbq3)
              obtain ⟨⟨z1, z2⟩, ⟨z3, z4⟩, z5⟩ := HEL.out
              have hgq := lt_cell z1
              have HS : Hid (∀ wx, Below w3.heap.size w3 wx → ((wx.cell? ⟨w2.heap.size, 0, none⟩ = some (.int .i64 fk) ∧ wx.cell? ⟨w2.heap.size, 1, none⟩ = some (.int .i64 ff)) ∧ (wx.cell? ⟨w2.heap.size, 2, none⟩ = some (.int .i64 fs) ∧ wx.cell? ⟨w2.heap.size, 3, none⟩ = some (.slice a2 FL.length c2))) ∧ ((wx.cell? ⟨g, off + j * 4, none⟩ = some (.int .i64 fk) ∧ wx.cell? ⟨g, off + j * 4 + 1, none⟩ = some (.int .i64 ff)) ∧ (wx.cell? ⟨g, off + j * 4 + 2, none⟩ = some (.int .i64 fs) ∧ wx.cell? ⟨g, off + j * 4 + 3, none⟩ = some (.slice (A j) FL.length (C j))))) := fun wx hb => by
                have hx : wx.heap[w2.heap.size]? = some (.cells #[.int .i64 fk, .int .i64 ff, .int .i64 fs, .slice a2 FL.length c2] 29 (0, 0)) := (hb.block _ (by omega)).trans hx3
                have hbx : Below wr.heap.size wr wx := hbq3.trans (hb.mono (by omega))
                refine ⟨⟨⟨?_, ?_⟩, ?_, ?_⟩, ⟨(hbx.cell (p := ⟨g, off + j * 4, none⟩) hgq).trans z1, (hbx.cell (p := ⟨g, off + j * 4 + 1, none⟩) hgq).trans z2⟩, (hbx.cell (p := ⟨g, off + j * 4 + 2, none⟩) hgq).trans z3, (hbx.cell (p := ⟨g, off + j * 4 + 3, none⟩) hgq).trans z4⟩ <;> simp [World.cell?, hx]
              have HSF := hide (sframe_same fk ff fs a2 FL.length c2 (A j) FL.length (C j) FL w3.drew (A3.out.below ((Below.refl _ _).drew)) ((z5.below hbq3).below ((Below.refl _ _).drew)))
              have HSD : Hid (∀ wx, Below w3.drew.heap.size w3.drew wx → Below w3.heap.size w3 wx) := fun wx hb => (Below.refl _ _).drew.trans hb
              have QD := hide (HS.out w3.drew ((Below.refl _ _).drew))
              obtain ⟨⟨⟨y1, y2⟩, y3, y4⟩, ⟨y5, y6⟩, y7, y8⟩ := HS.out w3 (Below.refl _ _)
              have HW3 := hide hw3
              clear hw3 hb3 hx3 hb2 hbq3 hA2 hE2 z1 z2 z3 z4 z5 HRD HEL HRC
              go_wp2_with fail
              rw [← HW3.out]
              go_region_held3 (fun wx => ((wx.cell? ⟨w2.heap.size, 0, none⟩ = some (.int .i64 fk) ∧ wx.cell? ⟨w2.heap.size, 1, none⟩ = some (.int .i64 ff)) ∧ (wx.cell? ⟨w2.heap.size, 2, none⟩ = some (.int .i64 fs) ∧ wx.cell? ⟨w2.heap.size, 3, none⟩ = some (.slice a2 FL.length c2))) ∧ ((wx.cell? ⟨g, off + j * 4, none⟩ = some (.int .i64 fk) ∧ wx.cell? ⟨g, off + j * 4 + 1, none⟩ = some (.int .i64 ff)) ∧ (wx.cell? ⟨g, off + j * 4 + 2, none⟩ = some (.int .i64 fs) ∧ wx.cell? ⟨g, off + j * 4 + 3, none⟩ = some (.slice (A j) FL.length (C j)))))
                (first | (with_reducible exact QD.out) | (with_reducible exact HS.out w4 (HSD.out w4 hb4)))
                ((go_at_call 9; refine HSF.out.mono ?_; rintro e w4 ⟨rfl, hb4⟩))
              have s4 := hb4.size
              have B4 := hide (B3.out.trans ((HSD.out w4 hb4).mono (by omega)))
              have R4 := hide (R3.out.below (HSD.out w4 hb4))
              obtain ⟨⟨⟨t1, t2⟩, t3, t4⟩, _⟩ := HS.out w4 (HSD.out w4 hb4)
              have hMl := HLST.out
              have hMi : (M : Int) = 9 + (FL.length : Int) + (m : Int) := by omega
              have hi1 : (0 : Int) ≤ (FL.length : Int) + 9 := by omega
              have hi2 : (FL.length : Int) + 9 ≤ (M : Int) := by omega
              have hi3 : ((FL.length : Int) + 9).toNat = 9 + FL.length := by omega
              have hi4 : M - (9 + FL.length) = m := by omega
              have hi5 : (M : Int) ≤ (cq : Int) := by omega
              clear hMi hb4 y1 y2 y3 y4 y5 y6 y7 y8 HSF QD HS HSD A3 R3 B3
              go_wp2
              go_roundw
              case rel => exact ⟨j + 1, gq, oc, cq - (9 + FL.length), by go_num, by omega, by rw [HOC.out, ← HM.out], by rw [← HM.out]; exact R4.out, B4.out⟩
              case measure => simp [intOf]; omega
            · obtain rfl : j = k := by omega
              rw [rowL_nil]
              go_wp2
              go_ret
              exact ⟨by simp, BQ.out⟩
  · exact absurd (by decide) hne
/-- No frame at all. -/
theorem frow_none (a : Option Addr) (cap : Nat) (w : World) :
    Calls Try.prog 3 #[.slice a 0 cap] w fun e w' => e = .returned (.bool true) ∧ Below w.heap.size w w' := by
  go_enter Try.func3, Try.ntmps3
  go_wp2_with fail
  refine (encode_any 4 0 0 none 0 0 [] w (Or.inl ⟨rfl, rfl⟩) rfl).mono ?_
  rintro e w1 ⟨⟨v1, x1, rfl, hm1⟩, hb1⟩
  rcases hm1 with ⟨_, rfl, ho1⟩ | ⟨hne, _⟩
  · have hl9 : (frmL (4, 0, 0, [])).length = 9 := by decide
    rw [hl9] at ho1
    obtain ⟨g1, c1, rfl⟩ := fr_shape ho1 (by decide)
    have B1 := hide hb1
    clear ho1 hb1 hl9
    go_wp2
    go_loop [5, 6] (fun b i => b = .slice none 0 0 ∧ i = .int .i64 0) (fun _ _ => 0)
    case atStart => exact ⟨rfl, rfl⟩
    case round =>
      obtain ⟨rfl, rfl⟩ := hrel
      go_wp2
      go_loop [5, 9] (fun b i => b = .slice none 0 0 ∧ i = .int .i64 0) (fun _ _ => 0)
      case atStart => exact ⟨rfl, rfl⟩
      case round =>
        obtain ⟨rfl, rfl⟩ := hrel
        go_wp2
        go_ret
        exact ⟨by simp, B1.out⟩
  · exact absurd (by decide) hne
theorem frow_ok (a : Option Addr) (len cap : Nat) (F : Nat → Frm) (A : Nat → Option Addr) (C : Nat → Nat) (w : World) (h : FrArg w a len cap F A C) :
    Calls Try.prog 3 #[.slice a len cap] w fun e w' => e = .returned (.bool true) ∧ Below w.heap.size w w' := by
  rcases h with rfl | ⟨g, off, rfl, hr⟩
  · exact frow_none a cap w
  · rcases Nat.eq_zero_or_pos len with rfl | h0
    · exact frow_none _ cap w
    · exact frow_row g off len cap F A C w hr h0
/-- Frames that are handed in. -/
theorem frames_open {H : Type} {enc : TypeId × Value → H} {W : World} {ts : List TypeId} {ds : List (DataW H)} {j fuel : Nat} {d : DataW H} {p : List MemPlace} {a : Option Addr} {len cap : Nat}
    (hsz : (DataW.weightsEach Try.prog ts ds).all (· ≤ reachBytes) = true) (hj : ts[j]? = some 22) (hd : ds[j]? = some d)
    (hf : DataW.trod enc Try.prog W 0 (fun _ => true) true fuel 22 (Value.slice a len cap).cells.toList = some (d, p)) :
    ∃ F A C, FrArg W a len cap F A C := by
  rcases Go.Deep.open_slice Try.underlying22 hf with ⟨hcs, _⟩ | ⟨x, l, c, m, n, D, Pl, hcs, _, hl, hm, hmm, hx, hel⟩
  · simp [Value.cells] at hcs
    obtain ⟨rfl, rfl, rfl⟩ := hcs
    exact ⟨fun _ => fr0, fun _ => none, fun _ => 0, Or.inl rfl⟩
  · simp [Value.cells] at hcs
    obtain ⟨rfl, rfl, rfl⟩ := hcs
    simp only [if_true] at hmm
    subst hmm
    have ce : Try.prog.cellsOf 29 = 4 := by kernel_rfl
    have hdd := congrArg Prod.fst hx
    simp only at hdd
    by_cases h0 : len = 0
    · exact ⟨fun _ => fr0, fun _ => none, fun _ => 0, Or.inl h0⟩
    · obtain ⟨g, off, spot⟩ := x
      have hspot : spot = none := by
        obtain ⟨cs', h1, _⟩ := hel 0 (by omega)
        rw [ce] at h1
        obtain ⟨_, hlen, hcell⟩ := World.cells?_some h1
        have h2 := hcell 0 (by omega)
        have h3 : ∃ u, W.cell? ((Addr.add ⟨g, off, spot⟩ (0 * 4)).add 0) = some u := by
          match cs', hlen, h2 with
          | [v0, v1, v2, v3], _, h2 => exact ⟨_, h2⟩
        obtain ⟨u, h3⟩ := h3
        simpa [Addr.add] using World.cell?_spot h3
      subst hspot
      have each : ∀ r, r < len → ∃ y : Frm × Option Addr × Nat, ((W.cell? ⟨g, off + r * 4, none⟩ = some (.int .i64 y.1.1) ∧ W.cell? ⟨g, off + r * 4 + 1, none⟩ = some (.int .i64 y.1.2.1)) ∧ (W.cell? ⟨g, off + r * 4 + 2, none⟩ = some (.int .i64 y.1.2.2.1) ∧ W.cell? ⟨g, off + r * 4 + 3, none⟩ = some (.slice y.2.1 y.1.2.2.2.length y.2.2)) ∧ Arg W y.2.1 y.1.2.2.2.length y.2.2 y.1.2.2.2) := by
        intro r hr
        obtain ⟨cs', h1, ht⟩ := hel r (by omega)
        rw [ce] at h1
        obtain ⟨_, hlen, hcell⟩ := World.cells?_some h1
        obtain ⟨y0, y1, y2, y3, n', hy, _, t0, t1, t2, t3⟩ := Go.Joins.trod_struct4 Try.underlying29 ht
        match cs', hlen with
        | [v0, v1, v2, v3], _ =>
          have q0 := hcell 0 (by omega)
          have q1 := hcell 1 (by omega)
          have q2 := hcell 2 (by omega)
          have q3 := hcell 3 (by omega)
          simp only [add_at, Nat.add_zero, List.getElem?_cons_zero, List.getElem?_cons_succ] at q0 q1 q2 q3
          have c3 : Try.prog.cellsOf 3 = 1 := by kernel_rfl
          have cs : Try.prog.cellsOf 23 = 1 := by kernel_rfl
          simp [c3, cs] at t0 t1 t2 t3
          obtain ⟨k, e0, x0, _⟩ := DataW.trod_int Try.underlying3 t0
          obtain ⟨fl, e1, x1, _⟩ := DataW.trod_int Try.underlying3 t1
          obtain ⟨st, e2, x2, _⟩ := DataW.trod_int Try.underlying3 t2
          simp only [List.cons.injEq, and_true] at e0 e1 e2
          subst e0; subst e1; subst e2
          have hmem : D r ∈ (List.range len).map D := List.mem_map.2 ⟨r, List.mem_range.2 hr, rfl⟩
          obtain ⟨a', l', c', Z, rfl, hA, _, hZ, _⟩ := body_open t3 (fun q hq => by
            refine of_decide_eq_true (List.all_eq_true.1 hsz _ (DataW.weights_mem_each hj hd _ ?_))
            rw [hdd]
            simp only [DataW.weights, Try.underlying22, List.mem_cons, List.mem_append]
            refine Or.inr (Or.inl (weightsAll_in ?_ hmem))
            have hD : D r = .agg [y0.1, y1.1, y2.1, y3.1] := congrArg Prod.fst hy
            rw [hD]
            simp only [DataW.weights, Try.underlying29]
            simp [DataW.weightsEach, hq])
          subst hZ
          exact ⟨((k, fl, st, Z), a', c'), ⟨q0, q1⟩, ⟨q2, q3⟩, hA⟩
      obtain ⟨y, hy⟩ := Go.Deep.choose_lt each
      exact ⟨fun r => (y r).1, fun r => (y r).2.1, fun r => (y r).2.2, Or.inr ⟨g, off, rfl, hl, hm, fun t ht => hy t ht⟩⟩
end Go.Proofs.Ytdlaaollamgplad
