/-
  THE WALK of the Go function tolllaw2.ChunkBack, its callees by their contracts. No claim by itself.
-/
import Derived.Test.YtgjolljhjagngafDoorUapp
import Derived.Test.YtgjolljhjagngafDoorTold
import Derived.Lib.SlBytesConst
namespace Go.Proofs.YtgjolljhjagngafDoor
open Go.RowKit
set_option maxRecDepth 100000
theorem UOwn.row {w : World} {base : Nat} {v : Value} {L : List Int} (h : UOwn w base v L) (hb : Bytes L) (h1 : 1 ≤ L.length) : ∃ g cap, v = .slice (some ⟨g, 0, none⟩) L.length cap ∧ base ≤ g ∧ Row w g 0 L.length cap L := by
  rcases h with ⟨_, rfl⟩ | ⟨g, cap, rfl, h2, h3, h4, h5, h6, _⟩
  · simp at h1
  · exact ⟨g, cap, rfl, h2, rfl, h4, h5, fun t ht => by rw [Nat.zero_add]; exact h6 t ht, bytes_getD hb⟩
theorem Arg.text {w : World} {a : Option Addr} {len cap : Nat} {Z : List Int} (h : Arg w a len cap Z) : (convert 22 9 (.slice a len cap)).run Tryd.prog w = .ok (.string (strOfNums Z)) w := by
  rcases h with ⟨rfl, rfl⟩ | ⟨g, off, rfl, hr⟩
  · cases a with
    | none => exact run_convert_bytes_nil (P := Tryd.prog) w 22 5 Tryd.underlying22 Tryd.underlying5 0 cap 9 Tryd.underlying9
    | some ad =>
      rw [run_convert_bytes_string w 22 9 5 _ 0 cap Tryd.underlying22 Tryd.underlying5 Tryd.underlying9]
      have hl : (loadCells ad 0).run Tryd.prog w = .ok #[] w := by
        have := run_loadCells_list (P := Tryd.prog) w ad [] (fun j v hj => by simp at hj)
        simpa using this
      simp [Conv.bytesToString, hl]
      rfl
  · exact run_convert_bytes_arg w 22 5 Tryd.underlying22 Tryd.underlying5 g off len cap Z hr.hlen hr.hcell 9 Tryd.underlying9
theorem abc_text : strOfNums [50, 13, 10, 97, 98, 13, 10, 49, 13, 10, 99, 13, 10, 48, 13, 10, 13, 10] = ⟨#[50, 13, 10, 97, 98, 13, 10, 49, 13, 10, 99, 13, 10, 48, 13, 10, 13, 10]⟩ := rfl
theorem chunks_abc : chunksF [97, 98, 99] 2 = (0, [50, 13, 10, 97, 98, 13, 10, 49, 13, 10, 99, 13, 10, 48, 13, 10, 13, 10]) := by
  unfold chunksF
  rw [if_neg (by omega), if_neg (by simp)]
  rw [show (2 : Int).toNat = 2 from rfl, chunk_abc]
theorem abc_arg (w : World) : Arg (w.alloc (.cells #[.int .u8 97, .int .u8 98, .int .u8 99] 5 (3, 4))) (some ⟨w.heap.size, 0, none⟩) 3 3 [97, 98, 99] := by
  have hx : (w.alloc (.cells #[.int .u8 97, .int .u8 98, .int .u8 99] 5 (3, 4))).heap[w.heap.size]? = some (.cells #[.int .u8 97, .int .u8 98, .int .u8 99] 5 (3, 4)) := heap_alloc_new w _
  refine Or.inr ⟨_, _, rfl, rfl, Nat.le_refl _, by unfold maxLen; omega, fun t ht => ?_, fun t => ?_⟩
  · simp only [World.cell?, hx]
    match t with
    | 0 => rfl
    | 1 => rfl
    | 2 => rfl
    | t + 3 => omega
  · match t with
    | 0 => decide
    | 1 => decide
    | 2 => decide
    | t + 3 => simp
/-- What is told when nothing is wrong. -/
theorem chunks_ok {B : List Int} {size : Int} (h : (chunksF B size).1 = 0) : ∃ s : Nat, 1 ≤ s ∧ B.length ≤ 8000 ∧ (chunksF B size).2 = chunkL s B := by
  unfold chunksF at h ⊢
  split at h
  · simp at h
  · split at h
    · simp at h
    · rename_i h1 h2
      rw [if_neg h1, if_neg h2]
      exact ⟨size.toNat, by omega, by omega, rfl⟩
theorem unch_own {s : Nat} (hs : 1 ≤ s) (B : List Int) (hB : B.length ≤ 8000) : unchF (chunkL s B) = (0, B, ((chunkL s B).length : Int)) := by
  have := unch_chunk hs B [] hB
  rwa [List.append_nil] at this
theorem chunk_pos {s : Nat} (hs : 1 ≤ s) (B : List Int) : 5 ≤ (chunkL s B).length := by
  by_cases hB : B = []
  · subst hB; simp [chunk_nil, endL]
  · rw [chunk_more hs hB, List.length_append, piece_len]
    have := hexL_pos (B.take s).length
    omega
set_option maxHeartbeats 4000000 in
theorem uback_ok (hE : UEncSaid) (hD : UDecSaid) (a : Option Addr) (len cap : Nat) (B : List Int) (size other : Int) (a2 : Option Addr) (len2 cap2 : Nat) (M : List Int) (cut : Int) (w : World) (hA : Arg w a len cap B) (hA2 : Arg w a2 len2 cap2 M) (hn2 : a2 = none → len2 = 0 ∧ cap2 = 0)
    (hi : I64 size) (hi2 : I64 other) (_hi3 : I64 cut) (hl2 : len2 ≤ 140737488351232) (hg : Laid w) (hu : ULaid w) :
    Calls Tryd.prog 3 #[.slice a len cap, .int .i64 size, .int .i64 other, .slice a2 len2 cap2, .int .i64 cut] w fun e w' => e = .returned (.bool true) ∧ Below w.heap.size w w' := by
  have HE := vl hE
  have HD := vl hD
  have HA := vl hA
  have HA2 := vl hA2
  have HN2 := vl hn2
  have HI := vl hi
  have HI2 := vl hi2
  have HG := vl hg
  have HU := vl hu
  clear hE hD hA hA2 hn2 hi hi2 hg hu
  have H0 := vl (HE.out _ _ _ _ 2 _ (abc_arg w) (by unfold I64; omega) (HU.out.below ((Below.refl _ _).alloc (Nat.le_refl _) _)))
  rw [chunks_abc] at H0
  unfold errW at H0
  simp only [if_true] at H0
  have HB0 : Vl (Below w.heap.size w (w.alloc (.cells #[.int .u8 97, .int .u8 98, .int .u8 99] 5 (3, 4)))) := (Below.refl _ _).alloc (Nat.le_refl _) _
  have hcv := Lib.run_convert_bytes_const (P := Tryd.prog) w 22 5 #[.int .u8 97, .int .u8 98, .int .u8 99] 3 3 Tryd.underlying22 Tryd.underlying5
  go_enter Tryd.func3, Tryd.ntmps3
  go_wp2_with fail
  refine H0.out.mono ?_
  rintro e w1 ⟨v0, rfl, ho0, hb0⟩
  have cv0 := ho0.text
  rw [abc_text] at cv0
  have HB1 : Vl (Below w.heap.size w w1) := HB0.out.trans (hb0.mono HB0.out.size)
  clear H0 hcv ho0 hb0 HB0
  have H1 := vl (HE.out a len cap B size w1 (HA.out.below HB1.out) HI.out (HU.out.below HB1.out))
  go_wp2_with fail
  refine H1.out.mono ?_
  rintro e w2 ⟨v1, rfl, ho1, hb1⟩
  have HO1 := vl ho1
  have HB2 : Vl (Below w.heap.size w w2) := HB1.out.trans (hb1.mono HB1.out.size)
  have H2 := vl (HE.out a len cap B other w2 (HA.out.below HB2.out) HI2.out (HU.out.below HB2.out))
  have HS01 := vl HB1.out.size
  have hb1s := vl hb1.size
  clear H1 HB1 ho1 hb1 cv0
  go_wp2_with fail
  refine H2.out.mono ?_
  rintro e w3 ⟨v2, rfl, ho2, hb2⟩
  have HO2 := vl ho2
  have HO13 := vl (HO1.out.below hb2)
  have HB3 : Vl (Below w.heap.size w w3) := HB2.out.trans (hb2.mono HB2.out.size)
  have HS2 := vl hb2.size
  have HS1 := vl HB2.out.size
  have HX : Vl (∀ k, v1.ownBlock = some k → k < w2.heap.size) := fun k hk => (HO1.out.base k hk).2
  have HSW : Vl (w1.heap.size ≤ w3.heap.size) := Nat.le_trans hb1s.out hb2.size
  clear H2 HB2 ho2 hb2 HO1
  by_cases e1 : (chunksF B size).1 = 0
  case neg =>
    have x1 : errW (chunksF B size).1 = .iface 58 (.int .i64 (chunksF B size).1) := by unfold errW; rw [if_neg e1]
    rw [x1]
    go_wp2
    go_ret
    exact ⟨rfl, HB3.out⟩
  by_cases e2 : (chunksF B other).1 = 0
  case neg =>
    have x2 : errW (chunksF B other).1 = .iface 58 (.int .i64 (chunksF B other).1) := by unfold errW; rw [if_neg e2]
    have x1 : errW (chunksF B size).1 = .nilIface := by unfold errW; rw [if_pos e1]
    rw [x1, x2]
    go_wp2
    go_ret
    exact ⟨rfl, HB3.out⟩
  have x1 : errW (chunksF B size).1 = .nilIface := by unfold errW; rw [if_pos e1]
  have x2 : errW (chunksF B other).1 = .nilIface := by unfold errW; rw [if_pos e2]
  rw [x1, x2]
  obtain ⟨s, hs, hB, c1⟩ := chunks_ok e1
  obtain ⟨o, hos, _, c2⟩ := chunks_ok e2
  rw [c1] at HO13
  rw [c2] at HO2
  clear x1 x2 e1 e2 c1 c2
  have HB8 := vl hB
  have HBY := vl HA.out.bytes
  have hp1 := chunk_pos hs B
  have hp2 := chunk_pos hos B
  have hm1 := chunk_len_le hs B.length B (Nat.le_refl _)
  have hm2 := chunk_len_le hos B.length B (Nat.le_refl _)
  have HC1 := vl (bytes_chunk hs _ B (Nat.le_refl _) HBY.out)
  have HC2 := vl (bytes_chunk hos _ B (Nat.le_refl _) HBY.out)
  have HU1 := vl (unch_chunk hs B M hB)
  have HU2 := vl (unch_own hos B hB)
  have HUC := vl (fun c hc => unch_cut hs B hB c hc)
  obtain ⟨C1, hC1⟩ : ∃ C1, chunkL s B = C1 := ⟨_, rfl⟩
  obtain ⟨C2, hC2⟩ : ∃ C2, chunkL o B = C2 := ⟨_, rfl⟩
  simp only [hC1] at HO13 hp1 hm1 HC1 HU1 HUC
  simp only [hC2] at HO2 hp2 hm2 HC2 HU2
  clear hC1 hC2
  obtain ⟨g1, k1, rfl, hg1, hr1⟩ := HO13.out.row HC1.out (by omega)
  obtain ⟨g2, k2, rfl, hg2, hr2⟩ := HO2.out.row HC2.out (by omega)
  have hk1 := hr1.hcap
  have hk2 := hr2.hcap
  have HR1 := vl hr1
  have hne : g2 ≠ g1 := by have := HX.out g1 rfl; omega
  have HNE := vl hne
  clear hr1 hr2 hg1 hg2 hne HX HS2
  have HAX : Vl (∀ W, Below w.heap.size w W → Arg W a2 len2 cap2 M) := fun W hW => HA2.out.below hW
  have W3S := vl HB3.out.size
  by_cases hc : 0 ≤ cut ∧ cut < (C1.length : Int)
  · obtain ⟨c, rfl⟩ : ∃ c : Nat, cut = c := ⟨cut.toNat, by omega⟩
    have hc1 : (0 : Int) ≤ (c : Int) := by omega
    have hc2 : (c : Int) < (C1.length : Int) := hc.2
    have hc3 : c ≤ k1 := by omega
    have HAC : Vl (Arg w3 (some ⟨g1, 0, none⟩) c k1 (C1.take c)) := Or.inr ⟨g1, 0, rfl, HR1.out.take c (by omega)⟩
    have H4 := vl (HD.out _ _ _ _ w3 HAC.out (by unfold ULim; omega))
    rw [HUC.out c (by omega)] at H4
    unfold errW at H4
    clear hc HUC HAC
    go_wp2_with fail
    refine H4.out.mono ?_
    rintro e w4 ⟨v4, rfl, ho4, hb4⟩
    have HB4 : Vl (Below w.heap.size w w4) := HB3.out.trans (hb4.mono HB3.out.size)
    have HB4' := vl hb4
    rw [if_neg (by omega)]
    have H4e := vl (error_hit 8 8 w4 (HG.out.below HB4.out))
    clear H4 ho4 hb4
    go_wp2_with fail
    refine H4e.out.mono ?_
    rintro e w4' ⟨rfl, hb4'⟩
    have BX : Vl (Below w.heap.size w w4') := HB4.out.trans (hb4'.mono HB4.out.size)
    have OX := vl ((HO13.out.below HB4'.out).below hb4')
    have O2X := vl ((HO2.out.below HB4'.out).below hb4')
    have AX := vl (HAX.out w4' BX.out)
    have SX : Vl (w1.heap.size ≤ w4'.heap.size) := Nat.le_trans HSW.out (Nat.le_trans HB4'.out.size hb4'.size)
    clear H4e hb4' HB4' HB4 HAX HR1
    have HO1 := vl HO13.out
    go_wp2_with (first | (at_builtin; refine wpList_uapp _ rfl _ _ rfl w1.heap.size _ C1 rfl OX.out a2 len2 cap2 M rfl AX.out (fun h => (HN2.out h).2) (by omega) (by have := BX.out.size; have := SX.out; omega) ?_; intro v5 w5 ho5 hg5; have HO5 := vl ho5; have HG5 := vl hg5; clear ho5 hg5) | fail)
    obtain ⟨a5, k5, rfl, hk5, hm5⟩ := HO5.out.slice
    have HB5 : Vl (Below w.heap.size w w5) := u_below_grown BX.out HG5.out BX.out.size (fun k hk => by have := HO13.out.base k hk; have := HS01.out; omega)
    have HA5 := vl (HO5.out.arg (bytes_app HC1.out HA2.out.bytes))
    have HO25 : Vl (UOwn w5 w2.heap.size (.slice (some ⟨g2, 0, none⟩) C2.length k2) C2) := O2X.out.grown HG5.out (fun k hk e => by cases hk; exact HNE.out (by cases e; rfl))
    have hz := HA2.out.len
    have H5 := vl (HD.out _ _ _ _ w5 HA5.out (by unfold ULim; simp; omega))
    rw [HU1.out] at H5
    unfold errW at H5
    simp only [if_true] at H5
    go_wp2_with fail
    refine H5.out.mono ?_
    rintro e w6 ⟨v6, rfl, ho6, hb6⟩
    have HO6 := vl ho6
    have HB6 : Vl (Below w.heap.size w w6) := HB5.out.trans (hb6.mono HB5.out.size)
    have HO26 := vl (HO25.out.below hb6)
    have HA6 := vl (HO26.out.arg HC2.out)
    have H6 := vl (HD.out _ _ _ _ w6 HA6.out (by unfold ULim; omega))
    rw [HU2.out] at H6
    unfold errW at H6
    simp only [if_true] at H6
    clear H5 ho6 hb6
    go_wp2_with fail
    refine H6.out.mono ?_
    rintro e w7 ⟨v7, rfl, ho7, hb7⟩
    have HB7 : Vl (Below w.heap.size w w7) := HB6.out.trans (hb7.mono HB6.out.size)
    have t6 := (HO6.out.below hb7).text
    have t7 := ho7.text
    have t0 := (HA.out.below HB7.out).text
    clear H6 ho7 hb7 HO6 HO26 HA6
    go_wp2
    go_ret
    exact ⟨by simp, HB7.out⟩
  · have HUC0 := HUC
    clear HUC0 HUC
    have BX := HB3
    have OX := HO13
    have O2X := HO2
    have AX := vl (HAX.out w3 BX.out)
    have SX := HSW
    by_cases hc0 : 0 ≤ cut
    · have hc1 : ¬ (cut < (C1.length : Int)) := by omega
      clear hc
      have HO1 := vl HO13.out
      go_wp2_with (first | (at_builtin; refine wpList_uapp _ rfl _ _ rfl w1.heap.size _ C1 rfl OX.out a2 len2 cap2 M rfl AX.out (fun h => (HN2.out h).2) (by omega) (by have := BX.out.size; have := SX.out; omega) ?_; intro v5 w5 ho5 hg5; have HO5 := vl ho5; have HG5 := vl hg5; clear ho5 hg5) | fail)
      obtain ⟨a5, k5, rfl, hk5, hm5⟩ := HO5.out.slice
      have HB5 : Vl (Below w.heap.size w w5) := u_below_grown BX.out HG5.out BX.out.size (fun k hk => by have := HO13.out.base k hk; have := HS01.out; omega)
      have HA5 := vl (HO5.out.arg (bytes_app HC1.out HA2.out.bytes))
      have HO25 : Vl (UOwn w5 w2.heap.size (.slice (some ⟨g2, 0, none⟩) C2.length k2) C2) := O2X.out.grown HG5.out (fun k hk e => by cases hk; exact HNE.out (by cases e; rfl))
      have hz := HA2.out.len
      have H5 := vl (HD.out _ _ _ _ w5 HA5.out (by unfold ULim; simp; omega))
      rw [HU1.out] at H5
      unfold errW at H5
      simp only [if_true] at H5
      go_wp2_with fail
      refine H5.out.mono ?_
      rintro e w6 ⟨v6, rfl, ho6, hb6⟩
      have HO6 := vl ho6
      have HB6 : Vl (Below w.heap.size w w6) := HB5.out.trans (hb6.mono HB5.out.size)
      have HO26 := vl (HO25.out.below hb6)
      have HA6 := vl (HO26.out.arg HC2.out)
      have H6 := vl (HD.out _ _ _ _ w6 HA6.out (by unfold ULim; omega))
      rw [HU2.out] at H6
      unfold errW at H6
      simp only [if_true] at H6
      clear H5 ho6 hb6
      go_wp2_with fail
      refine H6.out.mono ?_
      rintro e w7 ⟨v7, rfl, ho7, hb7⟩
      have HB7 : Vl (Below w.heap.size w w7) := HB6.out.trans (hb7.mono HB6.out.size)
      have t6 := (HO6.out.below hb7).text
      have t7 := ho7.text
      have t0 := (HA.out.below HB7.out).text
      clear H6 ho7 hb7 HO6 HO26 HA6
      go_wp2
      go_ret
      exact ⟨by simp, HB7.out⟩
    · clear hc
      have HO1 := vl HO13.out
      go_wp2_with (first | (at_builtin; refine wpList_uapp _ rfl _ _ rfl w1.heap.size _ C1 rfl OX.out a2 len2 cap2 M rfl AX.out (fun h => (HN2.out h).2) (by omega) (by have := BX.out.size; have := SX.out; omega) ?_; intro v5 w5 ho5 hg5; have HO5 := vl ho5; have HG5 := vl hg5; clear ho5 hg5) | fail)
      obtain ⟨a5, k5, rfl, hk5, hm5⟩ := HO5.out.slice
      have HB5 : Vl (Below w.heap.size w w5) := u_below_grown BX.out HG5.out BX.out.size (fun k hk => by have := HO13.out.base k hk; have := HS01.out; omega)
      have HA5 := vl (HO5.out.arg (bytes_app HC1.out HA2.out.bytes))
      have HO25 : Vl (UOwn w5 w2.heap.size (.slice (some ⟨g2, 0, none⟩) C2.length k2) C2) := O2X.out.grown HG5.out (fun k hk e => by cases hk; exact HNE.out (by cases e; rfl))
      have hz := HA2.out.len
      have H5 := vl (HD.out _ _ _ _ w5 HA5.out (by unfold ULim; simp; omega))
      rw [HU1.out] at H5
      unfold errW at H5
      simp only [if_true] at H5
      go_wp2_with fail
      refine H5.out.mono ?_
      rintro e w6 ⟨v6, rfl, ho6, hb6⟩
      have HO6 := vl ho6
      have HB6 : Vl (Below w.heap.size w w6) := HB5.out.trans (hb6.mono HB5.out.size)
      have HO26 := vl (HO25.out.below hb6)
      have HA6 := vl (HO26.out.arg HC2.out)
      have H6 := vl (HD.out _ _ _ _ w6 HA6.out (by unfold ULim; omega))
      rw [HU2.out] at H6
      unfold errW at H6
      simp only [if_true] at H6
      clear H5 ho6 hb6
      go_wp2_with fail
      refine H6.out.mono ?_
      rintro e w7 ⟨v7, rfl, ho7, hb7⟩
      have HB7 : Vl (Below w.heap.size w w7) := HB6.out.trans (hb7.mono HB6.out.size)
      have t6 := (HO6.out.below hb7).text
      have t7 := ho7.text
      have t0 := (HA.out.below HB7.out).text
      clear H6 ho7 hb7 HO6 HO26 HA6
      go_wp2
      go_ret
      exact ⟨by simp, HB7.out⟩
end Go.Proofs.YtgjolljhjagngafDoor
