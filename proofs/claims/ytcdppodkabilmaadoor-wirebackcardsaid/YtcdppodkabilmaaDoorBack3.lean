/-
  THE WALK of the Go function tolllaw1.WireBack, all its ways. No claim by itself.
-/
import Derived.Test.YtcdppodkabilmaaDoorBack2
namespace Go.Proofs.YtcdppodkabilmaaDoor
open Go.RowKit
set_option maxRecDepth 100000 in
set_option maxHeartbeats 4000000 in
theorem back_none (n b : Int) (w : World) (hg : Laid w) (hok : putOk n b 0) :
    Calls Tryd.prog 5 #[.int .i64 n, .int .i64 b, .slice none 0 0] w fun e w' => e = .returned (.bool true) ∧ Below w.heap.size w w' := by
  obtain ⟨_, _, b1, b2, _⟩ := id hok
  have HG : Hid (getF (putL n b 0 ++ []) b = (n, ((putL n b 0).length : Int), 0)) := get_put n b [] hok
  have HC : Hid (∀ j, j < (putL n b 0).length → getF ((putL n b 0).take j) b = (0, 0, 8)) := fun j hj => get_cut n b j hok hj
  have HLB : Hid (∀ x ∈ putL n b 0, 0 ≤ x ∧ x < 256) := putL_byte n b 0 hok
  have hLl := putL_len n b 0
  have HF : Hid (getF [] b = (0, 0, 8)) := by
    show getF [] b = (0, 0, 8)
    unfold getF; rw [if_neg (by omega)]
  go_enter Tryd.func5, Tryd.ntmps5
  go_wp2_with fail
  refine (put_1337 _).mono ?_
  rintro e w1 ⟨g1, cp1, rfl, q0, q1, q2, q3, q4, hb1⟩
  unfold maxLen at q4
  go_wp2_with fail
  refine (put_yes n b 0 _ hok).mono ?_
  rintro e w2 ⟨g2, c2, rfl, ho2, hb2⟩
  clear q0 q1 q2 q3 q4
  generalize putL n b 0 = L at *
  have hs1 := hb1.size
  have hs2 := hb2.size
  have hr2 := row_of rfl ho2 HLB.out
  have hB2 : Below w.heap.size w w2 := hb1.trans (hb2.mono hs1)
  have hg2 := hg.below hB2
  have hcp := hr2.hcap
  have hmx := hr2.hmax
  unfold maxLen at hmx
  go_wp2_with fail
  go_loopw [11] (fun i wr => ∃ k : Nat, i = .int .i64 k ∧ k ≤ L.length ∧ Below w2.heap.size w2 wr) (fun i _ => L.length - (intOf i).toNat)
  case atStart => exact ⟨0, rfl, by omega, Below.refl _ _⟩
  case round =>
    obtain ⟨k, rfl, hk, hbr⟩ := hrel
    have hrr := hr2.below hbr
    have hsr := hbr.size
    by_cases hlt : k < L.length
    · have hrt := hrr.take k (by omega)
      go_wp2_with fail
      refine (get_err _ k c2 (L.take k) b 0 0 8 _ (Or.inr ⟨g2, 0, rfl, hrt⟩) (HC.out k hlt) (by decide)).mono ?_
      rintro e w3 ⟨rfl, rfl⟩
      clear hrt
      go_wp2_with fail
      refine (error_hit 8 8 _ (hg2.below hbr)).mono ?_
      rintro e w3 ⟨rfl, hb3⟩
      go_wp2
      go_roundw
      case rel => exact ⟨k + 1, by go_num, by omega, hbr.trans (hb3.mono hsr)⟩
      case measure => simp [intOf]; omega
    · have hownr := own_below ho2 hbr
      have hBr : Below w.heap.size w wr := hB2.trans (hbr.mono (by omega))
      clear hrr
      obtain ⟨i0, hi, hz0, hz1, hz2⟩ := info_parts info5
      go_wp2_with (at_builtin; refine wpList_append_own_none rfl _ _ 22 rfl w1.heap.size 5 i0 1 Tryd.underlying22 hi _ _ _ rfl hownr rfl ?_)
      have hr6 := row_of rfl hownr HLB.out
      have hA6 : Arg wr none 0 0 [] := Or.inl ⟨rfl, rfl⟩
      clear hownr
      go_wp2_with fail
      refine (get_ok _ _ c2 L b n (L.length : Int) _ (Or.inr ⟨g2, 0, rfl, hr6⟩) (by have := HG.out; rwa [List.append_nil] at this)).mono ?_
      rintro e w7 ⟨rfl, rfl⟩
      clear hr6
      go_wp2_with fail
      refine (get_err _ 0 0 [] b 0 0 8 _ hA6 HF.out (by decide)).mono ?_
      rintro e w7 ⟨rfl, rfl⟩
      go_wp2
      go_ret
      exact ⟨rfl, hBr⟩
set_option maxRecDepth 100000 in
set_option maxHeartbeats 4000000 in
theorem back_some_ok (n b : Int) (gz oz : Nat) (len cap : Nat) (z : Int) (zs : List Int) (w : World) (hA : Arg w (some ⟨gz, oz, none⟩) len cap (z :: zs)) (hr : Row w gz oz len cap (z :: zs)) (hg : Laid w) (hlen : len ≤ 140737488351232) (hok : putOk n b 0) (x : Int) (l : Nat) (f : Int)
    (hz : 0 ≤ z ∧ z < 256) (hfz : wrap64 (z / (gr b + 1) * (gr b + 1)) = f) (HX : Hid (bigOk x 4)) (HOK : Hid (putOk x b f)) (HS : Hid (putL x b f = (z :: zs).take l)) (HF : Hid (getF (z :: zs) b = (x, (l : Int), 0))) (hl : l ≤ (z :: zs).length) :
    Calls Tryd.prog 5 #[.int .i64 n, .int .i64 b, .slice (some ⟨gz, oz, none⟩) len cap] w fun e w' => e = .returned (.bool true) ∧ Below w.heap.size w w' := by
  obtain ⟨_, _, b1, b2, _⟩ := id hok
  have HG : Hid (getF (putL n b 0 ++ (z :: zs)) b = (n, ((putL n b 0).length : Int), 0)) := get_put n b (z :: zs) hok
  have HC : Hid (∀ j, j < (putL n b 0).length → getF ((putL n b 0).take j) b = (0, 0, 8)) := fun j hj => get_cut n b j hok hj
  have HLB : Hid (∀ x ∈ putL n b 0, 0 ≤ x ∧ x < 256) := putL_byte n b 0 hok
  have hLl := putL_len n b 0
  have HFZ : Hid (wrap64 (z / (gr b + 1) * (gr b + 1)) = f) := hfz
  have HLE : Hid (l ≤ (z :: zs).length) := hl
  clear hfz hl
  generalize hZZ : z :: zs = Z at *
  have HZZ : Hid (z :: zs = Z) := hZZ
  clear hZZ
  go_enter Tryd.func5, Tryd.ntmps5
  go_wp2_with fail
  refine (put_1337 _).mono ?_
  rintro e w1 ⟨g1, cp1, rfl, q0, q1, q2, q3, q4, hb1⟩
  unfold maxLen at q4
  go_wp2_with fail
  refine (put_yes n b 0 _ hok).mono ?_
  rintro e w2 ⟨g2, c2, rfl, ho2, hb2⟩
  clear q0 q1 q2 q3 q4
  generalize putL n b 0 = L at *
  have hs1 := hb1.size
  have hs2 := hb2.size
  have hr2 := row_of rfl ho2 HLB.out
  have hB2 : Below w.heap.size w w2 := hb1.trans (hb2.mono hs1)
  have hg2 := hg.below hB2
  have hcp := hr2.hcap
  have hmx := hr2.hmax
  unfold maxLen at hmx
  go_wp2_with fail
  go_loopw [11] (fun i wr => ∃ k : Nat, i = .int .i64 k ∧ k ≤ L.length ∧ Below w2.heap.size w2 wr) (fun i _ => L.length - (intOf i).toNat)
  case atStart => exact ⟨0, rfl, by omega, Below.refl _ _⟩
  case round =>
    obtain ⟨k, rfl, hk, hbr⟩ := hrel
    have hrr := hr2.below hbr
    have hsr := hbr.size
    by_cases hlt : k < L.length
    · have hrt := hrr.take k (by omega)
      go_wp2_with fail
      refine (get_err _ k c2 (L.take k) b 0 0 8 _ (Or.inr ⟨g2, 0, rfl, hrt⟩) (HC.out k hlt) (by decide)).mono ?_
      rintro e w3 ⟨rfl, rfl⟩
      clear hrt
      go_wp2_with fail
      refine (error_hit 8 8 _ (hg2.below hbr)).mono ?_
      rintro e w3 ⟨rfl, hb3⟩
      go_wp2
      go_roundw
      case rel => exact ⟨k + 1, by go_num, by omega, hbr.trans (hb3.mono hsr)⟩
      case measure => simp [intOf]; omega
    · have hownr := own_below ho2 hbr
      have hBr : Below w.heap.size w wr := hB2.trans (hbr.mono (by omega))
      clear hrr
      obtain ⟨hZl, hZc, hZb⟩ := arg_cells (hA.below hBr)
      have HZL : Hid (Z.length = len) := hZl
      have HZC : Hid (∀ j u, (Z.map (Value.int .u8))[j]? = some u → wr.cell? ((⟨gz, oz, none⟩ : Addr).add j) = some u) := hZc
      have HZB : Hid (∀ x ∈ Z, 0 ≤ x ∧ x < 256) := hZb
      clear hZl hZc hZb
      obtain ⟨i0, hi, hz0, hz1, hz2⟩ := info_parts info5
      have hLl2 := hLl.2
      go_wp2_with (at_builtin; refine wpList_append_own _ rfl _ _ 22 rfl w1.heap.size 5 i0 (.int .u8 0) 1 1 Tryd.underlying22 hi hz0 hz1 hz2 rfl (by decide) _ _ _ rfl hownr ⟨gz, oz, none⟩ len cap (Z.map (Value.int .u8)) rfl ?c0 HZC.out (ints_oneCell _ _) ?c3 ?c4 ?c5 ?_)
      case c0 => rw [List.length_map, HZL.out, Nat.mul_one]
      case c3 => unfold maxLen; omega
      case c4 => omega
      case c5 => omega
      intro v6 w6 hown6 hgrow _
      have hB6 : Below w.heap.size w w6 := hBr.grown hgrow (by omega) (fun k hk => by have := (hownr.lt k hk).1; omega)
      have hfin : w6.ownsRow w1.heap.size 5 1 v6 (L.length + len) ((L ++ Z).map (Value.int .u8)) := by rw [List.map_append]; exact hown6
      obtain ⟨g6, c6, rfl⟩ := shape_n hfin (by omega)
      have hr6 := row_of (by rw [List.length_append, HZL.out]) hfin (fun x hx => (List.mem_append.1 hx).elim (HLB.out x) (HZB.out x))
      have hA6 := hA.below hB6
      clear hown6 hgrow hfin hownr
      go_wp2_with fail
      refine (get_ok _ _ c6 (L ++ Z) b n (L.length : Int) _ (Or.inr ⟨g6, 0, rfl, hr6⟩) HG.out).mono ?_
      rintro e w7 ⟨rfl, rfl⟩
      clear hr6
      go_wp2_with fail
      refine (get_ok _ len cap Z b x l _ hA6 HF.out).mono ?_
      rintro e w7 ⟨rfl, rfl⟩
      have hfz := HFZ.out
      have hl := HLE.out
      have hrw := hr.below hB6
      have hcz : w6.cell? ⟨gz, oz, none⟩ = some (.int .u8 z) := by
        have h := hrw.hcell 0 (by have := hr.hlen; rw [← HZZ.out] at this; simp at this; omega)
        rw [← HZZ.out] at h
        simpa using h
      have hlp : 1 ≤ len := by have := hr.hlen; rw [← HZZ.out] at this; simp at this; omega
      clear HG HC HLB HFZ HLE HZZ HZL HZC HZB hr2 ho2 hi hz0 hz1 hz2 hlt hk hcp hmx hLl hLl2
      go_wp2
      go_loop [22, 23] (fun p i => ∃ k : Nat, (k : Int) ≤ b ∧ i = .int .i64 k ∧ p = .int .i64 (p2 k)) (fun _ i => (b - intOf i).toNat)
      case atStart => exact ⟨0, by omega, rfl, rfl⟩
      case round =>
        obtain ⟨k2, hk2, rfl, rfl⟩ := hrel
        have hpb := p2_bd k2 (by omega)
        by_cases hlt : (k2 : Int) < b
        · have hs : Hid (p2 (k2 + 1) = p2 k2 * 2) := p2_succ k2
          go_wp2
          go_round
          case rel => exact ⟨k2 + 1, by omega, by go_num, by rw [hs.out]⟩
          case measure => simp [intOf]; omega
        · have ep : p2 k2 = gr b + 1 := by
            have ek : b.toNat = k2 := by omega
            rw [← ek]; exact gr_p2 b
          rw [ep]
          have gb := gr_bd b b1 b2
          have zz := hz
          clear hpb ep
          go_wp2_with fail
          refine (put_yes x b f _ HOK.out).mono ?_
          rintro e w4 ⟨g4, c4, rfl, ho4, hb4⟩
          have hs4 := hb4.size
          have l4 := row_lt ho4 rfl
          have e4 : (putL x b f).length = l := by rw [HS.out]; simp; omega
          rw [e4] at ho4 ⊢
          clear e4
          go_wp2_with fail
          refine (big4row x _ HX.out).mono ?_
          rintro e w5 ⟨g5, rfl, hr5, hb5⟩
          have hs5 := hb5.size
          go_wp2_with fail
          refine (read_ok _ 4 4 (bigL 4 x) 4 x _ (Or.inr ⟨g5, 0, rfl, hr5⟩) (read_big x HX.out.2.2.1 HX.out.2.2.2)).mono ?_
          rintro e w6 ⟨rfl, rfl⟩
          have hBs := hB6.size
          have hB5 : Below w.heap.size w w5 := (hB6.trans (hb4.mono (by omega))).trans (hb5.mono (by omega))
          have cv1 := fun nq => string_of_row (by rw [HS.out]; simp; omega) ho4 (drewN_below (hb5.mono (show g4 + 1 ≤ w4.heap.size by omega)) nq)
          rw [HS.out] at cv1
          have hrt := ((hrw).below ((hb4.trans (hb5.mono hs4)))).take l (by have := hr.hlen; omega)
          have cv2 := fun nq => run_convert_bytes_arg (w5.drewN nq) 22 5 Tryd.underlying22 Tryd.underlying5 gz oz l cap _ hrt.hlen hrt.hcell 9 Tryd.underlying9
          generalize strOfNums (List.take l Z) = S at *
          have hll : l ≤ len := by have := hr.hlen; omega
          have hlc := hr.hcap
          clear hrt hr5 ho4
          go_wp2_with fail
          go_quiet (fail)
          go_wp2
          go_ret
          exact ⟨by simp, drewN_below hB5 _⟩
theorem back (n b : Int) (a : Option Addr) (len cap : Nat) (Z : List Int) (w : World) (hA : Arg w a len cap Z) (hg : Laid w) (hnil : a = none → len = 0 ∧ cap = 0) (hlen : len ≤ 140737488351232) :
    Calls Tryd.prog 5 #[.int .i64 n, .int .i64 b, .slice a len cap] w fun e w' => e = .returned (.bool true) ∧ Below w.heap.size w w' := by
  obtain ⟨x, u, k, hf⟩ : ∃ x u k, getF Z b = (x, u, k) := ⟨_, _, _, rfl⟩
  by_cases hok : putOk n b 0
  · match a, hA, hnil with
    | none, hA, hnil =>
      obtain ⟨rfl, rfl⟩ := hnil rfl
      exact back_none n b w hg hok
    | some ad, hA, _ =>
      by_cases hk : k = 0
      · subst hk
        obtain ⟨gz, oz, z, zs, l, ha, hr, hR⟩ := reads_of hA hf
        obtain rfl := Option.some.inj ha
        obtain ⟨rfl, b1, b2, rfl, hl, hok2, hsame⟩ := hR
        have hz : 0 ≤ z ∧ z < 256 := by simpa using hr.hbyte 0
        have hfb := high_bd z b hz.1 hz.2 b1 b2
        exact back_some_ok n b gz oz len cap z zs w hA hr hg hlen hok x l _ hz (by unfold wrap64; omega) ⟨by decide, by decide, hok2.1, hok2.2.1⟩ hok2 hsame hf hl
      · exact back_some_err n b ad len cap Z w hA hg hlen hok x u k hf hk
  · by_cases hk : k = 0
    · subst hk
      exact back_no_ok n b a len cap Z w hA hok x u hf
    · exact back_no_err n b a len cap Z w hA hok x u k hf hk
end Go.Proofs.YtcdppodkabilmaaDoor
