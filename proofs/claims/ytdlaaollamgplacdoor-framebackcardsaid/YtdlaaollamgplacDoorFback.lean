/-
  FRAMEBACK: the walk of the law. No claim by itself.
-/
import Derived.Test.YtdlaaollamgplacDoorSplit
import Derived.Test.YtdlaaollamgplacDoorDchk1
import Derived.Test.YtdlaaollamgplacDoorFgoes
import Derived.Deep.CutBlock
import Derived.Deep.DeepCutAuto
import Derived.Deep.CutRange
namespace Go.Proofs.YtdlaaollamgplacDoor
open Go.RowKit
set_option maxRecDepth 100000
theorem frm_byte (f : Frm) (h : frmE f = 0) (hb : ∀ x ∈ f.2.2.2, 0 ≤ x ∧ x < 256) : ∀ x ∈ frmL f, 0 ≤ x ∧ x < 256 := by
  intro x hx
  unfold frmL at hx
  unfold frmE at h
  split at h
  · simp at h
  · rename_i h1
    rcases List.mem_append.1 hx with h | h
    · exact bigL_byte _ _ x h
    · rcases List.mem_append.1 h with h | h
      · simp at h; rcases h with rfl | rfl <;> omega
      · rcases List.mem_append.1 h with h | h
        · exact bigL_byte _ _ x h
        · exact hb x h
theorem rd_fact : rdF [0, 0, 1, 0, 1, 0, 0, 0, 3, 9] = ((0, 1, 3, [9]), 10, 0) := by decide
set_option maxHeartbeats 16000000 in
theorem fback_ok (k fl st : Int) (a : Option Addr) (len cap : Nat) (Z : List Int) (b : Option Addr) (lb cb : Nat) (Y : List Int) (c : Option Addr) (lc cc : Nat) (X : List Int) (w : World) (hg : Laid w) (hA : Arg w a len cap Z) (hZ : Z.length = len) (hB : Arg w b lb cb Y) (hY : Y.length = lb)
    (hC : Arg w c lc cc X) (hX : X.length = lc) (hlb : lb ≤ 140737488351232) (hlc : lc ≤ 140737488351232) :
    Calls Tryd.prog 7 #[.agg #[.int .i64 k, .int .i64 fl, .int .i64 st, .slice a len cap], .slice b lb cb, .slice c lc cc] w fun e w' => e = .returned (.bool true) ∧ Below w.heap.size w w' := by
  obtain ⟨w0, hw0⟩ : ∃ w0, w0 = w.alloc (.cells #[.int .i64 k, .int .i64 fl, .int .i64 st, .slice a len cap] 43) := ⟨_, rfl⟩
  have hb0 : Below w.heap.size w w0 := by rw [hw0]; exact (Below.refl _ _).alloc (Nat.le_refl _) _
  have hse0 : w0.heap.size = w.heap.size + 1 := by rw [hw0]; simp
  have hsz0 : w.heap.size + 1 ≤ w0.heap.size := by omega
  have HSE := hide hse0
  clear hse0
  have hx : w0.heap[w.heap.size]? = some (.cells #[.int .i64 k, .int .i64 fl, .int .i64 st, .slice a len cap] 43 (0, 0)) := by rw [hw0]; exact Array.getElem?_push_size
  have HX : Hid (∀ wx, Below w0.heap.size w0 wx → (wx.cell? ⟨w.heap.size, 0, none⟩ = some (.int .i64 k) ∧ wx.cell? ⟨w.heap.size, 1, none⟩ = some (.int .i64 fl)) ∧ (wx.cell? ⟨w.heap.size, 2, none⟩ = some (.int .i64 st) ∧ wx.cell? ⟨w.heap.size, 3, none⟩ = some (.slice a len cap))) := fun wx hb => by
    have hy : wx.heap[w.heap.size]? = some (.cells #[.int .i64 k, .int .i64 fl, .int .i64 st, .slice a len cap] 43 (0, 0)) := (hb.block _ (by omega)).trans hx
    refine ⟨⟨?_, ?_⟩, ?_, ?_⟩ <;> simp [World.cell?, hy]
  have HG : Hid (∀ wx, Below w.heap.size w wx → Laid wx) := fun wx hb => hg.below hb
  have HA : Hid (∀ wx, Below w.heap.size w wx → Arg wx a len cap Z) := fun wx hb => hA.below hb
  have HB : Hid (∀ wx, Below w.heap.size w wx → Arg wx b lb cb Y) := fun wx hb => hB.below hb
  have HC : Hid (∀ wx, Below w.heap.size w wx → Arg wx c lc cc X) := fun wx hb => hC.below hb
  have HZ := hide hZ
  have HY := hide hY
  have HXl := hide hX
  have HW0 := hide hw0
  have B0 := hide hb0
  clear hA hB hC hx hZ hY hX hg hw0 hb0
  go_enter Tryd.func7, Tryd.ntmps7
  go_wp2_with fail
  rw [← HW0.out]
  obtain ⟨w1, hw1⟩ : ∃ w1, w1 = w0.alloc (.cells #[.int .u8 0, .int .u8 0, .int .u8 1, .int .u8 0, .int .u8 1, .int .u8 0, .int .u8 0, .int .u8 0, .int .u8 3, .int .u8 9] 5) := ⟨_, rfl⟩
  have hb1 : Below w0.heap.size w0 w1 := by rw [hw1]; exact (Below.refl _ _).alloc (Nat.le_refl _) _
  have s1 : w0.heap.size + 1 ≤ w1.heap.size := by rw [hw1]; simp
  have hr1 : Row w1 w0.heap.size 0 10 10 [0, 0, 1, 0, 1, 0, 0, 0, 3, 9] := by
    have ho := World.ownsRow_lit (base := w0.heap.size) (e := 5) (size := 1) w0 #[.int .u8 0, .int .u8 0, .int .u8 1, .int .u8 0, .int .u8 1, .int .u8 0, .int .u8 0, .int .u8 0, .int .u8 3, .int .u8 9] 10 (Nat.le_refl _) (by decide) rfl
    rw [← hw1] at ho
    exact row_of (L := [0, 0, 1, 0, 1, 0, 0, 0, 3, 9]) rfl ho (by decide)
  have HRD := hide (read_any (some ⟨w0.heap.size, 0, none⟩) 10 10 [0, 0, 1, 0, 1, 0, 0, 0, 3, 9] w1 (Or.inr ⟨_, 0, rfl, hr1⟩) rfl)
  rw [rd_fact] at HRD
  have P1 := hide (B0.out.trans (hb1.mono (by omega)))
  have Q1 := hide hb1
  have HW1 := hide hw1
  clear hb1 hr1 hw1
  rw [← HSE.out, ← HW1.out]
  refine HRD.out.mono ?_
  rintro e w2 ⟨⟨a2, c2, x2, rfl, hA2, hE2⟩, hb2⟩
  simp only at hA2 hE2 ⊢
  obtain rfl : x2 = .nilIface := by
    rcases hE2 with ⟨_, h⟩ | ⟨h, _⟩
    · exact h
    · exact absurd rfl h
  have s2 := hb2.size
  have Q2 := hide (Q1.out.trans (hb2.mono (by omega)))
  obtain ⟨w3, hw3⟩ : ∃ w3, w3 = w2.alloc (.cells #[.int .i64 0, .int .i64 1, .int .i64 3, .slice a2 1 c2] 43) := ⟨_, rfl⟩
  have hb3 : Below w2.heap.size w2 w3 := by rw [hw3]; exact (Below.refl _ _).alloc (Nat.le_refl _) _
  have s3 : w2.heap.size + 1 ≤ w3.heap.size := by rw [hw3]; simp
  have hx3 : w3.heap[w2.heap.size]? = some (.cells #[.int .i64 0, .int .i64 1, .int .i64 3, .slice a2 1 c2] 43 (0, 0)) := by rw [hw3]; exact Array.getElem?_push_size
  have t2 : w3.cell? ⟨w2.heap.size, 2, none⟩ = some (.int .i64 3) := by simp [World.cell?, hx3]
  have t3 : w3.cell? ⟨w2.heap.size, 3, none⟩ = some (.slice a2 1 c2) := by simp [World.cell?, hx3]
  have Q3 := hide (Q2.out.trans (hb3.mono (by omega)))
  have P3 := hide (B0.out.trans (Q3.out.mono (by omega)))
  obtain ⟨⟨u0, u1⟩, u2, u3⟩ := HX.out w3 Q3.out
  have HW3 := hide hw3
  clear hw3 hb3 hx3 hb2 hA2 hE2 HRD Q1 Q2 P1 HW1
  have hl1 : ([9] : List Int).length = 1 := rfl
  simp only [hl1]
  clear hl1
  go_wp2_with (rw [← HW3.out])
  refine (encode_any k fl st a len cap Z w3 (HA.out _ P3.out) HZ.out).mono ?_
  rintro e w4 ⟨⟨v4, x4, rfl, hm4⟩, hb4⟩
  have s4 := hb4.size
  have Q4 := hide (Q3.out.trans (hb4.mono (by omega)))
  have P4 := hide (P3.out.trans (hb4.mono (by omega)))
  have M4 := hide hm4
  have B34 := hide hb4
  clear hm4 hb4 u0 u1 u2 u3 t2 t3 HW3
  obtain ⟨bq, ⟨hq, hqg⟩, HQ⟩ : ∃ bq : Bool, ((∀ w, (binOp .eql 26 x4 .nilIface).run Tryd.prog w = .ok (.bool bq) w) ∧ (∀ w, (eqGuard BinOp.eql 26 (Operand.tmp 58) (Operand.const Value.nilIface) x4 Value.nilIface).run Tryd.prog w = .ok () w)) ∧ Hid (bq = true ↔ frmE (k, fl, st, Z) = 0) := by
    rcases M4.out with ⟨h1, rfl, _⟩ | ⟨h1, rfl, _⟩
    · exact ⟨true, ⟨fun w => by simp [go_sem], fun w => by simp [go_sem]⟩, ⟨fun _ => h1, fun _ => rfl⟩⟩
    · exact ⟨false, ⟨fun w => by simp [go_sem], fun w => by simp [go_sem]⟩, ⟨fun h => Bool.noConfusion h, fun h => absurd h h1⟩⟩
  go_upto_if 59 with fail
  go_cut [] (fun wx => Below w.heap.size w wx)
  case first =>
    cases bq with
    | false =>
      go_wp2_with fail
      go_meet
      exact P4.out
    | true =>
      have h0 := HQ.out.1 rfl
      obtain ⟨_, rfl, ho4⟩ : frmE (k, fl, st, Z) = 0 ∧ x4 = .nilIface ∧ w4.ownsRow w3.heap.size 5 1 v4 (frmL (k, fl, st, Z)).length ((frmL (k, fl, st, Z)).map (Value.int .u8)) := by
        rcases M4.out with h | ⟨h1, _⟩
        · exact h
        · exact absurd h0 h1
      have hL := frm_len (k, fl, st, Z)
      have hZl := HZ.out
      have hL9 : 9 ≤ (frmL (k, fl, st, Z)).length := by rw [hL]; omega
      have hL2 : (frmL (k, fl, st, Z)).length ≤ 1033 := by
        rw [hL]
        have h1 := h0
        unfold frmE at h1
        split at h1
        · simp at h1
        · split at h1
          · simp at h1
          · omega
      obtain ⟨g4, c4, rfl, hc4⟩ := fr_shape2 ho4 (by omega)
      have R4 := hide (row_of rfl ho4 (frm_byte _ h0 (arg_byte (HA.out w (Below.refl _ _)))))
      have HO4 := hide ho4
      have HCUT : Hid (∀ j, j < (frmL (k, fl, st, Z)).length → rdF ((frmL (k, fl, st, Z)).take j) = (fr0, 0, 8)) := fun j hj => rd_cut _ j h0 hj
      have HRDF : Hid (∀ R, rdF (frmL (k, fl, st, Z) ++ R) = ((k, fl, st, Z), ((9 + Z.length : Nat) : Int), 0)) := fun R => rd_frm _ R h0
      have HL := hide hL
      clear ho4 h0 hL M4 hq hqg HQ hZl
      generalize frmL (k, fl, st, Z) = P at *
      have hcm := R4.out.hmax
      unfold maxLen at hcm
      go_wp2
      go_loopw [12] (fun i wr => ∃ j : Nat, i = .int .i64 j ∧ j ≤ P.length ∧ Below w4.heap.size w4 wr) (fun i _ => P.length - (intOf i).toNat)
      case atStart => exact ⟨0, rfl, Nat.zero_le _, Below.refl _ _⟩
      case round =>
        obtain ⟨j, rfl, hj, hBr⟩ := hrel
        have sr := hBr.size
        have BR := hide hBr
        by_cases hlt : j < P.length
        · have hrd := HCUT.out j hlt
          have HRD : Hid (Calls Tryd.prog 18 #[.slice (some ⟨g4, 0, none⟩) j c4] wr fun e w' => RdFe w' (fr0, 0, 8) e ∧ Below wr.heap.size wr w') := by
            have h := read_any (some ⟨g4, 0, none⟩) j c4 (P.take j) wr (Or.inr ⟨g4, 0, rfl, (R4.out.below hBr).take j (by omega)⟩) (by rw [List.length_take]; omega)
            rw [hrd] at h
            exact h
          have i1 : (j : Int) < (P.length : Int) := by omega
          have i2 : (0 : Int) ≤ (j : Int) := by omega
          have i3 : (j : Int) ≤ (c4 : Int) := by omega
          clear hrd hBr
          go_wp2_with fail
          refine HRD.out.mono ?_
          rintro e w5 ⟨⟨a5, c5, x5, rfl, hA5, hE5⟩, hb5⟩
          simp only [fr0] at hA5 hE5 ⊢
          obtain rfl : x5 = .iface 73 (.int .i64 8) := by
            rcases hE5 with ⟨h, _⟩ | ⟨_, h⟩
            · simp at h
            · exact h
          have s5 := hb5.size
          obtain ⟨w6, hw6⟩ : ∃ w6, w6 = w5.alloc (.cells #[.int .i64 0, .int .i64 0, .int .i64 0, .slice a5 0 c5] 43) := ⟨_, rfl⟩
          have hb6 : Below w5.heap.size w5 w6 := by rw [hw6]; exact (Below.refl _ _).alloc (Nat.le_refl _) _
          have s6 := hb6.size
          have BR6 := hide (BR.out.trans ((hb5.trans (hb6.mono (by omega))).mono (by omega)))
          have HER := hide (error_is 8 (.iface 73 (.int .i64 8)) w6 (HG.out _ (P4.out.trans (BR6.out.mono (by have := P4.out.size; omega)))) (Or.inr ⟨by decide, rfl⟩))
          have HW6 := hide hw6
          clear hw6 hb6 hb5 hA5 hE5 HRD
          simp only [List.length_nil]
          go_wp2_with (rw [← HW6.out])
          refine HER.out.mono ?_
          rintro e w7 ⟨rfl, hb7⟩
          have BR7 := hide (BR6.out.trans (hb7.mono (by omega)))
          clear hb7 HER
          by_cases hjump : 20 < j ∧ j < P.length - 2
          · have d1 : decide ((20 : Int) < (j : Int)) = true := decide_eq_true (by omega)
            have d2 : decide ((j : Int) < (P.length : Int) - 2) = true := decide_eq_true (by omega)
            go_wp2
            go_roundw
            case rel => exact ⟨P.length - 1, by go_num, by omega, BR7.out⟩
            case measure => simp [intOf]; omega
          · by_cases h20 : 20 < j
            · have d1 : decide ((20 : Int) < (j : Int)) = true := decide_eq_true (by omega)
              have d2 : decide ((j : Int) < (P.length : Int) - 2) = false := decide_eq_false (by omega)
              go_wp2
              go_roundw
              case rel => exact ⟨j + 1, by go_num, by omega, BR7.out⟩
              case measure => simp [intOf]; omega
            · have d1 : decide ((20 : Int) < (j : Int)) = false := decide_eq_false (by omega)
              go_wp2
              go_roundw
              case rel => exact ⟨j + 1, by go_num, by omega, BR7.out⟩
              case measure => simp [intOf]; omega
        · obtain rfl : j = P.length := by omega
          obtain ⟨i0, hi, hz0, hz1, hz2⟩ := info_parts info5
          have OX := hide (own_below HO4.out hBr)
          have hbw : Below w.heap.size w wr := P4.out.trans (hBr.mono (by have := P4.out.size; omega))
          have s30 := Q3.out.size
          have hyb := arg_byte (HB.out wr hbw)
          have hxb := byte_mem R4.out.hbyte
          have HPB : Hid (∀ x ∈ P ++ Y, 0 ≤ x ∧ x < 256) := fun x hx => (List.mem_append.1 hx).elim (hxb x) (hyb x)
          have HYL := HY.out
          have B3R := hide (B34.out.trans (hBr.mono (by omega)))
          have hAB := HB.out wr hbw
          have R5w := hide (R4.out.below hBr)
          have s3r := B3R.out.size
          clear hBr hbw hyb hxb
          rcases hAB with ⟨rfl, rfl⟩ | ⟨gb, ob, rfl, hrow⟩
          · cases b with
            | none =>
              have BR5 := B3R
              have R5 : Hid (Row wr g4 0 P.length c4 (P ++ [])) := by rw [List.append_nil]; exact R5w.out
              have hrd := HRDF.out []
              have HRD : Hid (Calls Tryd.prog 18 #[.slice (some ⟨g4, 0, none⟩) P.length c4] wr fun e w' => RdFe w' ((k, fl, st, Z), ((9 + Z.length : Nat) : Int), 0) e ∧ Below wr.heap.size wr w') := by
                have h := read_any (some ⟨g4, 0, none⟩) P.length c4 (P ++ []) wr (Or.inr ⟨g4, 0, rfl, R5.out⟩) R5.out.hlen
                rw [hrd] at h
                exact h
              have hsz : (((9 + Z.length : Nat)) : Int) = (P.length : Int) := by have h9 : P.length = 9 + Z.length := HL.out; omega
              rw [hsz] at HRD
              clear hrd hsz
              go_wp2_with fail
              refine HRD.out.mono ?_
              rintro e w6 ⟨⟨a6, c6, x6, rfl, hA6, hE6⟩, hb6⟩
              simp only at hA6 hE6 ⊢
              obtain rfl : x6 = .nilIface := by
                rcases hE6 with ⟨_, h⟩ | ⟨h, _⟩
                · exact h
                · exact absurd rfl h
              have s5 := BR5.out.size
              have s6 := hb6.size
              obtain ⟨w7, hw7⟩ : ∃ w7, w7 = w6.alloc (.cells #[.int .i64 k, .int .i64 fl, .int .i64 st, .slice a6 Z.length c6] 43) := ⟨_, rfl⟩
              have hb7 : Below w6.heap.size w6 w7 := by rw [hw7]; exact (Below.refl _ _).alloc (Nat.le_refl _) _
              have s7 : w6.heap.size + 1 ≤ w7.heap.size := by rw [hw7]; simp
              have hx7 : w7.heap[w6.heap.size]? = some (.cells #[.int .i64 k, .int .i64 fl, .int .i64 st, .slice a6 Z.length c6] 43 (0, 0)) := by rw [hw7]; exact Array.getElem?_push_size
              have n0 : w7.cell? ⟨w6.heap.size, 0, none⟩ = some (.int .i64 k) := by simp [World.cell?, hx7]
              have n1 : w7.cell? ⟨w6.heap.size, 1, none⟩ = some (.int .i64 fl) := by simp [World.cell?, hx7]
              have n2 : w7.cell? ⟨w6.heap.size, 2, none⟩ = some (.int .i64 st) := by simp [World.cell?, hx7]
              have n3 : w7.cell? ⟨w6.heap.size, 3, none⟩ = some (.slice a6 Z.length c6) := by simp [World.cell?, hx7]
              have hb57 : Below w3.heap.size w3 w7 := BR5.out.trans ((hb6.trans (hb7.mono (by omega))).mono (by omega))
              have P7 := hide (P3.out.trans (hb57.mono (by have := P3.out.size; omega)))
              obtain ⟨⟨u0, u1⟩, u2, u3⟩ := HX.out w7 (Q3.out.trans (hb57.mono (by omega)))
              have HSF := hide (sframe_same k fl st a6 Z.length c6 a len cap Z w7 (hA6.below hb7) (HA.out _ P7.out))
              have HW7 := hide hw7
              clear hw7 hb7 hx7 hb6 hA6 hE6 HRD hb57
              go_wp2_with (rw [← HW7.out])
              refine HSF.out.mono ?_
              rintro e w8 ⟨rfl, hb8⟩
              have P8 := hide (P7.out.trans (hb8.mono (by have := P7.out.size; omega)))
              clear hb8 HSF n0 n1 n2 n3 u0 u1 u2 u3
              go_wp2_with fail
              go_meet
              exact P8.out
            | some ad =>
              go_wp2_with (at_builtin; refine wpList_append_own _ rfl _ _ 29 rfl w3.heap.size 5 i0 (.int .u8 0) 1 1 Tryd.underlying29 hi hz0 hz1 hz2 rfl (by decide) _ _ _ rfl OX.out ad 0 cb [] rfl rfl (fun q u h => by simp at h) (fun u h => by simp at h) ?c3 ?c4 ?c5 ?_)
              case c3 => unfold maxLen; omega
              case c4 => omega
              case c5 => omega
              intro v5 w5 hown5 hgrow5 _
              have BR5 := hide (B3R.out.grown hgrow5 (by omega) (fun q hq => (OX.out.lt q hq).1))
              obtain ⟨g5, c5, rfl, hc5⟩ := fr_shape2 hown5 (by omega)
              have R5 : Hid (Row w5 g5 0 (P.length + 0) c5 (P ++ [])) := row_of (by simp) (by simpa using hown5) HPB.out
              clear hown5 hgrow5
              have hrd := HRDF.out []
              have HRD : Hid (Calls Tryd.prog 18 #[.slice (some ⟨g5, 0, none⟩) (P.length + 0) c5] w5 fun e w' => RdFe w' ((k, fl, st, Z), ((9 + Z.length : Nat) : Int), 0) e ∧ Below w5.heap.size w5 w') := by
                have h := read_any (some ⟨g5, 0, none⟩) (P.length + 0) c5 (P ++ []) w5 (Or.inr ⟨g5, 0, rfl, R5.out⟩) R5.out.hlen
                rw [hrd] at h
                exact h
              have hsz : (((9 + Z.length : Nat)) : Int) = (P.length : Int) := by have h9 : P.length = 9 + Z.length := HL.out; omega
              rw [hsz] at HRD
              clear hrd hsz
              go_wp2_with fail
              refine HRD.out.mono ?_
              rintro e w6 ⟨⟨a6, c6, x6, rfl, hA6, hE6⟩, hb6⟩
              simp only at hA6 hE6 ⊢
              obtain rfl : x6 = .nilIface := by
                rcases hE6 with ⟨_, h⟩ | ⟨h, _⟩
                · exact h
                · exact absurd rfl h
              have s5 := BR5.out.size
              have s6 := hb6.size
              obtain ⟨w7, hw7⟩ : ∃ w7, w7 = w6.alloc (.cells #[.int .i64 k, .int .i64 fl, .int .i64 st, .slice a6 Z.length c6] 43) := ⟨_, rfl⟩
              have hb7 : Below w6.heap.size w6 w7 := by rw [hw7]; exact (Below.refl _ _).alloc (Nat.le_refl _) _
              have s7 : w6.heap.size + 1 ≤ w7.heap.size := by rw [hw7]; simp
              have hx7 : w7.heap[w6.heap.size]? = some (.cells #[.int .i64 k, .int .i64 fl, .int .i64 st, .slice a6 Z.length c6] 43 (0, 0)) := by rw [hw7]; exact Array.getElem?_push_size
              have n0 : w7.cell? ⟨w6.heap.size, 0, none⟩ = some (.int .i64 k) := by simp [World.cell?, hx7]
              have n1 : w7.cell? ⟨w6.heap.size, 1, none⟩ = some (.int .i64 fl) := by simp [World.cell?, hx7]
              have n2 : w7.cell? ⟨w6.heap.size, 2, none⟩ = some (.int .i64 st) := by simp [World.cell?, hx7]
              have n3 : w7.cell? ⟨w6.heap.size, 3, none⟩ = some (.slice a6 Z.length c6) := by simp [World.cell?, hx7]
              have hb57 : Below w3.heap.size w3 w7 := BR5.out.trans ((hb6.trans (hb7.mono (by omega))).mono (by omega))
              have P7 := hide (P3.out.trans (hb57.mono (by have := P3.out.size; omega)))
              obtain ⟨⟨u0, u1⟩, u2, u3⟩ := HX.out w7 (Q3.out.trans (hb57.mono (by omega)))
              have HSF := hide (sframe_same k fl st a6 Z.length c6 a len cap Z w7 (hA6.below hb7) (HA.out _ P7.out))
              have HW7 := hide hw7
              clear hw7 hb7 hx7 hb6 hA6 hE6 HRD hb57
              go_wp2_with (rw [← HW7.out])
              refine HSF.out.mono ?_
              rintro e w8 ⟨rfl, hb8⟩
              have P8 := hide (P7.out.trans (hb8.mono (by have := P7.out.size; omega)))
              clear hb8 HSF n0 n1 n2 n3 u0 u1 u2 u3
              go_wp2_with fail
              go_meet
              exact P8.out
          · have RW := hide hrow
            have hcp := hrow.hcap
            clear hrow
            go_wp2_with (at_builtin; refine wpList_append_own _ rfl _ _ 29 rfl w3.heap.size 5 i0 (.int .u8 0) 1 1 Tryd.underlying29 hi hz0 hz1 hz2 rfl (by decide) _ _ _ rfl OX.out ⟨gb, ob, none⟩ lb cb (Y.map (Value.int .u8)) rfl (by simp [HYL]) (fr_news RW.out) (fr_one Y) ?c3 ?c4 ?c5 ?_)
            case c3 => unfold maxLen; omega
            case c4 => omega
            case c5 => omega
            intro v5 w5 hown5 hgrow5 _
            have BR5 := hide (B3R.out.grown hgrow5 (by omega) (fun q hq => (OX.out.lt q hq).1))
            obtain ⟨g5, c5, rfl, hc5⟩ := fr_shape2 hown5 (by omega)
            have R5 : Hid (Row w5 g5 0 (P.length + lb) c5 (P ++ Y)) := row_of (by simp [HYL]) (by rw [List.map_append]; exact hown5) HPB.out
            clear hown5 hgrow5
            have hrd := HRDF.out Y
            have HRD : Hid (Calls Tryd.prog 18 #[.slice (some ⟨g5, 0, none⟩) (P.length + lb) c5] w5 fun e w' => RdFe w' ((k, fl, st, Z), ((9 + Z.length : Nat) : Int), 0) e ∧ Below w5.heap.size w5 w') := by
              have h := read_any (some ⟨g5, 0, none⟩) (P.length + lb) c5 (P ++ Y) w5 (Or.inr ⟨g5, 0, rfl, R5.out⟩) R5.out.hlen
              rw [hrd] at h
              exact h
            have hsz : (((9 + Z.length : Nat)) : Int) = (P.length : Int) := by have h9 : P.length = 9 + Z.length := HL.out; omega
            rw [hsz] at HRD
            clear hrd hsz
            go_wp2_with fail
            refine HRD.out.mono ?_
            rintro e w6 ⟨⟨a6, c6, x6, rfl, hA6, hE6⟩, hb6⟩
            simp only at hA6 hE6 ⊢
            obtain rfl : x6 = .nilIface := by
              rcases hE6 with ⟨_, h⟩ | ⟨h, _⟩
              · exact h
              · exact absurd rfl h
            have s5 := BR5.out.size
            have s6 := hb6.size
            obtain ⟨w7, hw7⟩ : ∃ w7, w7 = w6.alloc (.cells #[.int .i64 k, .int .i64 fl, .int .i64 st, .slice a6 Z.length c6] 43) := ⟨_, rfl⟩
            have hb7 : Below w6.heap.size w6 w7 := by rw [hw7]; exact (Below.refl _ _).alloc (Nat.le_refl _) _
            have s7 : w6.heap.size + 1 ≤ w7.heap.size := by rw [hw7]; simp
            have hx7 : w7.heap[w6.heap.size]? = some (.cells #[.int .i64 k, .int .i64 fl, .int .i64 st, .slice a6 Z.length c6] 43 (0, 0)) := by rw [hw7]; exact Array.getElem?_push_size
            have n0 : w7.cell? ⟨w6.heap.size, 0, none⟩ = some (.int .i64 k) := by simp [World.cell?, hx7]
            have n1 : w7.cell? ⟨w6.heap.size, 1, none⟩ = some (.int .i64 fl) := by simp [World.cell?, hx7]
            have n2 : w7.cell? ⟨w6.heap.size, 2, none⟩ = some (.int .i64 st) := by simp [World.cell?, hx7]
            have n3 : w7.cell? ⟨w6.heap.size, 3, none⟩ = some (.slice a6 Z.length c6) := by simp [World.cell?, hx7]
            have hb57 : Below w3.heap.size w3 w7 := BR5.out.trans ((hb6.trans (hb7.mono (by omega))).mono (by omega))
            have P7 := hide (P3.out.trans (hb57.mono (by have := P3.out.size; omega)))
            obtain ⟨⟨u0, u1⟩, u2, u3⟩ := HX.out w7 (Q3.out.trans (hb57.mono (by omega)))
            have HSF := hide (sframe_same k fl st a6 Z.length c6 a len cap Z w7 (hA6.below hb7) (HA.out _ P7.out))
            have HW7 := hide hw7
            clear hw7 hb7 hx7 hb6 hA6 hE6 HRD hb57
            go_wp2_with (rw [← HW7.out])
            refine HSF.out.mono ?_
            rintro e w8 ⟨rfl, hb8⟩
            have P8 := hide (P7.out.trans (hb8.mono (by have := P7.out.size; omega)))
            clear hb8 HSF n0 n1 n2 n3 u0 u1 u2 u3
            go_wp2_with fail
            go_meet
            exact P8.out
  case rest =>
    have PC := hide hcut
    have hyb := arg_byte (HB.out _ hcut)
    have HFR : Hid (∀ f u, rdF Y = (f, u, 0) → frmL f = Y.take u.toNat ∧ frmE f = 0 ∧ 9 ≤ u ∧ u ≤ Y.length ∧ u = 9 + f.2.2.2.length) := fun f u h => frm_rd Y f u hyb h
    obtain ⟨T, hT⟩ : ∃ T, T = rdF Y := ⟨_, rfl⟩
    have HRD : Hid (Calls Tryd.prog 18 #[.slice b lb cb] wc fun e w' => RdFe w' T e ∧ Below wc.heap.size wc w') := by rw [hT]; exact read_any b lb cb Y wc (HB.out _ hcut) HY.out
    rw [← hT] at HFR
    clear hT hyb hcut Q3 Q4 P3 P4 M4 B34 hq hqg HQ s1 s2 s3 s4 hsz0
    obtain ⟨⟨tk, tf, ts, TL⟩, tu, te⟩ := T
    go_wp2_with fail
    refine HRD.out.mono ?_
    rintro e w5 ⟨⟨a5, c5, x5, rfl, hA5, hE5⟩, hb5⟩
    simp only at hA5 hE5 ⊢
    have s5 := hb5.size
    have spc := PC.out.size
    obtain ⟨w6, hw6⟩ : ∃ w6, w6 = w5.alloc (.cells #[.int .i64 tk, .int .i64 tf, .int .i64 ts, .slice a5 TL.length c5] 43) := ⟨_, rfl⟩
    have hb6 : Below w5.heap.size w5 w6 := by rw [hw6]; exact (Below.refl _ _).alloc (Nat.le_refl _) _
    have s6 : w5.heap.size + 1 ≤ w6.heap.size := by rw [hw6]; simp
    have hx6 : w6.heap[w5.heap.size]? = some (.cells #[.int .i64 tk, .int .i64 tf, .int .i64 ts, .slice a5 TL.length c5] 43 (0, 0)) := by rw [hw6]; exact Array.getElem?_push_size
    have n0 : w6.cell? ⟨w5.heap.size, 0, none⟩ = some (.int .i64 tk) := by simp [World.cell?, hx6]
    have n1 : w6.cell? ⟨w5.heap.size, 1, none⟩ = some (.int .i64 tf) := by simp [World.cell?, hx6]
    have n2 : w6.cell? ⟨w5.heap.size, 2, none⟩ = some (.int .i64 ts) := by simp [World.cell?, hx6]
    have n3 : w6.cell? ⟨w5.heap.size, 3, none⟩ = some (.slice a5 TL.length c5) := by simp [World.cell?, hx6]
    have P6 := hide (PC.out.trans ((hb5.trans (hb6.mono (by omega))).mono (by omega)))
    have A6 := hide (hA5.below hb6)
    obtain ⟨bq, ⟨hq, hqg⟩, HQ⟩ : ∃ bq : Bool, ((∀ w, (binOp .eql 26 x5 .nilIface).run Tryd.prog w = .ok (.bool bq) w) ∧ (∀ w, (eqGuard BinOp.eql 26 (Operand.tmp 121) (Operand.const Value.nilIface) x5 Value.nilIface).run Tryd.prog w = .ok () w)) ∧ Hid (bq = true → te = 0) := by
      rcases hE5 with ⟨h1, rfl⟩ | ⟨h1, rfl⟩
      · exact ⟨true, ⟨fun w => by simp [go_sem], fun w => by simp [go_sem]⟩, fun _ => h1⟩
      · exact ⟨false, ⟨fun w => by simp [go_sem], fun w => by simp [go_sem]⟩, fun h => Bool.noConfusion h⟩
    have HW6 := hide hw6
    clear hw6 hb6 hx6 hb5 hA5 hE5 HRD
    go_upto_if 122 with (rw [← HW6.out])
    go_cut [] (fun wx => Below w.heap.size w wx)
    case first =>
      cases bq with
      | false =>
        go_wp2_with fail
        go_meet
        exact P6.out
      | true =>
        obtain rfl : te = 0 := HQ.out rfl
        obtain ⟨f1, f2, f3, f4, f5⟩ := HFR.out _ _ rfl
        obtain ⟨u, rfl⟩ : ∃ u : Nat, tu = (u : Int) := ⟨tu.toNat, by omega⟩
        rw [Int.toNat_natCast] at f1
        have hyl := HY.out
        have hul : u ≤ lb := by omega
        have h9u : 9 ≤ u := by omega
        have HE := hide (encode_any tk tf ts a5 TL.length c5 TL w6 A6.out rfl)
        have F1 := hide f1
        have F2 := hide f2
        clear f1 f2 f3 f4 f5 HFR hq hqg HQ
        go_wp2_with fail
        refine HE.out.mono ?_
        rintro e w7 ⟨⟨v7, x7, rfl, hm7⟩, hb7⟩
        obtain ⟨_, rfl, ho7⟩ : frmE (tk, tf, ts, TL) = 0 ∧ x7 = .nilIface ∧ w7.ownsRow w6.heap.size 5 1 v7 (frmL (tk, tf, ts, TL)).length ((frmL (tk, tf, ts, TL)).map (Value.int .u8)) := by
          rcases hm7 with h | ⟨h, _⟩
          · exact h
          · exact absurd F2.out h
        have s7 := hb7.size
        have P7 := hide (P6.out.trans (hb7.mono (by have := P6.out.size; omega)))
        have cv1 : (convert 29 9 v7).run Tryd.prog w7.drew = .ok (.string (strOfNums (Y.take u))) w7.drew := by
          have h := string_own rfl (own_below ho7 ((Below.refl _ _).drew))
          rw [F1.out] at h
          exact h
        rcases HB.out w7.drew (P7.out.trans ((Below.refl _ w7).drew.mono (by have := P7.out.size; omega))) with ⟨h, _⟩ | ⟨gb, ob, rfl, hrow⟩
        · omega
        have cv2 : (convert 29 9 (.slice (some ⟨gb, ob, none⟩) u cb)).run Tryd.prog w7.drew = .ok (.string (strOfNums (Y.take u))) w7.drew := string_arg (Or.inr ⟨gb, ob, rfl, hrow.take u hul⟩)
        have hcb := hrow.hcap
        have hcm := hrow.hmax
        unfold maxLen at hcm
        have i1 : (0 : Int) ≤ (u : Int) := by omega
        have i2 : (u : Int) ≤ (cb : Int) := by omega
        generalize strOfNums (Y.take u) = S at *
        clear hrow ho7 hm7 hb7 HE n0 n1 n2 n3
        go_wp2_with fail
        go_region
        all_goals go_wp2_with fail
        all_goals go_meet
        all_goals exact P7.out.trans ((Below.refl _ w7).drew.mono (by have := P7.out.size; omega))
    case rest =>
      have PD := hide hcut
      have HSP := hide (split_any 3 c lc cc X true _ (HC.out _ hcut) HXl.out hlc)
      clear hcut PC P6 A6 HFR hq hqg HQ n0 n1 n2 n3 s5 s6 spc HW6
      go_wp2_with fail
      refine HSP.out.mono ?_
      rintro e w8 ⟨g8, c8, A, C, rfl, hfr, hb8⟩
      have s8 := hb8.size
      have P8 := hide (PD.out.trans (hb8.mono (by have := PD.out.size; omega)))
      have HFRW : Hid (∀ wx, Below w8.heap.size w8 wx → FrRow wx g8 0 (nP lc) c8 (sfr 3 X true (nP lc)) A C) := fun wx hb => hfr.below hb
      have hc8 := hfr.hcap
      have hm8 := hfr.hmax
      unfold maxLen at hm8
      have hnp := nP_pos lc
      have HNL := hide (nP_le lc)
      obtain ⟨n, hn⟩ : ∃ n, n = nP lc := ⟨_, rfl⟩
      rw [← hn] at HFRW hc8 hnp HNL ⊢
      have HN := hide hn
      obtain ⟨i0, hi, hz0, hz1, hz2⟩ := info_parts info5
      clear hfr hb8 HSP hn
      go_wp2
      go_loopw [25, 27] (fun all i wr => ∃ j : Nat, i = .int .i64 j ∧ j ≤ n ∧ wr.ownsRow w8.heap.size 5 1 all (X.take (1024 * j)).length ((X.take (1024 * j)).map (Value.int .u8)) ∧ Below w8.heap.size w8 wr) (fun _ i _ => n - (intOf i).toNat)
      case atStart => exact ⟨0, rfl, Nat.zero_le _, by simpa using World.ownsRow_nil _ _ _ _, Below.refl _ _⟩
      case round =>
        obtain ⟨j, rfl, hj, hown, hBr⟩ := hrel
        by_cases hlt : j < n
        · have sBr := hBr.size
          have hpl : (pc X j).length ≤ 1024 := by rw [pc_len]; omega
          have htl : (X.take (1024 * j)).length ≤ lc := by rw [List.length_take, HXl.out]; omega
          have HST : Hid (X.take (1024 * (j + 1)) = X.take (1024 * j) ++ pc X j) := by show _ = _; unfold pc; rw [show 1024 * (j + 1) = 1024 * j + 1024 by omega, List.take_add]
          have hkk : (sfr 3 X true n j).1 = 1 ∨ (sfr 3 X true n j).1 = 2 := by
            by_cases e0 : j = 0
            · left; simp [sfr, e0]
            · right; simp [sfr, e0]
          have hbb : ∃ bb : Bool, (bits .and .i64 (sfr 3 X true n j).2.1 4 != 0) = bb ∧ ((j : Int) == (n : Int) - 1) = bb := by
            by_cases em : j + 1 = n
            · refine ⟨true, ?_, by simp; omega⟩
              have e1 : (sfr 3 X true n j).2.1 = (if j = 0 then 1 else 0) + 4 := by unfold sfr; simp [em]
              rw [e1]
              by_cases e0 : j = 0
              · rw [if_pos e0]; decide
              · rw [if_neg e0]; decide
            · refine ⟨false, ?_, by simp; omega⟩
              have e1 : (sfr 3 X true n j).2.1 = (if j = 0 then 1 else 0) := by unfold sfr; simp [em]
              rw [e1]
              by_cases e0 : j = 0
              · rw [if_pos e0]; decide
              · rw [if_neg e0]; decide
          have hok := sfr_ok X true n j
          have HEL : Hid (∀ wx, Below w8.heap.size w8 wx → ((wx.cell? ⟨g8, j * 4, none⟩ = some (.int .i64 (sfr 3 X true n j).1) ∧ wx.cell? ⟨g8, j * 4 + 1, none⟩ = some (.int .i64 (sfr 3 X true n j).2.1)) ∧ (wx.cell? ⟨g8, j * 4 + 2, none⟩ = some (.int .i64 3) ∧ wx.cell? ⟨g8, j * 4 + 3, none⟩ = some (.slice (A j) (pc X j).length (C j)))) ∧ Arg wx (A j) (pc X j).length (C j) (pc X j)) := fun wx hb => by
            have h := (HFRW.out wx hb).hel j hlt
            simp only [Nat.zero_add] at h
            exact ⟨⟨h.1, h.2.1⟩, h.2.2⟩
          have hfe : (sfr 3 X true n j) = ((sfr 3 X true n j).1, (sfr 3 X true n j).2.1, 3, pc X j) := rfl
          rw [hfe] at hok
          clear hfe
          generalize (sfr 3 X true n j).1 = kf at *
          generalize (sfr 3 X true n j).2.1 = ff at *
          obtain ⟨bb, hb1, hb2⟩ := hbb
          obtain ⟨⟨⟨q1, q2⟩, q3, q4⟩, q5⟩ := HEL.out wr hBr
          have HEN := hide (encode_any kf ff 3 (A j) (pc X j).length (C j) (pc X j) wr q5 rfl)
          have HOK := hide hok
          have HKK := hide hkk
          have HO := hide hown
          have BR := hide hBr
          have hi1 : (j : Int) < (n : Int) := by omega
          have hi0 : (0 : Int) ≤ (j : Int) := by omega
          clear hok hkk hown hBr q5
          go_wp2_with fail
          refine HEN.out.mono ?_
          rintro e w9 ⟨⟨v9, x9, rfl, hm9⟩, hb9⟩
          obtain rfl : x9 = .nilIface := by
            rcases hm9 with ⟨_, h, _⟩ | ⟨h, _⟩
            · exact h
            · exact absurd HOK.out h
          have s9 := hb9.size
          have B9 := hide (BR.out.trans (hb9.mono (by omega)))
          have O9 := hide (own_below HO.out hb9)
          have HCK := hide (check_12 kf ff (A j) (pc X j).length (C j) w9 HKK.out)
          obtain ⟨⟨⟨r1, r2⟩, r3, r4⟩, _⟩ := HEL.out w9 B9.out
          clear hm9 hb9 HEN q1 q2 q3 q4
          go_wp2_with fail
          refine HCK.out.mono ?_
          rintro e w10 ⟨rfl, hb10⟩
          have s10 := hb10.size
          have B10 := hide (B9.out.trans (hb10.mono (by have := B9.out.size; omega)))
          have OX := hide (own_below O9.out hb10)
          obtain ⟨⟨⟨t1, t2⟩, t3, t4⟩, t5⟩ := HEL.out w10 B10.out
          have T5 := hide t5
          have sB10 := B10.out.size
          clear hb10 HCK r1 r2 r3 r4 t5
          generalize hPP : pc X j = PP at *
          rcases T5.out with ⟨hz, rfl⟩ | ⟨gb, ob, hAj, hrow⟩
          · cases hAj : A j with
            | none =>
              rw [hAj] at t4
              simp only [List.length_nil] at t4
              have OX2 := OX
              rcases id OX.out.2 with ⟨hv, _⟩ | ⟨gx, cx, curx, hv, _, _, hcx, hmx, _⟩
              · subst hv
                go_wp2
                go_roundw
                case rel => exact ⟨j + 1, by go_num, by omega, by rw [HST.out]; simpa using OX2.out, B10.out⟩
                case measure => simp [intOf]; omega
              · subst hv
                unfold maxLen at hmx
                have OX3 : Hid (w10.ownsRow w8.heap.size 5 1 (.slice (some ⟨gx, 0, none⟩) (X.take (1024 * j)).length cx) (X.take (1024 * (j + 1))).length ((X.take (1024 * (j + 1))).map (Value.int .u8))) := hide (by rw [HST.out]; simpa using OX2.out)
                clear OX2 OX HO O9
                generalize (X.take (1024 * j)).length = LL at *
                have hcxi : (LL : Int) ≤ (cx : Int) := by omega
                go_wp2
                go_roundw
                case rel => exact ⟨j + 1, by go_num, by omega, OX3.out, B10.out⟩
                case measure => simp [intOf]; omega
            | some ad =>
              rw [hAj] at t4
              simp only [List.length_nil] at t4
              go_wp2_with (at_builtin; refine wpList_append_own _ rfl _ _ 29 rfl w8.heap.size 5 i0 (.int .u8 0) 1 1 Tryd.underlying29 hi hz0 hz1 hz2 rfl (by decide) _ _ _ rfl OX.out ad 0 (C j) [] rfl rfl (fun q u h => by simp at h) (fun u h => by simp at h) ?c3 ?c4 ?c5 ?_)
              case c3 => unfold maxLen; omega
              case c4 => omega
              case c5 => omega
              intro v11 w11 hown11 hgrow11 _
              have B11 := hide (B10.out.grown hgrow11 (by omega) (fun q hq => (OX.out.lt q hq).1))
              have O11 := hide hown11
              clear hown11 hgrow11
              go_wp2
              go_roundw
              case rel => exact ⟨j + 1, by go_num, by omega, by rw [HST.out]; simpa using O11.out, B11.out⟩
              case measure => simp [intOf]; omega
          · rw [hAj] at t4
            have RW := hide hrow
            have hcp := hrow.hcap
            clear hrow
            go_wp2_with (at_builtin; refine wpList_append_own _ rfl _ _ 29 rfl w8.heap.size 5 i0 (.int .u8 0) 1 1 Tryd.underlying29 hi hz0 hz1 hz2 rfl (by decide) _ _ _ rfl OX.out ⟨gb, ob, none⟩ PP.length (C j) (PP.map (Value.int .u8)) rfl (by simp) (fr_news RW.out) (fr_one PP) ?c3 ?c4 ?c5 ?_)
            case c3 => unfold maxLen; omega
            case c4 => omega
            case c5 => omega
            intro v11 w11 hown11 hgrow11 _
            have B11 := hide (B10.out.grown hgrow11 (by omega) (fun q hq => (OX.out.lt q hq).1))
            have O11 := hide hown11
            clear hown11 hgrow11
            go_wp2
            go_roundw
            case rel => exact ⟨j + 1, by go_num, by omega, by rw [HST.out]; simpa using O11.out, B11.out⟩
            case measure => simp [intOf]; omega
        · obtain rfl : j = n := by omega
          have hall : X.take (1024 * j) = X := List.take_of_length_le (by rw [HXl.out]; exact HNL.out)
          rw [hall] at hown
          have Pw := hide (P8.out.trans (hBr.mono (by have := P8.out.size; omega)))
          have cv1 := string_own rfl hown
          have cv2 := string_arg (HC.out _ Pw.out)
          have i1 : (0 : Int) < (j : Int) := by omega
          generalize strOfNums X = S at *
          clear hown hBr hall
          go_wp2
          go_ret
          exact ⟨by simp, Pw.out⟩
end Go.Proofs.YtdlaaollamgplacDoor
