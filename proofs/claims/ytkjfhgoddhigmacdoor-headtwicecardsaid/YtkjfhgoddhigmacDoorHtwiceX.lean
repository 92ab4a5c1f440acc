/-
  THE WALK of the Go function tolllaw5.HeadTwice. No claim by itself.
-/
import Derived.Test.YtkjfhgoddhigmacDoorTwoX
namespace Go.Proofs.YtkjfhgoddhigmacDoor
open Go.RowKit
set_option maxRecDepth 100000
theorem fit_st {max : Int} {AO AI : List (ByteArray × ByteArray)} (h0 : 0 ≤ max) (h1 : max ≤ 4096) (hO : Fit max AO) (hI : Fit max AI) : HFit ⟨max, max, max, AO, AI, [], false⟩ := ⟨hO, hI, ⟨h0, h1⟩, fun x hx => by simp at hx, fun h => absurd rfl h⟩
def mget : ByteArray × ByteArray := (⟨#[58, 109, 101, 116, 104, 111, 100]⟩, ⟨#[71, 69, 84]⟩)
theorem mget_enc : encL 4096 [] [mget] = ([129], []) := by decide +kernel
theorem mget_much : ¬ tooMuch [mget] := by
  rintro (h | h | ⟨f, hf, h⟩)
  · simp at h
  · exact absurd h (by decide +kernel)
  · simp at hf; subst hf; exact h (by unfold small; decide)
theorem mget_dec : dcF 4096 2 4096 [] [] [129] = ([mget], 0, 4096, []) := by
  have h := dc_all 4096 4096 4096 [] [] [mget] [] ⟨fun x hx => by simp at hx, Or.inl ⟨rfl, rfl, rfl⟩⟩ (Fit.nil (by decide) (by decide)) (Fit.nil (by decide) (by decide)) (by decide) (not_much mget_much).2.2 (by decide) (not_much mget_much).2.1
  rw [mget_enc] at h
  exact h
set_option maxHeartbeats 8000000 in
theorem htwice_ok (a : Option Addr) (len cap : Nat) (L : List (ByteArray × ByteArray)) (w : World) (hal : Alw w) (hF : FArg w a len cap L) (hl : len ≤ 4611686018427387904) (hZ : ∀ t, (L.getD t fnone).1.size + (L.getD t fnone).2.size ≤ 281474976710656) :
    Calls Tryd.prog 4 #[.slice a len cap] w fun e w' => e = .returned (.bool true) ∧ Below w.heap.size w w' := by
  have hlen := hF.len
  have hZ2 : ∀ f ∈ L, f.1.size + f.2.size ≤ 281474976710656 := fun f hf => by
    obtain ⟨i, hi, rfl⟩ := List.getElem_of_mem hf
    have := hZ i
    simpa [List.getD, List.getElem?_eq_getElem hi] using this
  have HA : Hid (∀ wx, Below w.heap.size w wx → FArg wx a len cap L) := fun wx hb => hF.below hb
  have HZ := hide hZ2
  have HLN := hide hlen
  have hn1 := hnew_any 4096 w hal
  have HAL := hide hal
  clear hZ hZ2 hF hlen hal
  go_enter Tryd.func4, Tryd.ntmps4
  go_wp2_with fail
  refine hn1.mono ?_
  rintro e w1 ⟨⟨_, _, c1, S1, rfl, hC1, hS1⟩ | ⟨hno, _⟩, hb1⟩
  · have hn2 := hnew_any 4096 w1 (HAL.out.below hb1)
    have HC1 := hide hC1
    have HS1 := hide hS1
    have s1 := hb1.size
    clear hn1 hC1 hS1
    go_wp2_with fail
    refine hn2.mono ?_
    rintro e w2 ⟨⟨_, _, c2, S2, rfl, hC2, hS2⟩ | ⟨hno, _⟩, hb2⟩
    · have T2 : Hid (Two w.heap.size w2 c1 ⟨4096, 4096, 4096, [], [], [], false⟩ S1 c2 ⟨4096, 4096, 4096, [], [], [], false⟩ S2) :=
        ⟨HC1.out.below hb2, hC2, fun k h1 h2 => by have h3 := HC1.out.hlt k h1; have h4 := hS2 k h2; omega, HS1.out, fun k hk => by have := hS2 k hk; omega, by have := hb2.size; omega⟩
      have B2 := hide (hb1.trans (hb2.mono s1))
      have s2 := hb2.size
      clear hn2 hC2 hS2 HC1 HS1 hb1 hb2
      obtain ⟨w3, hw3⟩ : ∃ w3, w3 = w2.alloc (.cells #[.string ⟨#[58, 109, 101, 116, 104, 111, 100]⟩, .string ⟨#[71, 69, 84]⟩] 33) := ⟨_, rfl⟩
      have hb3 : Below w2.heap.size w2 w3 := by rw [hw3]; exact (Below.refl _ _).alloc (Nat.le_refl _) _
      have hx3 : w3.heap[w2.heap.size]? = some (.cells #[.string mget.1, .string mget.2] 33 (0, 0)) := by rw [hw3]; exact Array.getElem?_push_size
      have s3 := hb3.size
      have T3 := hide (T2.out.below hb3)
      have B3 := hide (B2.out.trans (hb3.mono (by omega)))
      have hlit : ∀ wx, Off S1 w3 wx → FArg wx (some ⟨w2.heap.size, 0, none⟩) 1 1 [mget] := fun wx ho => by
        have hx := (ho.block w2.heap.size (lt_of_heap hx3) (fun h => by have := T2.out.h1.hlt _ h; omega)).trans hx3
        refine Or.inr ⟨_, 0, rfl, rfl, by decide, by decide, fun t ht => ?_, fun t ht => ?_⟩
        · obtain rfl : t = 0 := by omega
          exact (cell_at hx 0).trans rfl
        · obtain rfl : t = 0 := by omega
          exact (cell_at hx 1).trans rfl
      have he := hencode_yes c1 ⟨4096, 4096, 4096, [], [], [], false⟩ S1 (some ⟨w2.heap.size, 0, none⟩) 1 1 [mget] w3 T3.out.h1 (HFit.new (by decide) (by decide)) hlit mget_much
      simp only [mget_enc, show szL [] = ([] : List Int) from rfl, List.nil_append, List.length_singleton] at he
      have HX3 := hide hx3
      clear hlit hx3 hb3 T2 B2
      go_wp2_with fail
      rw [← hw3]
      clear hw3
      refine he.mono ?_
      rintro e w4 ⟨v4, rfl, hown4, hoff4, S1', hS4, hN4, hC4⟩
      have T4 := hide (T3.out.left hoff4 hC4 hS4)
      have B4 := hide (T3.out.belowL B3.out hoff4)
      have s4 := hoff4.size
      have hq4 : ∀ k, v4.ownBlock = some k → ¬ S2 k := fun k hk h => by have h1 := (hown4.lt k hk).1; have h2 := T3.out.h2.hlt k h; omega
      obtain ⟨g4, cap4, rfl⟩ := shape_n hown4 (Nat.le_refl _)
      obtain ⟨a4, cap4', e4, hAS⟩ := argS_of (S := S2) (Z := [129]) rfl hown4 (by intro x hx; simp at hx; omega) hq4
      cases e4
      have hd := hdecode_any c2 ⟨4096, 4096, 4096, [], [], [], false⟩ S2 (some ⟨g4, 0, none⟩) 1 cap4 [129] w4 T4.out.h2 (HFit.new (by decide) (by decide)) hAS rfl (by decide)
      simp only [show (1 : Nat) + 1 = 2 from rfl, mget_dec] at hd
      have HO4 := hide hown4
      have HQ4 := hide hq4
      have HCE : 1 ≤ cap4 := by have := (slen_own hown4); obtain ⟨_, _, _, e, h⟩ := this; cases e; exact h
      clear he hown4 hoff4 hS4 hN4 hC4 hAS hq4 T3 B3
      go_wp2_with fail
      refine hd.mono ?_
      rintro e w5 ⟨S2', hT5, ho5, hS5⟩
      rcases hT5 with ⟨h, _⟩ | ⟨_, _, v5, rfl, hown5, hN5, hC5, _⟩ | ⟨_, h, _⟩
      · cases h
      · have T5 := hide (T4.out.right ho5 hC5 hS5)
        have B5 := hide (T4.out.belowR B4.out ho5)
        have s5 := ho5.size
        have hc5 : w5.cell? ⟨g4, 0, none⟩ = some (.int .u8 129) := by
          have h1 := own_off HO4.out ho5 HQ4.out
          have h2 := (row_of (L := [129]) rfl h1 (by intro x hx; simp at hx; omega)).hcell 0 (by decide)
          simpa using h2
        obtain ⟨a5, cap5, rfl⟩ := dslen_own hown5
        clear hd hown5 hN5 hC5 ho5 hS5 T4 B4 HO4 HQ4
        by_cases hm : tooMuch L
        · have he2 := hencode_no c1 a len cap L w5 (HA.out w5 B5.out) hl HZ.out hm
          clear hm
          go_wp2_with fail
          refine he2.mono ?_
          rintro e w6 ⟨rfl, hb6⟩
          have B6 := hide (B5.out.trans (hb6.mono B5.out.size))
          clear he2 hb6
          go_wp2
          go_ret
          exact ⟨rfl, B6.out⟩
        · obtain ⟨m1, m2, m3⟩ := not_much hm
          have hf0 : Fit 4096 ([] : List (ByteArray × ByteArray)) := Fit.nil (by decide) (by decide)
          have hf1 : Fit 4096 (encL 4096 [] L).2 := Fit.encL L hf0
          have hf2 : Fit 4096 (encL 4096 (encL 4096 [] L).2 L).2 := Fit.encL L hf1
          have hdx := dc_all 4096 4096 4096 [] [] L [] ⟨fun x hx => by simp at hx, Or.inl ⟨rfl, rfl, rfl⟩⟩ hf0 hf0 (by decide) m3 m1 m2
          have hdy := dc_all 4096 4096 4096 (encL 4096 [] L).2 (encL 4096 [] L).2 L [] ⟨fun x hx => by simp at hx, Or.inl ⟨rfl, rfl, rfl⟩⟩ hf1 hf1 (by decide) m3 m1 m2
          have hth := enc_there L [] (by simp [weight]; unfold weight at m2; omega)
          have hfo := (enc_found 4096 (encL 4096 [] L).2 (by have := hth.1; simp at this; omega) L hth.2.2).2
          have hxl := encL_len 4096 L [] m3
          have hyl := encL_len 4096 L (encL 4096 [] L).2 m3
          have he2 := hencode_yes c1 ⟨4096, 4096, 4096, [], [], [], false⟩ S1' a len cap L w5 T5.out.h1 (HFit.new (by decide) (by decide)) (fun wx ho => HA.out wx (T5.out.belowL B5.out ho)) hm
          have hF3 : HFit ⟨4096, 4096, 4096, (encL 4096 [] L).2, [], [], false⟩ := fit_st (by decide) (by decide) hf1 hf0
          have he3 := fun S w h hA => hencode_yes c1 ⟨4096, 4096, 4096, (encL 4096 [] L).2, [], [], false⟩ S a len cap L w h hF3 hA hm
          have bx := enc_bytes (st := ⟨4096, 4096, 4096, [], [], [], false⟩) (HFit.new (by decide) (by decide)) L
          have by' := enc_bytes hF3 L
          simp only [show szL [] = ([] : List Int) from rfl, List.nil_append] at he2 he3 hdx hdy bx by'
          generalize encL 4096 (encL 4096 [] L).2 L = YA at *
          generalize encL 4096 [] L = XA at *
          obtain ⟨X, A1⟩ := XA
          obtain ⟨Y, A2⟩ := YA
          simp only at he2 he3 hdx hdy bx by' hF3 hfo hxl hyl hf1 hf2
          have HDX := hide hdx
          have HDY := hide hdy
          have HE3 := hide he3
          have HFO := hide hfo
          have HBX := hide bx
          have HBY := hide by'
          have HMU := hide hm
          have M3 := hide m3
          clear hth m3 hdx hdy he3 bx by' hfo hm
          go_wp2_with fail
          refine he2.mono ?_
          rintro e w6 ⟨v6, rfl, hown6, hoff6, S3, hS6, hN6, hC6⟩
          have T6 := hide (T5.out.left hoff6 hC6 hS6)
          have B6 := hide (T5.out.belowL B5.out hoff6)
          have s6 := hoff6.size
          have HO6 := hide hown6
          have HN6 := hide hN6
          have hwt := hweight_arg a len cap L w6 (HA.out w6 B6.out) (by omega)
          have dwt : decide ((2000 : Int) < (weight L : Int)) = false := by simp; omega
          clear he2 hown6 hoff6 hS6 hN6 hC6 B5
          generalize weight L = wl at *
          go_wp2_with fail
          refine hwt.mono ?_
          rintro e w7 ⟨rfl, hb7⟩
          have T7 := hide (T6.out.below hb7)
          have B7 := hide (B6.out.trans (hb7.mono B6.out.size))
          have s7 := hb7.size
          have HO7 := hide (own_below HO6.out hb7)
          have he4 := HE3.out S3 w7 T7.out.h1 (fun wx ho => HA.out wx (T7.out.belowL B7.out ho))
          clear hwt hb7 HO6 B6 HE3
          go_wp2_with fail
          refine he4.mono ?_
          rintro e w8 ⟨v8, rfl, hown8, hoff8, S4, hS8, hN8, hC8⟩
          have T8 := hide (T7.out.left hoff8 hC8 hS8)
          have B8 := hide (T7.out.belowL B7.out hoff8)
          have s8 := hoff8.size
          have hx8 := own_off HO7.out hoff8 HN6.out
          have hq6 : ∀ k, v6.ownBlock = some k → ¬ S2' k := fun k hk h => by have h1 := (hx8.lt k hk).1; have h2 := T5.out.h2.hlt k h; omega
          obtain ⟨a6, cap6, rfl, hA6⟩ := argS_of (S := S2') rfl hx8 HBX.out hq6
          have hd9 := hdecode_any c2 ⟨4096, 4096, 4096, [], [], [], false⟩ S2' a6 X.length cap6 X w8 T8.out.h2 (HFit.new (by decide) (by decide)) hA6 rfl (by omega)
          simp only [HDX.out] at hd9
          have HO8 := hide hown8
          clear he4 hown8 hoff8 hS8 hN8 hC8 HO7 HN6 B7 hx8 hq6 hA6 T6
          go_wp2_with fail
          refine hd9.mono ?_
          rintro e w9 ⟨S5, hT9, ho9, hS9⟩
          rcases hT9 with ⟨h, _⟩ | ⟨_, _, v9, rfl, hown9, hN9, hC9, _⟩ | ⟨_, h, _⟩
          · cases h
          · have T9 := hide (T8.out.right ho9 hC9 hS9)
            have B9 := hide (T8.out.belowR B8.out ho9)
            have s9 := ho9.size
            have hy9 := own_off HO8.out ho9 (fun k hk h => by have h1 := (HO8.out.lt k hk).1; have h2 := T7.out.h2.hlt k h; omega)
            have hq8 : ∀ k, v8.ownBlock = some k → ¬ S5 k := fun k hk h => by
              have h1 := (HO8.out.lt k hk)
              rcases hS9 k h with h2 | h2
              · have h3 := T7.out.h2.hlt k h2; omega
              · omega
            obtain ⟨a8, cap8, rfl, hA8⟩ := argS_of (S := S5) rfl hy9 HBY.out hq8
            have hd10 := hdecode_any c2 ⟨4096, 4096, 4096, [], A1, [], false⟩ S5 a8 Y.length cap8 Y w9 T9.out.h2 (fit_st (by decide) (by decide) hf0 hf1) hA8 rfl (by omega)
            simp only [HDY.out] at hd10
            have HO9 := hide hown9
            have HN9 := hide hN9
            clear hd9 hown9 hN9 hC9 ho9 hS9 hy9 hq8 hA8 HO8 B8 T7
            go_wp2_with fail
            refine hd10.mono ?_
            rintro e w10 ⟨S6, hT10, ho10, hS10⟩
            rcases hT10 with ⟨h, _⟩ | ⟨_, _, v10, rfl, hown10, hN10, hC10, _⟩ | ⟨_, h, _⟩
            · cases h
            · have B10 := hide (T9.out.belowR B9.out ho10)
              have hp := own_off HO9.out ho10 HN9.out
              have hll := HLN.out
              obtain ⟨a9, cap9, rfl, hF9⟩ := farg_of hll (by rw [← hll]; exact hp)
              obtain ⟨a10, cap10, rfl, hF10⟩ := farg_of hll (by rw [← hll]; exact hown10)
              have hs1 := sfields_any a9 a len cap9 cap L w10 hF9 (HA.out w10 B10.out) hl
              have HF10 := hide hF10
              have hY2 : Y.length = len := HFO.out.trans hll
              clear hd10 hown10 hN10 hC10 ho10 hS10 hp hF9 hF10 HO9 HN9 B9 hll
              go_wp2_with fail
              refine hs1.mono ?_
              rintro e w11 ⟨rfl, hb11⟩
              have B11 := hide (B10.out.trans (hb11.mono B10.out.size))
              have hs2 := sfields_any a10 a len cap10 cap L w11 (HF10.out.below hb11) (HA.out w11 B11.out) hl
              clear hs1 hb11 HF10
              go_wp2_with fail
              refine hs2.mono ?_
              rintro e w12 ⟨rfl, hb12⟩
              have B12 := hide (B11.out.trans (hb12.mono B11.out.size))
              have hl40 : len ≤ 40 := by have := HLN.out; omega
              have dl : decide ((len : Int) ≤ 2 * (len : Int)) = true := by simp; omega
              clear hs2 hb12
              go_wp2
              go_ret
              exact ⟨rfl, B12.out⟩
            · exact absurd rfl h
          · exact absurd rfl h
      · exact absurd rfl h
    · exact absurd (by decide) hno
  · exact absurd (by decide) hno
end Go.Proofs.YtkjfhgoddhigmacDoor
