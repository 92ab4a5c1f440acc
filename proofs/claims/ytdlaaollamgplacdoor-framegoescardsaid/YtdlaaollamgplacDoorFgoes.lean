/-
  FRAMEGOES: the walk of the law. No claim by itself.
-/
import Derived.Test.YtdlaaollamgplacDoorSfr
namespace Go.Proofs.YtdlaaollamgplacDoor
open Go.RowKit
set_option maxRecDepth 100000
/-- tollref1.Frame, whole. -/
theorem rframe_any (k fl st : Int) (a : Option Addr) (len cap : Nat) (Z : List Int) (w : World) (hA : Arg w a len cap Z) (hZ : Z.length = len) :
    Calls Tryd.prog 14 #[.agg #[.int .i64 k, .int .i64 fl, .int .i64 st, .slice a len cap]] w fun e w' => (∃ v x, e = .returned (.tuple #[v, .int .i64 x]) ∧ FrMade w w' (k, fl, st, Z) v x) ∧ Below w.heap.size w w' := by
  by_cases h : frmE (k, fl, st, Z) = 0
  · exact rframe_good k fl st a len cap Z w hA hZ h
  · exact rframe_bad k fl st a len cap Z w hZ h
/-- An error as it is told. -/
def ErrIs (k : Int) (x : Value) : Prop := (k = 0 ∧ x = .nilIface) ∨ (k ≠ 0 ∧ x = .iface 73 (.int .i64 k))
theorem error_is (k : Int) (x : Value) (w : World) (hg : Laid w) (h : ErrIs k x) : Calls Tryd.prog 16 #[x, .int .i64 k] w fun e w' => e = .returned (.bool true) ∧ Below w.heap.size w w' := by
  rcases h with ⟨rfl, rfl⟩ | ⟨_, rfl⟩
  · refine (error_nil 0 w).mono ?_
    rintro e w' ⟨rfl, rfl⟩
    exact ⟨rfl, Below.refl _ _⟩
  · refine (error_hit k k w hg).mono ?_
    rintro e w' ⟨rfl, hb⟩
    exact ⟨by simp, hb⟩
/-- What was made, as a text. -/
theorem made_text {w w' : World} {f : Frm} {v x : Value} (h : EncMade w w' f v x) : ∃ S, S = strOfNums (if frmE f = 0 then frmL f else []) ∧ ∀ wx, Below w'.heap.size w' wx → (convert 29 9 v).run Tryd.prog wx = .ok (.string S) wx := by
  refine ⟨_, rfl, fun wx hb => ?_⟩
  rcases h with ⟨h1, _, h3⟩ | ⟨h1, _, rfl⟩
  · rw [if_pos h1]; exact string_own rfl (own_below h3 hb)
  · rw [if_neg h1]; exact run_convert_bytes_nil (P := Tryd.prog) wx 29 5 Tryd.underlying29 Tryd.underlying5 0 0 9 Tryd.underlying9
theorem rmade_text {w w' : World} {f : Frm} {v : Value} {x : Int} (h : FrMade w w' f v x) : x = frmE f ∧ ∀ wx, Below w'.heap.size w' wx → (convert 29 9 v).run Tryd.prog wx = .ok (.string (strOfNums (if frmE f = 0 then frmL f else []))) wx := by
  rcases h with ⟨h1, h2, h3⟩ | ⟨h1, h2, rfl⟩
  · refine ⟨by rw [h2, h1], fun wx hb => ?_⟩
    rw [if_pos h1]; exact string_own rfl (own_below h3 hb)
  · refine ⟨h2, fun wx hb => ?_⟩
    rw [if_neg h1]; exact run_convert_bytes_nil (P := Tryd.prog) wx 29 5 Tryd.underlying29 Tryd.underlying5 0 0 9 Tryd.underlying9
theorem made_err {w w' : World} {f : Frm} {v x : Value} (h : EncMade w w' f v x) : ErrIs (frmE f) x := by
  rcases h with ⟨h1, h2, _⟩ | ⟨h1, h2, _⟩
  · exact Or.inl ⟨h1, h2⟩
  · exact Or.inr ⟨h1, h2⟩
set_option maxHeartbeats 8000000 in
theorem fgoes_ok (k fl st : Int) (a : Option Addr) (len cap : Nat) (Z : List Int) (b : Option Addr) (lb cb : Nat) (Y : List Int) (w : World) (hg : Laid w) (hA : Arg w a len cap Z) (hZ : Z.length = len) (hB : Arg w b lb cb Y) (hY : Y.length = lb) :
    Calls Tryd.prog 5 #[.agg #[.int .i64 k, .int .i64 fl, .int .i64 st, .slice a len cap], .slice b lb cb] w fun e w' => e = .returned (.bool true) ∧ Below w.heap.size w w' := by
  obtain ⟨w0, hw0⟩ : ∃ w0, w0 = w.alloc (.cells #[.int .i64 k, .int .i64 fl, .int .i64 st, .slice a len cap] 43) := ⟨_, rfl⟩
  have hb0 : Below w.heap.size w w0 := by rw [hw0]; exact (Below.refl _ _).alloc (Nat.le_refl _) _
  have hsz0 : w0.heap.size = w.heap.size + 1 := by rw [hw0]; simp
  have hx : w0.heap[w.heap.size]? = some (.cells #[.int .i64 k, .int .i64 fl, .int .i64 st, .slice a len cap] 43 (0, 0)) := by rw [hw0]; exact Array.getElem?_push_size
  have HX : Hid (∀ wx, Below w0.heap.size w0 wx → (wx.cell? ⟨w.heap.size, 0, none⟩ = some (.int .i64 k) ∧ wx.cell? ⟨w.heap.size, 1, none⟩ = some (.int .i64 fl)) ∧ (wx.cell? ⟨w.heap.size, 2, none⟩ = some (.int .i64 st) ∧ wx.cell? ⟨w.heap.size, 3, none⟩ = some (.slice a len cap))) := fun wx hb => by
    have hy : wx.heap[w.heap.size]? = some (.cells #[.int .i64 k, .int .i64 fl, .int .i64 st, .slice a len cap] 43 (0, 0)) := (hb.block _ (by omega)).trans hx
    refine ⟨⟨?_, ?_⟩, ?_, ?_⟩ <;> simp [World.cell?, hy]
  have HG : Hid (∀ wx, Below w.heap.size w wx → Laid wx) := fun wx hb => hg.below hb
  have HA : Hid (∀ wx, Below w.heap.size w wx → Arg wx a len cap Z) := fun wx hb => hA.below hb
  have HB : Hid (∀ wx, Below w.heap.size w wx → Arg wx b lb cb Y) := fun wx hb => hB.below hb
  have HZ := hide hZ
  have HY := hide hY
  have HS0 := hide hsz0
  have HW0 := hide hw0
  have B0 := hide hb0
  obtain ⟨T, hT⟩ : ∃ T, T = rdF Y := ⟨_, rfl⟩
  have RR : Hid (∀ wx, Arg wx b lb cb Y → Calls Tryd.prog 17 #[.slice b lb cb] wx fun e w' => RdFr w' T e ∧ Below wx.heap.size wx w') := fun wx h => by rw [hT]; exact rrdframe_any b lb cb Y wx h hY
  have RD : Hid (∀ wx, Arg wx b lb cb Y → Calls Tryd.prog 18 #[.slice b lb cb] wx fun e w' => RdFe w' T e ∧ Below wx.heap.size wx w') := fun wx h => by rw [hT]; exact read_any b lb cb Y wx h hY
  clear hA hB hx hZ hY hg hw0 hb0 hsz0 hT
  obtain ⟨⟨tk, tf, ts, TL⟩, tu, te⟩ := T
  go_enter Tryd.func5, Tryd.ntmps5
  go_wp2_with fail
  rw [← HW0.out]
  refine (rframe_any k fl st a len cap Z w0 (HA.out _ B0.out) HZ.out).mono ?_
  rintro e w1 ⟨⟨v1, x1, rfl, hm1⟩, hb1⟩
  obtain ⟨rfl, ht1⟩ := rmade_text hm1
  have T1 := hide ht1
  have s0 := HS0.out
  have s1 := hb1.size
  have B1 := hide hb1
  have P1 := hide (B0.out.trans (hb1.mono (by omega)))
  obtain ⟨⟨c0, c1⟩, c2, c3⟩ := HX.out w1 hb1
  clear ht1 hm1 hb1
  go_wp2_with fail
  refine (encode_any k fl st a len cap Z w1 (HA.out _ P1.out) HZ.out).mono ?_
  rintro e w2 ⟨⟨v2, x2, rfl, hm2⟩, hb2⟩
  obtain ⟨S, hS, ht2⟩ := made_text hm2
  have E2 := hide (made_err hm2)
  rw [← hS] at T1
  have T2 := hide ht2
  have s2 := hb2.size
  have T1' := hide (fun wx (hb : Below w2.heap.size w2 wx) => T1.out wx (hb2.trans (hb.mono (by omega)) |>.mono (by omega)))
  have P2 := hide (P1.out.trans (hb2.mono (by omega)))
  clear ht2 hm2 hb2 hS c0 c1 c2 c3 T1
  generalize frmE (k, fl, st, Z) = fe at *
  go_wp2_with fail
  refine (error_is fe x2 w2 (HG.out _ P2.out) E2.out).mono ?_
  rintro e w3 ⟨rfl, hb3⟩
  have s3 := hb3.size
  have P3 := hide (P2.out.trans (hb3.mono (by omega)))
  have B3 := hide hb3
  clear hb3 E2
  go_wp2_with fail
  refine (RR.out w3 (HB.out _ P3.out)).mono ?_
  rintro e w4 ⟨⟨a4, c4, rfl, hA4⟩, hb4⟩
  simp only at hA4 ⊢
  have s4 := hb4.size
  have P4 := hide (P3.out.trans (hb4.mono (by omega)))
  have B4 := hide (B3.out.trans (hb4.mono (by omega)))
  have A4 := hide hA4
  clear hb4 hA4 B3 RR
  obtain ⟨w5, hw5⟩ : ∃ w5, w5 = w4.alloc (.cells #[.int .i64 tk, .int .i64 tf, .int .i64 ts, .slice a4 TL.length c4] 43) := ⟨_, rfl⟩
  have hb5 : Below w4.heap.size w4 w5 := by rw [hw5]; exact (Below.refl _ _).alloc (Nat.le_refl _) _
  have s5 : w5.heap.size = w4.heap.size + 1 := by rw [hw5]; simp
  have hx5 : w5.heap[w4.heap.size]? = some (.cells #[.int .i64 tk, .int .i64 tf, .int .i64 ts, .slice a4 TL.length c4] 43 (0, 0)) := by rw [hw5]; exact Array.getElem?_push_size
  have P5 := hide (P4.out.trans (hb5.mono (by omega)))
  have B5 := hide (B4.out.trans (hb5.mono (by omega)))
  have A5 := hide (A4.out.below hb5)
  have HX5 := hide hx5
  have HW5 := hide hw5
  have HS5 := hide s5
  have s45 : w4.heap.size + 1 ≤ w5.heap.size := by omega
  clear hb5 hx5 hw5 A4 B4 s5
  go_wp2_with fail
  rw [← HW5.out]
  refine (RD.out w5 (HB.out _ P5.out)).mono ?_
  rintro e w6 ⟨⟨a6, c6, x6, rfl, hA6, hE6⟩, hb6⟩
  simp only at hA6 hE6 ⊢
  have s5 := HS5.out
  have s6 := hb6.size
  have P6 := hide (P5.out.trans (hb6.mono (by omega)))
  have B6 := hide (B5.out.trans (hb6.mono (by omega)))
  have A6 := hide hA6
  have E6 : Hid (ErrIs te x6) := hE6
  have A56 := hide (A5.out.below hb6)
  have HX6 := hide ((hb6.block _ (by omega)).trans HX5.out)
  obtain ⟨w7, hw7⟩ : ∃ w7, w7 = w6.alloc (.cells #[.int .i64 tk, .int .i64 tf, .int .i64 ts, .slice a6 TL.length c6] 43) := ⟨_, rfl⟩
  have hb7 : Below w6.heap.size w6 w7 := by rw [hw7]; exact (Below.refl _ _).alloc (Nat.le_refl _) _
  have s7 : w7.heap.size = w6.heap.size + 1 := by rw [hw7]; simp
  have hx7 : w7.heap[w6.heap.size]? = some (.cells #[.int .i64 tk, .int .i64 tf, .int .i64 ts, .slice a6 TL.length c6] 43 (0, 0)) := by rw [hw7]; exact Array.getElem?_push_size
  have P7 := hide (P6.out.trans (hb7.mono (by omega)))
  have B7 := hide (B6.out.trans (hb7.mono (by omega)))
  have A67 := hide (A6.out.below hb7)
  have A57 := hide (A56.out.below hb7)
  have HX57 := hide ((hb7.block _ (by omega)).trans HX6.out)
  have HX7 := hide hx7
  have HW7 := hide hw7
  have HS7 := hide s7
  have s67 : w6.heap.size + 1 ≤ w7.heap.size := by omega
  clear hb7 hx7 hw7 A6 B6 s7 hb6 hA6 hE6 B5 A5 A56 HX5 HX6 RD HS5 s5 HW5
  go_wp2_with fail
  rw [← HW7.out]
  refine (error_is te x6 w7 (HG.out _ P7.out) E6.out).mono ?_
  rintro e w8 ⟨rfl, hb8⟩
  have s7 := HS7.out
  have s8 := hb8.size
  have P8 := hide (P7.out.trans (hb8.mono (by omega)))
  have B8 := hide (B7.out.trans (hb8.mono (by omega)))
  have A68 := hide (A67.out.below hb8)
  have A58 := hide (A57.out.below hb8)
  have y5 := (hb8.block _ (by omega)).trans HX57.out
  have y7 := (hb8.block _ (by omega)).trans HX7.out
  have m0 : w8.cell? ⟨w4.heap.size, 0, none⟩ = some (.int .i64 tk) := by simp [World.cell?, y5]
  have m1 : w8.cell? ⟨w4.heap.size, 1, none⟩ = some (.int .i64 tf) := by simp [World.cell?, y5]
  have m2 : w8.cell? ⟨w4.heap.size, 2, none⟩ = some (.int .i64 ts) := by simp [World.cell?, y5]
  have m3 : w8.cell? ⟨w4.heap.size, 3, none⟩ = some (.slice a4 TL.length c4) := by simp [World.cell?, y5]
  have n0 : w8.cell? ⟨w6.heap.size, 0, none⟩ = some (.int .i64 tk) := by simp [World.cell?, y7]
  have n1 : w8.cell? ⟨w6.heap.size, 1, none⟩ = some (.int .i64 tf) := by simp [World.cell?, y7]
  have n2 : w8.cell? ⟨w6.heap.size, 2, none⟩ = some (.int .i64 ts) := by simp [World.cell?, y7]
  have n3 : w8.cell? ⟨w6.heap.size, 3, none⟩ = some (.slice a6 TL.length c6) := by simp [World.cell?, y7]
  clear y5 y7 hb8 A67 A57 HX57 HX7 HW7 HS7 s7 E6
  go_wp2_with fail
  refine (sframe_same tk tf ts a6 TL.length c6 a4 TL.length c4 TL w8 A68.out A58.out).mono ?_
  rintro e w9 ⟨rfl, hb9⟩
  have s9 := hb9.size
  have P9 := hide (P8.out.trans (hb9.mono (by omega)))
  have B9 := hide (B8.out.trans (hb9.mono (by omega)))
  have v1t := T1'.out w9 B9.out
  have v2t := T2.out w9 B9.out
  clear hb9 m0 m1 m2 m3 n0 n1 n2 n3 A68 A58
  go_wp2
  go_ret
  exact ⟨by simp, P9.out⟩
end Go.Proofs.YtdlaaollamgplacDoor
