/-
  CONTRACT of the Go function code.next. No claim by itself.
-/
import Derived.Deep.DeepAppendWide
import Derived.Test.YtkjfhgoddhigmacDoorM26
namespace Go.Proofs.YtkjfhgoddhigmacDoor
open Go.RowKit
/-- The byte that bits begin with, and how many bits it has; none: (0, 0). -/
def nextF : List Int → Int × Nat
  | [] => (0, 0)
  | y :: r => if y = 1 then (if r.length < 8 then (0, 0) else if 0 ≤ oidx (val (r.take 8)) then (0, 0) else (val (r.take 8), 9))
      else (if r.length < 5 then (0, 0) else (oft.getD (val (r.take 5)).toNat 0, 6))
theorem dec_none (l : List Int) (hb : ∀ y ∈ l, y = 0 ∨ y = 1) (hf : ¬ Fills l) (h : (nextF l).2 = 0) : dec l = none := by
  match l, hb, hf, h with
  | [], _, hf, _ => exact absurd ⟨by simp, by simp⟩ hf
  | y :: r, hb, hf, h =>
    unfold nextF at h
    rcases hb y List.mem_cons_self with rfl | rfl
    · simp only [show ¬ ((0 : Int) = 1) by decide, if_false] at h
      by_cases h5 : r.length < 5
      · rw [dec_end 0 r (by omega) (by omega), if_pos (Or.inr List.mem_cons_self)]
      · rw [if_neg h5] at h; cases h
    · simp only [if_true] at h
      by_cases h8 : r.length < 8
      · rw [dec_end 1 r (by omega) (by omega), if_pos]
        by_cases h0 : (0 : Int) ∈ 1 :: r
        · exact Or.inr h0
        · refine Or.inl ?_
          rcases Nat.lt_or_ge 7 (1 :: r).length with h7 | h7
          · exact h7
          · exact absurd ⟨by omega, h0⟩ hf
      · rw [if_neg h8] at h
        by_cases ho : 0 ≤ oidx (val (r.take 8))
        · exact dec_wrong 1 r ⟨rfl, by omega⟩ ho
        · rw [if_neg ho] at h; cases h
theorem dec_more (l : List Int) (hb : ∀ y ∈ l, y = 0 ∨ y = 1) (h : (nextF l).2 ≠ 0) :
    dec l = (dec (l.drop (nextF l).2)).map ((nextF l).1 :: ·) ∧ (nextF l).2 ≤ l.length ∧ 6 ≤ (nextF l).2 ∧ 0 ≤ (nextF l).1 ∧ (nextF l).1 < 256 := by
  match l, hb, h with
  | [], _, h => exact absurd rfl h
  | y :: r, hb, h =>
    have hbr : ∀ z ∈ r, z = 0 ∨ z = 1 := fun z hz => hb z (List.mem_cons_of_mem _ hz)
    unfold nextF at h ⊢
    rcases hb y List.mem_cons_self with rfl | rfl
    · simp only [show ¬ ((0 : Int) = 1) by decide, if_false] at h ⊢
      by_cases h5 : r.length < 5
      · rw [if_pos h5] at h; exact absurd rfl h
      · simp only [if_neg h5]
        have hl : (r.take 5).length = 5 := by rw [List.length_take]; omega
        have hv := val_bd (r.take 5) (fun z hz => hbr z (List.take_subset _ _ hz))
        rw [hl] at hv
        have hv2 : val (r.take 5) < 32 := by simpa using hv.2
        refine ⟨dec_often 0 r ⟨rfl, by omega⟩, by simp; omega, by simp, ?_⟩
        have ho : ∀ j : Fin 32, 0 ≤ oft.getD j.val 0 ∧ oft.getD j.val 0 < 256 := by decide
        exact ho ⟨(val (r.take 5)).toNat, by omega⟩
    · simp only [if_true] at h ⊢
      by_cases h8 : r.length < 8
      · rw [if_pos h8] at h; exact absurd rfl h
      · rw [if_neg h8] at h
        by_cases ho : 0 ≤ oidx (val (r.take 8))
        · rw [if_pos ho] at h; exact absurd rfl h
        · simp only [if_neg h8, if_neg ho]
          have hl : (r.take 8).length = 8 := by rw [List.length_take]; omega
          have hv := val_bd (r.take 8) (fun z hz => hbr z (List.take_subset _ _ hz))
          rw [hl] at hv
          have hv2 : val (r.take 8) < 256 := by simpa using hv.2
          exact ⟨dec_rare 1 r ⟨rfl, by omega⟩ ho, by simp; omega, by simp, hv.1, hv2⟩
theorem next_at (Z : List Int) (at_ : Nat) (h : at_ < 8 * Z.length) : (some_ Z at_ 1 = 0 ∨ some_ Z at_ 1 = 1) ∧ nextF ((unpack Z).drop at_) =
    if some_ Z at_ 1 = 1 then (if 8 * Z.length < at_ + 9 then (0, 0) else if 0 ≤ oidx (some_ Z (at_ + 1) 8) then (0, 0) else (some_ Z (at_ + 1) 8, 9))
      else (if 8 * Z.length < at_ + 6 then (0, 0) else (oft.getD (some_ Z (at_ + 1) 5).toNat 0, 6)) := by
  have hl := drop_len Z at_
  have hb : ∀ y ∈ (unpack Z).drop at_, y = 0 ∨ y = 1 := fun y hy => unpack_bit Z y (List.drop_subset _ _ hy)
  have e1 : (unpack Z).drop (at_ + 1) = ((unpack Z).drop at_).drop 1 := by rw [List.drop_drop]
  unfold some_
  rw [e1]
  generalize (unpack Z).drop at_ = l at *
  match l, hl, hb with
  | [], hl, _ => simp at hl; omega
  | y :: r, hl, hb =>
    have hy := hb y List.mem_cons_self
    have ev : val ((y :: r).take 1) = y := by simp [val]
    rw [ev, List.drop_one, List.tail_cons]
    refine ⟨hy, ?_⟩
    simp at hl
    unfold nextF
    simp only [show (8 * Z.length < at_ + 9) = (r.length < 8) from by apply propext; omega, show (8 * Z.length < at_ + 6) = (r.length < 5) from by apply propext; omega]
theorem oftB_at (k : Nat) (hlt : k < 32) : ∀ h, (((oftB[k]'h).toNat : Nat) : Int) = oft.getD k 0 := by
  have h : ∀ j : Fin 32, ∀ h, (((oftB[j.val]'h).toNat : Nat) : Int) = oft.getD j.val 0 := by decide +kernel
  exact h ⟨k, hlt⟩
set_option maxHeartbeats 2000000 in
theorem next_any (a : Option Addr) (len cap : Nat) (Z : List Int) (w : World) (hA : Arg w a len cap Z) (hZ : Z.length = len) (hl : len ≤ 158329674399744) (at_ : Nat) (hat : at_ < 8 * len) :
    Calls Tryd.prog 64 #[.slice a len cap, .int .i64 at_] w fun e w' => e = .returned (.tuple #[.int .u8 (nextF ((unpack Z).drop at_)).1, .int .i64 (nextF ((unpack Z).drop at_)).2]) ∧ w = w' := by
  obtain ⟨hy, hN⟩ := next_at Z at_ (by omega)
  have HN : Hid (nextF ((unpack Z).drop at_) = if some_ Z at_ 1 = 1 then (if 8 * Z.length < at_ + 9 then (0, 0) else if 0 ≤ oidx (some_ Z (at_ + 1) 8) then (0, 0) else (some_ Z (at_ + 1) 8, 9))
      else (if 8 * Z.length < at_ + 6 then (0, 0) else (oft.getD (some_ Z (at_ + 1) 5).toNat 0, 6))) := hN
  clear hN
  generalize nextF ((unpack Z).drop at_) = X at *
  rw [hZ] at HN
  have hc1 := cbits_any a len cap Z w hA hl at_ 1 (by omega) (by omega)
  rcases hy with hy | hy
  · rw [hy] at HN hc1
    have HX : Hid (X = if 8 * len < at_ + 6 then (0, 0) else (oft.getD (some_ Z (at_ + 1) 5).toNat 0, 6)) := HN.out
    clear HN
    by_cases h6 : 8 * len < at_ + 6
    · have hd : decide (8 * (len : Int) < (at_ : Int) + 6) = true := by simp; omega
      have HX2 : Hid (X = (0, 0)) := by have := HX.out; rw [if_pos h6] at this; exact this
      clear HX
      go_enter Tryd.func64, Tryd.ntmps64
      go_wp2_with fail
      refine hc1.mono ?_
      rintro _ _ ⟨rfl, rfl⟩
      go_wp2
      go_ret2
      exact ⟨by rw [HX2.out]; rfl, rfl⟩
    · have hd : decide (8 * (len : Int) < (at_ : Int) + 6) = false := by simp; omega
      have hc2 := cbits_any a len cap Z w hA hl (at_ + 1) 5 (by omega) (by omega)
      have hb5 : 0 ≤ some_ Z (at_ + 1) 5 ∧ some_ Z (at_ + 1) 5 < 32 := by
        have h := val_bd (((unpack Z).drop (at_ + 1)).take 5) (fun y hy => unpack_bit Z y (List.drop_subset _ _ (List.take_subset _ _ hy)))
        have hl5 : (((unpack Z).drop (at_ + 1)).take 5).length = 5 := by rw [List.length_take, drop_len, hZ]; omega
        rw [hl5] at h
        exact ⟨h.1, by have := h.2; unfold some_; simpa using this⟩
      have HX2 : Hid (X = (oft.getD (some_ Z (at_ + 1) 5).toNat 0, 6)) := by have := HX.out; rw [if_neg h6] at this; exact this
      clear HX
      generalize some_ Z (at_ + 1) 5 = m at *
      obtain ⟨k, rfl⟩ := Int.eq_ofNat_of_zero_le hb5.1
      have hk : k < 32 := by omega
      have hix := oftB_at k hk
      unfold oftB at hix
      have HX3 : Hid (X = (oft.getD k 0, 6)) := HX2.out
      clear HX2
      generalize oft.getD k 0 = o at *
      go_enter Tryd.func64, Tryd.ntmps64
      go_wp2_with fail
      refine hc1.mono ?_
      rintro _ _ ⟨rfl, rfl⟩
      go_wp2_with fail
      refine hc2.mono ?_
      rintro _ _ ⟨rfl, rfl⟩
      go_wp2
      go_ret2
      exact ⟨by rw [HX3.out]; rfl, rfl⟩
  · rw [hy] at HN hc1
    have HX : Hid (X = if 8 * len < at_ + 9 then (0, 0) else if 0 ≤ oidx (some_ Z (at_ + 1) 8) then (0, 0) else (some_ Z (at_ + 1) 8, 9)) := HN.out
    clear HN
    by_cases h6 : 8 * len < at_ + 9
    · have hd : decide (8 * (len : Int) < (at_ : Int) + 9) = true := by simp; omega
      have HX2 : Hid (X = (0, 0)) := by have := HX.out; rw [if_pos h6] at this; exact this
      clear HX
      go_enter Tryd.func64, Tryd.ntmps64
      go_wp2_with fail
      refine hc1.mono ?_
      rintro _ _ ⟨rfl, rfl⟩
      go_wp2
      go_ret2
      exact ⟨by rw [HX2.out]; rfl, rfl⟩
    · have hd : decide (8 * (len : Int) < (at_ : Int) + 9) = false := by simp; omega
      have hc2 := cbits_any a len cap Z w hA hl (at_ + 1) 8 (by omega) (by omega)
      obtain ⟨m0, m1⟩ := some_bd Z (at_ + 1) 8 (Nat.le_refl _)
      have HX2 : Hid (X = if 0 ≤ oidx (some_ Z (at_ + 1) 8) then (0, 0) else (some_ Z (at_ + 1) 8, 9)) := by have := HX.out; rw [if_neg h6] at this; exact this
      clear HX
      generalize some_ Z (at_ + 1) 8 = m at *
      have hi := idx_any m m0 m1
      have ob := oidx_bd m
      by_cases ho : 0 ≤ oidx m
      · have HX3 : Hid (X = (0, 0)) := by have := HX2.out; rw [if_pos ho] at this; exact this
        clear HX2
        have hd2 : decide (0 ≤ oidx m) = true := by simp; omega
        generalize oidx m = o at *
        go_enter Tryd.func64, Tryd.ntmps64
        go_wp2_with fail
        refine hc1.mono ?_
        rintro _ _ ⟨rfl, rfl⟩
        go_wp2_with fail
        refine hc2.mono ?_
        rintro _ _ ⟨rfl, rfl⟩
        go_wp2_with fail
        refine (hi _).mono ?_
        rintro _ _ ⟨rfl, rfl⟩
        go_wp2
        go_ret2
        exact ⟨by rw [HX3.out]; rfl, rfl⟩
      · have HX3 : Hid (X = (m, 9)) := by have := HX2.out; rw [if_neg ho] at this; exact this
        clear HX2
        have hd2 : decide (0 ≤ oidx m) = false := by simp; omega
        generalize oidx m = o at *
        go_enter Tryd.func64, Tryd.ntmps64
        go_wp2_with fail
        refine hc1.mono ?_
        rintro _ _ ⟨rfl, rfl⟩
        go_wp2_with fail
        refine hc2.mono ?_
        rintro _ _ ⟨rfl, rfl⟩
        go_wp2_with fail
        refine (hi _).mono ?_
        rintro _ _ ⟨rfl, rfl⟩
        go_wp2
        go_ret2
        exact ⟨by rw [HX3.out]; rfl, rfl⟩
end Go.Proofs.YtkjfhgoddhigmacDoor
/-
  CONTRACT of the Go function code.Decode, for at most 158329674399744 bytes. No claim by itself.
-/
namespace Go.Proofs.YtkjfhgoddhigmacDoor
open Go.RowKit
theorem cinfo5 : (Tryd.prog.info? 5).map (fun i => (i.zero, i.size, i.bytes)) = some (some (.int .u8 0), 1, 1) := by kernel_rfl
theorem str_own {w : World} {base n : Nat} {v : Value} {O : List Int} (hn : O.length = n) (h : w.ownsRow base 5 1 v n (O.map (Value.int .u8))) :
    (convert 29 9 v).run Tryd.prog w = .ok (.string (strOfNums O)) w := by
  obtain ⟨h1, ⟨rfl, h0⟩ | ⟨g, cap, cur, rfl, hb, hc, h2⟩⟩ := id h
  · have e : O = [] := List.eq_nil_of_length_eq_zero (by omega)
    rw [e, run_convert_bytes_nil (P := Tryd.prog) w 29 5 Tryd.underlying29 Tryd.underlying5 0 0 9 Tryd.underlying9]
    rfl
  · refine run_convert_bytes_arg w 29 5 Tryd.underlying29 Tryd.underlying5 g 0 n cap O hn (fun i hi => ?_) 9 Tryd.underlying9
    have hcc := h.cellAt i (by omega)
    rw [Nat.zero_add, hcc]
    simp [List.getElem?_eq_getElem (show i < O.length by omega)]
theorem omap_snoc (d : Option (List Int)) (O : List Int) (o : Int) : (d.map (o :: ·)).map (O ++ ·) = d.map ((O ++ [o]) ++ ·) := by
  cases d <;> simp
theorem dec_fills (l : List Int) (hb : ∀ y ∈ l, y = 0 ∨ y = 1) (h : Fills l) : dec l = some [] := by
  have h1 := dec_bits [] l.length (by simp) (by have := h.1; omega)
  rw [← all_ones l hb h.2] at h1
  simpa [bitsL] using h1
set_option maxHeartbeats 4000000 in
theorem dec_any : DecSaid := by
  intro a len cap Z w hA hl
  have hZ : Z.length = len := by
    rcases hA with ⟨h1, h2⟩ | ⟨g, off, _, hr⟩
    · rw [h1, h2]; rfl
    · exact hr.hlen
  obtain ⟨i0, hi, hz0, hz1, hz2⟩ := info_parts cinfo5
  have HA : Hid (∀ wx, Below w.heap.size w wx → Arg wx a len cap Z) := fun wx hb => hA.below hb
  have HU : Hid (∀ y ∈ unpack Z, y = 0 ∨ y = 1) := unpack_bit Z
  have HUL : Hid ((unpack Z).length = 8 * len) := by show _ = _; rw [unpack_len, hZ]
  have HF : Hid (∀ (wx : World), Arg wx a len cap Z → ∀ at_ : Nat, at_ ≤ 8 * len → Calls Tryd.prog 63 #[.slice a len cap, .int .i64 at_] wx fun e w' => ∃ v, e = .returned (.bool v) ∧ (v = true ↔ Fills ((unpack Z).drop at_)) ∧ Below wx.heap.size wx w') := fun wx hx at_ h => filled_any a len cap Z wx hx hZ hl at_ h
  have HX : Hid (∀ (wx : World), Arg wx a len cap Z → ∀ at_ : Nat, at_ < 8 * len → Calls Tryd.prog 64 #[.slice a len cap, .int .i64 at_] wx fun e w' => e = .returned (.tuple #[.int .u8 (nextF ((unpack Z).drop at_)).1, .int .i64 (nextF ((unpack Z).drop at_)).2]) ∧ wx = w') := fun wx hx at_ h => next_any a len cap Z wx hx hZ hl at_ h
  have HD : Hid (decF Z = dec (unpack Z)) := decF_dec Z
  generalize decF Z = D at *
  generalize unpack Z = U at *
  clear hA
  go_enter Tryd.func61, Tryd.ntmps61
  go_wp2_with fail
  go_loopw [4, 5] (fun v i wr => ∃ (t : Nat) (O : List Int), i = .int .i64 t ∧ t ≤ 8 * len ∧ 6 * O.length ≤ t ∧ wr.ownsRow w.heap.size 5 1 v O.length (O.map (Value.int .u8)) ∧ Below w.heap.size w wr ∧ Hid (D = (dec (U.drop t)).map (O ++ ·))) (fun _ i _ => 8 * len - (intOf i).toNat)
  case atStart => exact ⟨0, [], rfl, by omega, by simp, World.ownsRow_nil _ _ _ _, Below.refl _ _, by show D = _; rw [HD.out]; simp⟩
  case round =>
    obtain ⟨t, O, rfl, ht, hOt, hown, hbel, HDO⟩ := hrel
    have hsz := hbel.size
    have hfil := HF.out wr (HA.out wr hbel) t ht
    have HUb : Hid (∀ y ∈ U.drop t, y = 0 ∨ y = 1) := fun y hy => HU.out y (List.drop_subset _ _ hy)
    have HUl : Hid ((U.drop t).length = 8 * len - t) := by show _ = _; rw [List.length_drop, HUL.out]
    go_wp2_with fail
    refine hfil.mono ?_
    rintro _ w1 ⟨v, rfl, hv, hb1⟩
    have hbel1 : Below w.heap.size w w1 := hbel.trans (hb1.mono hsz)
    have hown1 := own_below hown hb1
    clear hfil
    cases v with
    | true =>
      have HS : Hid (D = some O) := by
        show D = some O
        rw [HDO.out, dec_fills _ HUb.out (hv.1 rfl)]; simp
      have cv := str_own rfl hown1
      clear hv
      go_wp2
      go_ret2
      exact ⟨_, _, rfl, Or.inl ⟨O, HS.out, rfl, rfl⟩, hbel1⟩
    | false =>
      have hnf : ¬ Fills (U.drop t) := fun h => by have := hv.2 h; cases this
      have htl : t < 8 * len := by
        rcases Nat.lt_or_ge t (8 * len) with h | h
        · exact h
        · exfalso
          have e : U.drop t = [] := List.eq_nil_of_length_eq_zero (by rw [HUl.out]; omega)
          exact hnf (by rw [e]; exact ⟨by simp, by simp⟩)
      have hnx := HX.out w1 (HA.out w1 hbel1) t htl
      clear hv
      by_cases h0 : (nextF (U.drop t)).2 = 0
      · have HN : Hid (D = none) := by
          show D = none
          rw [HDO.out, dec_none _ HUb.out hnf h0]; rfl
        rw [h0] at hnx
        generalize (nextF (U.drop t)).1 = c at *
        clear hnf h0
        go_wp2_with fail
        refine hnx.mono ?_
        rintro _ _ ⟨rfl, rfl⟩
        go_wp2
        go_ret2
        exact ⟨_, _, rfl, Or.inr ⟨HN.out, rfl, rfl⟩, hbel1⟩
      · obtain ⟨hm, hsl, hs6, hc0, hc1⟩ := dec_more _ HUb.out h0
        rw [HUl.out] at hsl
        have HDN : Hid (D = (dec (U.drop (t + (nextF (U.drop t)).2))).map ((O ++ [(nextF (U.drop t)).1]) ++ ·)) := by
          show D = _
          rw [HDO.out, hm, omap_snoc, List.drop_drop]
        clear hm hnf HDO HUb HUl
        generalize (nextF (U.drop t)).1 = c at *
        generalize (nextF (U.drop t)).2 = q at *
        have hqb : ((q : Int) == 0) = false := by rw [beq_eq_false_iff_ne]; omega
        have hsz1 := hbel1.size
        go_wp2_with fail
        refine hnx.mono ?_
        rintro _ _ ⟨rfl, rfl⟩
        go_wp2_with (at_builtin; refine wpList_append_own_wide _ rfl _ _ 29 rfl w.heap.size 5 i0 (.int .u8 0) 1 1 Tryd.underlying29 hi hz0 hz1 hz2 rfl (by decide) _ _ _ rfl (hown1.alloc _) ⟨w1.heap.size, 0, none⟩ 1 1 [.int .u8 c] rfl rfl ?a15 ?a25 ?a35 ?a45 ?a55 ?_)
        case a15 => exact cell_one_new _ _ _
        case a25 => intro u hu; simp at hu; subst hu; rfl
        case a35 => unfold maxLen; omega
        case a45 => omega
        case a55 => simp; omega
        intro v2 w2 hown2 hgrow2 _
        have hb2 : Below w.heap.size w w2 := (hbel1.alloc hsz1 _).grown hgrow2 (by simp; omega) (fun k hk => (hown1.lt k hk).1)
        have hown3 : w2.ownsRow w.heap.size 5 1 v2 (O ++ [c]).length ((O ++ [c]).map (Value.int .u8)) := by simpa using hown2
        have hO3 : 6 * (O ++ [c]).length ≤ t + q := by simp; omega
        generalize O ++ [c] = O2 at *
        go_wp2
        go_round
        case rel => exact ⟨t + q, O2, by go_num, by omega, hO3, hown3, hb2, HDN⟩
        case measure => simp [intOf]; omega
end Go.Proofs.YtkjfhgoddhigmacDoor
