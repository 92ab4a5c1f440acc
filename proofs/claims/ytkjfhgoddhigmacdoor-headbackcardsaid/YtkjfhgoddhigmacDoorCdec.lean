/-
  CONTRACT of the Go function code.Decode, for at most 158329674399744 bytes. No claim by itself.
-/
import Derived.Test.YtkjfhgoddhigmacDoorCnext
import Derived.Deep.DeepAppendWide
namespace Go.Proofs.YtkjfhgoddhigmacDoor
open Go.RowKit
theorem cinfo5 : (Tryd.prog.info? 5).map (fun i => (i.zero, i.size, i.bytes)) = some (some (.int .u8 0), 1, 1) := by kernel_rfl
theorem str_own {w : World} {base n : Nat} {v : Value} {O : List Int} (hn : O.length = n) (h : w.ownsRow base 5 1 v n (O.map (Value.int .u8))) :
    (convert 29 9 v).run Tryd.prog w = .ok (.string (strOfNums O)) w := by
  obtain ⟨h1, ⟨rfl, h0⟩ | ⟨g, cap, cur, rfl, hb, hc, h2⟩⟩ := id h
  · have e : O = [] := List.eq_nil_of_length_eq_zero (by omega)
    rw [e, run_convert_bytes_nil (P := Tryd.prog) w 29 5 Tryd.underlying29 Tryd.underlying5 0 0 9 Tryd.underlying9]
    rfl
  · refine run_convert_bytes_arg w 29 5 Tryd.underlying29 Tryd.underlying5 g 0 n cap O hn (fun i hi => ?_) 9 Tryd.underlying9
    have hcc := h.cellAt i (by omega)
    rw [Nat.zero_add, hcc]
    simp [List.getElem?_eq_getElem (show i < O.length by omega)]
theorem omap_snoc (d : Option (List Int)) (O : List Int) (o : Int) : (d.map (o :: ·)).map (O ++ ·) = d.map ((O ++ [o]) ++ ·) := by
  cases d <;> simp
theorem dec_fills (l : List Int) (hb : ∀ y ∈ l, y = 0 ∨ y = 1) (h : Fills l) : dec l = some [] := by
  have h1 := dec_bits [] l.length (by simp) (by have := h.1; omega)
  rw [← all_ones l hb h.2] at h1
  simpa [bitsL] using h1
set_option maxHeartbeats 4000000 in
theorem dec_any : DecSaid := by
  intro a len cap Z w hA hl
  have hZ : Z.length = len := by
    rcases hA with ⟨h1, h2⟩ | ⟨g, off, _, hr⟩
    · rw [h1, h2]; rfl
    · exact hr.hlen
  obtain ⟨i0, hi, hz0, hz1, hz2⟩ := info_parts cinfo5
  have HA : Hid (∀ wx, Below w.heap.size w wx → Arg wx a len cap Z) := fun wx hb => hA.below hb
  have HU : Hid (∀ y ∈ unpack Z, y = 0 ∨ y = 1) := unpack_bit Z
  have HUL : Hid ((unpack Z).length = 8 * len) := by show _ = _; rw [unpack_len, hZ]
  have HF : Hid (∀ (wx : World), Arg wx a len cap Z → ∀ at_ : Nat, at_ ≤ 8 * len → Calls Tryd.prog 63 #[.slice a len cap, .int .i64 at_] wx fun e w' => ∃ v, e = .returned (.bool v) ∧ (v = true ↔ Fills ((unpack Z).drop at_)) ∧ Below wx.heap.size wx w') := fun wx hx at_ h => filled_any a len cap Z wx hx hZ hl at_ h
  have HX : Hid (∀ (wx : World), Arg wx a len cap Z → ∀ at_ : Nat, at_ < 8 * len → Calls Tryd.prog 64 #[.slice a len cap, .int .i64 at_] wx fun e w' => e = .returned (.tuple #[.int .u8 (nextF ((unpack Z).drop at_)).1, .int .i64 (nextF ((unpack Z).drop at_)).2]) ∧ wx = w') := fun wx hx at_ h => next_any a len cap Z wx hx hZ hl at_ h
  have HD : Hid (decF Z = dec (unpack Z)) := decF_dec Z
  generalize decF Z = D at *
  generalize unpack Z = U at *
  clear hA
  go_enter Tryd.func61, Tryd.ntmps61
  go_wp2_with fail
  go_loopw [4, 5] (fun v i wr => ∃ (t : Nat) (O : List Int), i = .int .i64 t ∧ t ≤ 8 * len ∧ 6 * O.length ≤ t ∧ wr.ownsRow w.heap.size 5 1 v O.length (O.map (Value.int .u8)) ∧ Below w.heap.size w wr ∧ Hid (D = (dec (U.drop t)).map (O ++ ·))) (fun _ i _ => 8 * len - (intOf i).toNat)
  case atStart => exact ⟨0, [], rfl, by omega, by simp, World.ownsRow_nil _ _ _ _, Below.refl _ _, by show D = _; rw [HD.out]; simp⟩
  case round =>
    obtain ⟨t, O, rfl, ht, hOt, hown, hbel, HDO⟩ := hrel
    have hsz := hbel.size
    have hfil := HF.out wr (HA.out wr hbel) t ht
    have HUb : Hid (∀ y ∈ U.drop t, y = 0 ∨ y = 1) := fun y hy => HU.out y (List.drop_subset _ _ hy)
    have HUl : Hid ((U.drop t).length = 8 * len - t) := by show _ = _; rw [List.length_drop, HUL.out]
    go_wp2_with fail
    refine hfil.mono ?_
    rintro _ w1 ⟨v, rfl, hv, hb1⟩
    have hbel1 : Below w.heap.size w w1 := hbel.trans (hb1.mono hsz)
    have hown1 := own_below hown hb1
    clear hfil
    cases v with
    | true =>
      have HS : Hid (D = some O) := by
        show D = some O
        rw [HDO.out, dec_fills _ HUb.out (hv.1 rfl)]; simp
      have cv := str_own rfl hown1
      clear hv
      go_wp2
      go_ret2
      exact ⟨_, _, rfl, Or.inl ⟨O, HS.out, rfl, rfl⟩, hbel1⟩
    | false =>
      have hnf : ¬ Fills (U.drop t) := fun h => by have := hv.2 h; cases this
      have htl : t < 8 * len := by
        rcases Nat.lt_or_ge t (8 * len) with h | h
        · exact h
        · exfalso
          have e : U.drop t = [] := List.eq_nil_of_length_eq_zero (by rw [HUl.out]; omega)
          exact hnf (by rw [e]; exact ⟨by simp, by simp⟩)
      have hnx := HX.out w1 (HA.out w1 hbel1) t htl
      clear hv
      by_cases h0 : (nextF (U.drop t)).2 = 0
      · have HN : Hid (D = none) := by
          show D = none
          rw [HDO.out, dec_none _ HUb.out hnf h0]; rfl
        rw [h0] at hnx
        generalize (nextF (U.drop t)).1 = c at *
        clear hnf h0
        go_wp2_with fail
        refine hnx.mono ?_
        rintro _ _ ⟨rfl, rfl⟩
        go_wp2
        go_ret2
        exact ⟨_, _, rfl, Or.inr ⟨HN.out, rfl, rfl⟩, hbel1⟩
      · obtain ⟨hm, hsl, hs6, hc0, hc1⟩ := dec_more _ HUb.out h0
        rw [HUl.out] at hsl
        have HDN : Hid (D = (dec (U.drop (t + (nextF (U.drop t)).2))).map ((O ++ [(nextF (U.drop t)).1]) ++ ·)) := by
          show D = _
          rw [HDO.out, hm, omap_snoc, List.drop_drop]
        clear hm hnf HDO HUb HUl
        generalize (nextF (U.drop t)).1 = c at *
        generalize (nextF (U.drop t)).2 = q at *
        have hqb : ((q : Int) == 0) = false := by rw [beq_eq_false_iff_ne]; omega
        have hsz1 := hbel1.size
        go_wp2_with fail
        refine hnx.mono ?_
        rintro _ _ ⟨rfl, rfl⟩
        go_wp2_with (at_builtin; refine wpList_append_own_wide _ rfl _ _ 29 rfl w.heap.size 5 i0 (.int .u8 0) 1 1 Tryd.underlying29 hi hz0 hz1 hz2 rfl (by decide) _ _ _ rfl (hown1.alloc _) ⟨w1.heap.size, 0, none⟩ 1 1 [.int .u8 c] rfl rfl ?a15 ?a25 ?a35 ?a45 ?a55 ?_)
        case a15 => exact cell_one_new _ _ _
        case a25 => intro u hu; simp at hu; subst hu; rfl
        case a35 => unfold maxLen; omega
        case a45 => omega
        case a55 => simp; omega
        intro v2 w2 hown2 hgrow2 _
        have hb2 : Below w.heap.size w w2 := (hbel1.alloc hsz1 _).grown hgrow2 (by simp; omega) (fun k hk => (hown1.lt k hk).1)
        have hown3 : w2.ownsRow w.heap.size 5 1 v2 (O ++ [c]).length ((O ++ [c]).map (Value.int .u8)) := by simpa using hown2
        have hO3 : 6 * (O ++ [c]).length ≤ t + q := by simp; omega
        generalize O ++ [c] = O2 at *
        go_wp2
        go_round
        case rel => exact ⟨t + q, O2, by go_num, by omega, hO3, hown3, hb2, HDN⟩
        case measure => simp [intOf]; omega
end Go.Proofs.YtkjfhgoddhigmacDoor
