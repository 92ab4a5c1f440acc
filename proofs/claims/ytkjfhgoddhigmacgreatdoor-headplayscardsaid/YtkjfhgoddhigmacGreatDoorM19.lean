/-
  CONTRACT of the Go function code.Decode, for at most 158329674399744 bytes. No claim by itself.
-/
import Derived.Deep.DeepAppendWide
import Derived.Deep.RegionHeld3
import Derived.Test.YtkjfhgoddhigmacGreatDoorM18
import Derived.Test.YtkjfhgoddhigmacGreatDoorM17
import Derived.Test.YtkjfhgoddhigmacGreatDoorM13
namespace Go.Proofs.YtkjfhgoddhigmacGreatDoor
open Go.RowKit
theorem cinfo5 : (Tryz.prog.info? 5).map (fun i => (i.zero, i.size, i.bytes)) = some (some (.int .u8 0), 1, 1) := by kernel_rfl
theorem str_own {w : World} {base n : Nat} {v : Value} {O : List Int} (hn : O.length = n) (h : w.ownsRow base 5 1 v n (O.map (Value.int .u8))) :
    (convert 35 9 v).run Tryz.prog w = .ok (.string (strOfNums O)) w := by
  obtain ⟨h1, ⟨rfl, h0⟩ | ⟨g, cap, cur, rfl, hb, hc, h2⟩⟩ := id h
  · have e : O = [] := List.eq_nil_of_length_eq_zero (by omega)
    rw [e, run_convert_bytes_nil (P := Tryz.prog) w 35 5 Tryz.underlying35 Tryz.underlying5 0 0 9 Tryz.underlying9]
    rfl
  · refine run_convert_bytes_arg w 35 5 Tryz.underlying35 Tryz.underlying5 g 0 n cap O hn (fun i hi => ?_) 9 Tryz.underlying9
    have hcc := h.cellAt i (by omega)
    rw [Nat.zero_add, hcc]
    simp [List.getElem?_eq_getElem (show i < O.length by omega)]
theorem omap_snoc (d : Option (List Int)) (O : List Int) (o : Int) : (d.map (o :: ·)).map (O ++ ·) = d.map ((O ++ [o]) ++ ·) := by
  cases d <;> simp
theorem dec_fills (l : List Int) (hb : ∀ y ∈ l, y = 0 ∨ y = 1) (h : Fills l) : dec l = some [] := by
  have h1 := dec_bits [] l.length (by simp) (by have := h.1; omega)
  rw [← all_ones l hb h.2] at h1
  simpa [bitsL] using h1
set_option maxHeartbeats 4000000 in
theorem dec_any : DecSaid := by
  intro a len cap Z w hA hl
  have hZ : Z.length = len := by
    rcases hA with ⟨h1, h2⟩ | ⟨g, off, _, hr⟩
    · rw [h1, h2]; rfl
    · exact hr.hlen
  obtain ⟨i0, hi, hz0, hz1, hz2⟩ := info_parts cinfo5
  have HA : Hid (∀ wx, Below w.heap.size w wx → Arg wx a len cap Z) := fun wx hb => hA.below hb
  have HU : Hid (∀ y ∈ unpack Z, y = 0 ∨ y = 1) := unpack_bit Z
  have HUL : Hid ((unpack Z).length = 8 * len) := by show _ = _; rw [unpack_len, hZ]
  have HF : Hid (∀ (wx : World), Arg wx a len cap Z → ∀ at_ : Nat, at_ ≤ 8 * len → Calls Tryz.prog 94 #[.slice a len cap, .int .i64 at_] wx fun e w' => ∃ v, e = .returned (.bool v) ∧ (v = true ↔ Fills ((unpack Z).drop at_)) ∧ Below wx.heap.size wx w') := fun wx hx at_ h => filled_any a len cap Z wx hx hZ hl at_ h
  have HX : Hid (∀ (wx : World), Arg wx a len cap Z → ∀ at_ : Nat, at_ < 8 * len → Calls Tryz.prog 95 #[.slice a len cap, .int .i64 at_] wx fun e w' => e = .returned (.tuple #[.int .u8 (nextF ((unpack Z).drop at_)).1, .int .i64 (nextF ((unpack Z).drop at_)).2]) ∧ wx = w') := fun wx hx at_ h => next_any a len cap Z wx hx hZ hl at_ h
  have HD : Hid (decF Z = dec (unpack Z)) := decF_dec Z
  generalize decF Z = D at *
  generalize unpack Z = U at *
  clear hA
  go_enter Tryz.func92, Tryz.ntmps92
  go_wp2_with fail
  go_loopw [4, 5] (fun v i wr => ∃ (t : Nat) (O : List Int), i = .int .i64 t ∧ t ≤ 8 * len ∧ 6 * O.length ≤ t ∧ wr.ownsRow w.heap.size 5 1 v O.length (O.map (Value.int .u8)) ∧ Below w.heap.size w wr ∧ Hid (D = (dec (U.drop t)).map (O ++ ·))) (fun _ i _ => 8 * len - (intOf i).toNat)
  case atStart => exact ⟨0, [], rfl, by omega, by simp, World.ownsRow_nil _ _ _ _, Below.refl _ _, by show D = _; rw [HD.out]; simp⟩
  case round =>
    obtain ⟨t, O, rfl, ht, hOt, hown, hbel, HDO⟩ := hrel
    have hsz := hbel.size
    have hfil := HF.out wr (HA.out wr hbel) t ht
    have HUb : Hid (∀ y ∈ U.drop t, y = 0 ∨ y = 1) := fun y hy => HU.out y (List.drop_subset _ _ hy)
    have HUl : Hid ((U.drop t).length = 8 * len - t) := by show _ = _; rw [List.length_drop, HUL.out]
    go_wp2_with fail
    refine hfil.mono ?_
    rintro _ w1 ⟨v, rfl, hv, hb1⟩
    have hbel1 : Below w.heap.size w w1 := hbel.trans (hb1.mono hsz)
    have hown1 := own_below hown hb1
    clear hfil
    cases v with
    | true =>
      have HS : Hid (D = some O) := by
        show D = some O
        rw [HDO.out, dec_fills _ HUb.out (hv.1 rfl)]; simp
      have cv := str_own rfl hown1
      clear hv
      go_wp2
      go_ret2
      exact ⟨_, _, rfl, Or.inl ⟨O, HS.out, rfl, rfl⟩, hbel1⟩
    | false =>
      have hnf : ¬ Fills (U.drop t) := fun h => by have := hv.2 h; cases this
      have htl : t < 8 * len := by
        rcases Nat.lt_or_ge t (8 * len) with h | h
        · exact h
        · exfalso
          have e : U.drop t = [] := List.eq_nil_of_length_eq_zero (by rw [HUl.out]; omega)
          exact hnf (by rw [e]; exact ⟨by simp, by simp⟩)
      have hnx := HX.out w1 (HA.out w1 hbel1) t htl
      clear hv
      by_cases h0 : (nextF (U.drop t)).2 = 0
      · have HN : Hid (D = none) := by
          show D = none
          rw [HDO.out, dec_none _ HUb.out hnf h0]; rfl
        rw [h0] at hnx
        generalize (nextF (U.drop t)).1 = c at *
        clear hnf h0
        go_wp2_with fail
        refine hnx.mono ?_
        rintro _ _ ⟨rfl, rfl⟩
        go_wp2
        go_ret2
        exact ⟨_, _, rfl, Or.inr ⟨HN.out, rfl, rfl⟩, hbel1⟩
      · obtain ⟨hm, hsl, hs6, hc0, hc1⟩ := dec_more _ HUb.out h0
        rw [HUl.out] at hsl
        have HDN : Hid (D = (dec (U.drop (t + (nextF (U.drop t)).2))).map ((O ++ [(nextF (U.drop t)).1]) ++ ·)) := by
          show D = _
          rw [HDO.out, hm, omap_snoc, List.drop_drop]
        clear hm hnf HDO HUb HUl
        generalize (nextF (U.drop t)).1 = c at *
        generalize (nextF (U.drop t)).2 = q at *
        have hqb : ((q : Int) == 0) = false := by rw [beq_eq_false_iff_ne]; omega
        have hsz1 := hbel1.size
        go_wp2_with fail
        refine hnx.mono ?_
        rintro _ _ ⟨rfl, rfl⟩
        go_wp2_with (at_builtin; refine wpList_append_own_wide _ rfl _ _ 35 rfl w.heap.size 5 i0 (.int .u8 0) 1 1 Tryz.underlying35 hi hz0 hz1 hz2 rfl (by decide) _ _ _ rfl (hown1.alloc _) ⟨w1.heap.size, 0, none⟩ 1 1 [.int .u8 c] rfl rfl ?a15 ?a25 ?a35 ?a45 ?a55 ?_)
        case a15 => exact cell_one_new _ _ _
        case a25 => intro u hu; simp at hu; subst hu; rfl
        case a35 => unfold maxLen; omega
        case a45 => omega
        case a55 => simp; omega
        intro v2 w2 hown2 hgrow2 _
        have hb2 : Below w.heap.size w w2 := (hbel1.alloc hsz1 _).grown hgrow2 (by simp; omega) (fun k hk => (hown1.lt k hk).1)
        have hown3 : w2.ownsRow w.heap.size 5 1 v2 (O ++ [c]).length ((O ++ [c]).map (Value.int .u8)) := by simpa using hown2
        have hO3 : 6 * (O ++ [c]).length ≤ t + q := by simp; omega
        generalize O ++ [c] = O2 at *
        go_wp2
        go_round
        case rel => exact ⟨t + q, O2, by go_num, by omega, hO3, hown3, hb2, HDN⟩
        case measure => simp [intOf]; omega
end Go.Proofs.YtkjfhgoddhigmacGreatDoor
/-
  CONTRACTS of the Go functions head.plainText, bytes.Equal and head.ReadText. No claim by itself.
-/
namespace Go.Proofs.YtkjfhgoddhigmacGreatDoor
open Go.RowKit
set_option maxRecDepth 100000
theorem beq_any (g off n cap : Nat) (A : List Int) (g2 off2 n2 cap2 : Nat) (B : List Int) (w : World) (hA : Row w g off n cap A) (hB : Row w g2 off2 n2 cap2 B) :
    Calls Tryz.prog 87 #[.slice (some ⟨g, off, none⟩) n cap, .slice (some ⟨g2, off2, none⟩) n2 cap2] w fun e w' => e = .returned (.bool (decide (A = B))) ∧ w = w' := by
  have c1 := conv_row hA
  have c2 := conv_row hB
  have hq := str_eq_iff (row_mem hA) (row_mem hB)
  go_enter Tryz.func87, Tryz.ntmps87
  go_wp2
  go_ret
  exact ⟨rfl, rfl⟩
theorem hplain_any (g off n cap : Nat) (B : List Int) (co : Bool) (w : World) (hB : Row w g off n cap B) (hn : n ≤ 158329674399744) :
    Calls Tryz.prog 86 #[.slice (some ⟨g, off, none⟩) n cap, .bool co] w fun e w' => ∃ st x, e = .returned (.tuple #[.string st, x]) ∧ ToldDec (if co = true then decF B else some B) st x ∧ Below w.heap.size w w' := by
  cases co
  · have c1 := conv_row hB
    go_enter Tryz.func86, Tryz.ntmps86
    go_wp2
    go_ret2
    exact ⟨_, _, rfl, Or.inl ⟨B, by simp, rfl, rfl⟩, Below.refl _ _⟩
  · have hd := dec_any (some ⟨g, off, none⟩) n cap B w (Or.inr ⟨g, off, rfl, hB⟩) hn
    go_enter Tryz.func86, Tryz.ntmps86
    go_wp2_with fail
    refine hd.mono ?_
    rintro e w1 ⟨st, x, rfl, ht, hb⟩
    have HT := hide ht
    clear ht hd
    go_wp2
    go_ret2
    exact ⟨_, _, rfl, by simpa using HT.out, hb⟩
/-- What ReadText gives. -/
def RdTold (Z : List Int) (e : Ending) : Prop := ∃ x, e = .returned (.tuple #[.string (strOfNums (rtF Z).1), .int .i64 (rtF Z).2.1, x]) ∧ Err (rtF Z).2.2 x
theorem rd_told {Z s : List Int} {m k : Int} {x : Value} (h : rtF Z = (s, m, k)) (hx : Err k x) (S : ByteArray) (hS : S = strOfNums s) : RdTold Z (.returned (.tuple #[.string S, .int .i64 m, x])) := ⟨x, by rw [h, hS], by rw [h]; exact hx⟩
set_option maxHeartbeats 4000000 in
theorem hread_bad (a : Option Addr) (len cap : Nat) (Z : List Int) (w : World) (n u k : Int) (x : Value) (hl : Z.length = len) (hg : getF Z 7 = (n, u, k)) (hx : Err k x) (hn0 : 0 ≤ n ∨ k ≠ 0) (_hu0 : 0 ≤ u) (hu1 : u ≤ len) (hlm : len ≤ 4611686018427387904)
    (hget : Calls Tryz.prog 63 #[.slice a len cap, .int .i64 7] w fun e w' => e = .returned (.tuple #[.int .i64 n, .int .i64 u, x]) ∧ w = w') (hbad : k ≠ 0 ∨ 400 < n ∨ (len : Int) - u < n) :
    Calls Tryz.prog 81 #[.slice a len cap] w fun e w' => RdTold Z e ∧ Below w.heap.size w w' := by
  have HG := hide hg
  by_cases hk : k = 0
  · subst hk
    have hxn : x = .nilIface := by
      rcases hx with h | h
      · exact h.2
      · exact absurd rfl h.1
    subst hxn
    by_cases h4 : 400 < n
    · have E : Hid (rtF Z = ([], 0, 4)) := by
        show rtF Z = _
        unfold rtF; rw [HG.out, if_neg (by simp), if_pos h4]
      have hd : decide (400 < n) = true := by simpa using h4
      clear hg hbad hx
      go_enter Tryz.func81, Tryz.ntmps81
      go_wp2_with fail
      refine hget.mono ?_
      rintro e w' ⟨rfl, rfl⟩
      clear hget
      go_wp2
      go_ret3
      exact ⟨rd_told E.out (Or.inr ⟨by decide, rfl⟩) _ rfl, Below.refl _ _⟩
    · have h8 : (len : Int) - u < n := by omega
      have E : Hid (rtF Z = ([], 0, 8)) := by
        show rtF Z = _
        unfold rtF; rw [HG.out, if_neg (by simp), if_neg h4, if_pos (by rw [hl]; exact h8)]
      have hd : decide (400 < n) = false := by simp; omega
      have hd2 : decide ((len : Int) < u + n) = true := by simp; omega
      have hn0' : 0 ≤ n := by omega
      clear hg hbad hx
      go_enter Tryz.func81, Tryz.ntmps81
      go_wp2_with fail
      refine hget.mono ?_
      rintro e w' ⟨rfl, rfl⟩
      clear hget
      go_wp2
      go_ret3
      exact ⟨rd_told E.out (Or.inr ⟨by decide, rfl⟩) _ rfl, Below.refl _ _⟩
  · have E : Hid (rtF Z = ([], 0, k)) := by
      show rtF Z = _
      unfold rtF; rw [HG.out, if_pos hk]
    have hxn : x = .iface 53 (.int .i64 k) := by
      rcases hx with h | h
      · exact absurd h.1 hk
      · exact h.2
    subst hxn
    clear hg hbad
    go_enter Tryz.func81, Tryz.ntmps81
    go_wp2_with fail
    refine hget.mono ?_
    rintro e w' ⟨rfl, rfl⟩
    clear hget
    go_wp2
    go_ret3
    exact ⟨rd_told E.out (Or.inr ⟨hk, rfl⟩) _ rfl, Below.refl _ _⟩
end Go.Proofs.YtkjfhgoddhigmacGreatDoor
/-
  CONTRACT of the Go function head.ReadText, where so many bytes are there; and whatever is handed in. No claim by itself.
-/
namespace Go.Proofs.YtkjfhgoddhigmacGreatDoor
open Go.RowKit
set_option maxRecDepth 100000
theorem beq_at (g off n cap : Nat) (A : List Int) (g2 off2 n2 cap2 : Nat) (B : List Int) (w : World) (hA : Row w g off n cap A) (hB : Row w g2 off2 n2 cap2 B) (q : Bool) (hq : decide (A = B) = q) :
    Calls Tryz.prog 87 #[.slice (some ⟨g, off, none⟩) n cap, .slice (some ⟨g2, off2, none⟩) n2 cap2] w fun e w' => e = .returned (.bool q) ∧ w = w' := by
  rw [← hq]; exact beq_any g off n cap A g2 off2 n2 cap2 B w hA hB
set_option maxHeartbeats 8000000 in
theorem hread_good (g off len cap : Nat) (Z : List Int) (w : World) (hr : Row w g off len cap Z) (n u : Nat) (hg : getF Z 7 = ((n : Int), (u : Int), 0)) (hu1 : 1 ≤ u) (hn4 : n ≤ 400) (hun : u + n ≤ len) (hlm : len ≤ 4611686018427387904)
    (hget : Calls Tryz.prog 63 #[.slice (some ⟨g, off, none⟩) len cap, .int .i64 7] w fun e w' => e = .returned (.tuple #[.int .i64 n, .int .i64 u, .nilIface]) ∧ w = w') :
    Calls Tryz.prog 81 #[.slice (some ⟨g, off, none⟩) len cap] w fun e w' => RdTold Z e ∧ Below w.heap.size w w' := by
  have hE : rtF Z = rtE Z (u + n) (if decide (128 ≤ Z.getD 0 0) = true then decF ((Z.drop u).take n) else some ((Z.drop u).take n)) := by
    unfold rtF; rw [hg, if_neg (by simp), if_neg (by simp; omega), if_neg (by rw [hr.hlen]; simp; omega)]
    show rtB Z (n : Int).toNat (u : Int).toNat = _
    unfold rtB
    rw [Int.toNat_natCast, Int.toNat_natCast]
    congr 1
    simp only [decide_eq_true_eq]
    by_cases h : 127 < Z.getD 0 0
    · rw [if_pos h, if_pos (by omega)]
    · rw [if_neg h, if_neg (by omega)]
  obtain ⟨o, ho, hbody⟩ := cut_row hr u n hun
  have hcap := hr.hcap
  have hmax := hr.hmax
  unfold maxLen at hmax
  have hc0 := hr.hcell 0 (by omega)
  rw [Nat.add_zero] at hc0
  have hgl : g < w.heap.size := by rcases Nat.lt_or_ge g w.heap.size with h1 | h1; exact h1; simp [World.cell?, Array.getElem?_eq_none h1] at hc0
  have hz0 := hr.hbyte 0
  have hln : ((u : Int) + (n : Int)).toNat - u = n := by omega
  have hpl := hplain_any g o (((u : Int) + (n : Int)).toNat - u) (cap - u) ((Z.drop u).take n) (decide (128 ≤ Z.getD 0 0)) w.drew (by rw [hln]; exact hbody.below ((Below.refl _ _).drew)) (by omega)
  clear hln
  have HTK := hide (hr.take (u + n) hun)
  have hbm := row_mem hbody
  have d1 : decide ((400 : Int) < (n : Int)) = false := by simp; omega
  have d2 : decide ((len : Int) < (u : Int) + (n : Int)) = false := by simp; omega
  have b00 : 0 < len := by omega
  have b4 : (0 : Int) ≤ (u : Int) + (n : Int) := by omega
  have b1 : (u : Int) ≤ (u : Int) + (n : Int) := by omega
  have b2 : (u : Int) + (n : Int) ≤ (cap : Int) := by omega
  have b3 : (u : Int) + (n : Int) ≤ (len : Int) := by omega
  have HE := hide hE
  have HBM : ∀ t, (if decide (128 ≤ Z.getD 0 0) = true then decF ((Z.drop u).take n) else some ((Z.drop u).take n)) = some t → ∀ c ∈ t, 0 ≤ c ∧ c < 256 := fun t ht => by
    split at ht
    · exact decF_byte _ t ht
    · cases ht; exact hbm
  have HBMh := hide HBM
  clear HBM
  generalize (if decide (128 ≤ Z.getD 0 0) = true then decF ((Z.drop u).take n) else some ((Z.drop u).take n)) = D at *
  generalize hzz : Z.getD 0 0 = z at *
  clear hE hg hzz
  go_enter Tryz.func81, Tryz.ntmps81
  go_wp2_with fail
  refine hget.mono ?_
  rintro e w' ⟨rfl, rfl⟩
  clear hget
  go_wp2_with fail
  go_region_held3 (fun w' => w'.cell? ⟨g, off, none⟩ = some (.int .u8 z))
    (first | go_keep | (exact (hb2.cell (p := ⟨g, off, none⟩) hgl).trans hc0))
    ((go_at_call 86; refine hpl.mono ?_; rintro e w2 ⟨st, x, rfl, htold, hb2⟩))
  have HTD := hide htold
  have hbw2 : Below w.heap.size w w2 := (Below.refl _ _).drew.trans hb2
  clear htold hpl hb2
  rcases HTD.out with ⟨t, hd, rfl, hst⟩ | ⟨hd, rfl, hst⟩
  · have htb := HBMh.out t hd
    have HR : Hid (rtF Z = rtE Z (u + n) (some t)) := by
      show rtF Z = _
      rw [HE.out, hd]
    clear hd HTD HBMh HE
    have hSs : st.size = t.length := by rw [hst]; exact str_size t
    have HSN : Hid (nums st = t) := by show nums st = t; rw [hst]; exact nums_str t htb
    have HS := hide hst
    clear hst
    have htoo := htoo_any st w2
    rcases Nat.lt_or_ge 400 t.length with h4 | h4
    · have d4 : decide ((400 : Int) < (st.size : Int)) = true := by simp; omega
      rw [d4] at htoo
      have HV := hide (HR.out.trans (rtE_long Z t (u + n) h4))
      go_wp2_with fail
      refine htoo.mono ?_
      rintro e w' ⟨rfl, rfl⟩
      clear htoo
      go_wp2
      go_ret3
      exact ⟨rd_told HV.out (Or.inr ⟨by decide, rfl⟩) _ rfl, hbw2⟩
    · have d4 : decide ((400 : Int) < (st.size : Int)) = false := by simp; omega
      rw [d4] at htoo
      have htx := htxt_any st w2.drew (by omega)
      rw [HSN.out] at htx
      have hxb := txt_byte t htb
      have HRT := hide (HTK.out.below hbw2)
      have HV : Hid (rtF Z = if txtL t = Z.take (u + n) then (t, ((u + n : Nat) : Int), 0) else ([], 0, 2)) := by
        show rtF Z = _
        rw [HR.out]
        by_cases h : txtL t = Z.take (u + n)
        · rw [if_pos h, rtE_ok Z t (u + n) h4 h]
        · rw [if_neg h, rtE_bad Z t (u + n) h4 h]
      have hTl := (txt_len t h4).1
      generalize txtL t = X at *
      by_cases heq : X = Z.take (u + n)
      · have hq : decide (X = Z.take (u + n)) = true := by simpa using heq
        have HW : Hid (rtF Z = (t, (u : Int) + (n : Int), 0)) := by
          show rtF Z = _
          rw [HV.out, if_pos heq]; push_cast; rfl
        clear heq
        go_wp2_with fail
        refine htoo.mono ?_
        rintro e w' ⟨rfl, rfl⟩
        clear htoo
        go_wp2_with fail
        go_region_held3 (fun w' => True)
          (first | go_keep | trivial)
          (first | (go_at_call 44; refine htx.mono ?_; rintro e w3 ⟨g3, cap3, rfl, hown3, hb3⟩; have hrow3 := row_of rfl hown3 hxb; clear hown3) | (go_at_call 87; refine (beq_at g3 0 X.length cap3 X g off (u + n) cap (Z.take (u + n)) w3 hrow3 (HRT.out.below ((Below.refl _ _).drew.trans hb3)) true hq).mono ?_; rintro e w4 ⟨rfl, rfl⟩))
        all_goals
          have hB3 := hbw2.trans (((Below.refl _ _).drew.trans hb3).mono hbw2.size)
          clear hrow3 hb3
          go_wp2
          go_ret3
          exact ⟨rd_told HW.out (Or.inl ⟨rfl, rfl⟩) _ HS.out, hB3⟩
      · have hq : decide (X = Z.take (u + n)) = false := by simpa using heq
        have HW : Hid (rtF Z = ([], 0, 2)) := by
          show rtF Z = _
          rw [HV.out, if_neg heq]
        clear heq
        go_wp2_with fail
        refine htoo.mono ?_
        rintro e w' ⟨rfl, rfl⟩
        clear htoo
        go_wp2_with fail
        go_region_held3 (fun w' => True)
          (first | go_keep | trivial)
          (first | (go_at_call 44; refine htx.mono ?_; rintro e w3 ⟨g3, cap3, rfl, hown3, hb3⟩; have hrow3 := row_of rfl hown3 hxb; clear hown3) | (go_at_call 87; refine (beq_at g3 0 X.length cap3 X g off (u + n) cap (Z.take (u + n)) w3 hrow3 (HRT.out.below ((Below.refl _ _).drew.trans hb3)) false hq).mono ?_; rintro e w4 ⟨rfl, rfl⟩))
        all_goals
          have hB3 := hbw2.trans (((Below.refl _ _).drew.trans hb3).mono hbw2.size)
          clear hrow3 hb3
          go_wp2
          go_ret3
          exact ⟨rd_told HW.out (Or.inr ⟨by decide, rfl⟩) _ rfl, hB3⟩
  · have HW : Hid (rtF Z = ([], 0, 2)) := by
      show rtF Z = _
      rw [HE.out, hd]; rfl
    clear hd HTD HBMh HE hst
    go_wp2
    go_ret3
    exact ⟨rd_told HW.out (Or.inr ⟨by decide, rfl⟩) _ rfl, hbw2⟩
theorem hread_any (a : Option Addr) (len cap : Nat) (Z : List Int) (w : World) (hA : Arg w a len cap Z) (hlm : len ≤ 4611686018427387904) :
    Calls Tryz.prog 81 #[.slice a len cap] w fun e w' => RdTold Z e ∧ Below w.heap.size w w' := by
  have key : ∀ (n u k : Int) (x : Value), Told3 (n, u, k) n u x → Err k x := by
    rintro n u k x (⟨h, hx⟩ | ⟨k', hk, h, hx⟩)
    · cases h; exact Or.inl ⟨rfl, hx⟩
    · cases h; exact Or.inr ⟨hk, hx⟩
  rcases hA with ⟨rfl, rfl⟩ | ⟨g, off, rfl, hr⟩
  · refine hread_bad a 0 cap [] w 0 0 8 (.iface 53 (.int .i64 8)) rfl getF_nil (Or.inr ⟨by decide, rfl⟩) (Or.inl (by decide)) (by decide) (by decide) (by decide) ?_ (Or.inl (by decide))
    refine (get_nil a cap 7 w (by decide) (by decide)).mono ?_
    rintro e w' ⟨⟨n, u, x, rfl, hg⟩, rfl⟩
    rw [getF_nil] at hg
    rcases hg with ⟨h, _⟩ | ⟨k, _, h, rfl⟩
    · cases h
    · cases h; exact ⟨rfl, rfl⟩
  · obtain ⟨n, u, k, hg⟩ : ∃ n u k, getF Z 7 = (n, u, k) := ⟨_, _, _, rfl⟩
    obtain ⟨x, hx⟩ : ∃ x, Err k x := by
      by_cases hk : k = 0
      · exact ⟨_, Or.inl ⟨hk, rfl⟩⟩
      · exact ⟨_, Or.inr ⟨hk, rfl⟩⟩
    have hget : Calls Tryz.prog 63 #[.slice (some ⟨g, off, none⟩) len cap, .int .i64 7] w fun e w' => e = .returned (.tuple #[.int .i64 n, .int .i64 u, x]) ∧ w = w' := by
      refine (get_row g off len cap Z 7 w hr).mono ?_
      rintro e w' ⟨⟨n', u', x', rfl, hg'⟩, rfl⟩
      rw [hg] at hg'
      rcases hg' with ⟨h, rfl⟩ | ⟨k', hk', h, rfl⟩
      · cases h
        rcases hx with ⟨_, rfl⟩ | ⟨h, _⟩
        · exact ⟨rfl, rfl⟩
        · exact absurd rfl h
      · cases h
        rcases hx with ⟨h, _⟩ | ⟨_, rfl⟩
        · exact absurd h hk'
        · exact ⟨rfl, rfl⟩
    have hbd := getF_bd Z 7 (by decide) (by decide)
    rw [hg, hr.hlen] at hbd
    by_cases hk : k = 0
    · obtain ⟨h1, h2, h3⟩ := hbd hk
      simp at h1 h2 h3
      by_cases hbad : 400 < n ∨ (len : Int) - u < n
      · exact hread_bad _ len cap Z w n u k x hr.hlen hg hx (Or.inl h1) (by omega) h3 hlm hget (Or.inr hbad)
      · obtain ⟨n', rfl⟩ := Int.eq_ofNat_of_zero_le h1
        obtain ⟨u', rfl⟩ := Int.eq_ofNat_of_zero_le (show 0 ≤ u by omega)
        subst hk
        have hxn : x = .nilIface := by
          rcases hx with h | h
          · exact h.2
          · exact absurd rfl h.1
        subst hxn
        exact hread_good g off len cap Z w hr n' u' hg (by omega) (by omega) (by omega) hlm hget
    · have h0 : 0 ≤ u ∧ u ≤ len := by
        have := getF_used Z 7
        rw [hg] at this
        simp only at this
        rw [hr.hlen] at this
        exact this
      exact hread_bad _ len cap Z w n u k x hr.hlen hg hx (Or.inr hk) h0.1 h0.2 hlm hget (Or.inl hk)
theorem hreadS : HReadSaid := by
  intro a len cap Z w hA hl
  refine (hread_any a len cap Z w hA (by omega)).mono ?_
  rintro e w' ⟨hx, hb⟩
  exact ⟨hb, hx⟩
end Go.Proofs.YtkjfhgoddhigmacGreatDoor
