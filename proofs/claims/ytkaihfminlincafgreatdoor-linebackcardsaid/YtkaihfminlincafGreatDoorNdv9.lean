/-
  MESSAGES AS LINES: the developers' reader: length. No claim by itself.
-/
import Derived.Test.YtkaihfminlincafGreatDoorNdv8
namespace Go.Proofs.YtkaihfminlincafGreatDoor
open Go Go.RowKit Go.Shelf
set_option maxRecDepth 100000
theorem fail_rs (w0 : World) (lb : Nat) (a : Option Addr) (len cap : Nat) (Z : List Int) (q : Nat) (bad e : Int) (w : World) (h : RS w0 w lb a len cap Z q bad) (he : e ≠ 0) :
    Calls Tryz.prog 55 #[rptr lb, .iface 57 (.int .i64 e)] w fun x w' => x = .returned (.tuple #[]) ∧ RS w0 w' lb a len cap Z q (if bad = 0 then e else bad) ∧ Tr lb w w' := by
  rw [← errW_ne he]
  by_cases hb : bad = 0
  · subst hb
    rw [if_pos rfl]
    refine (nfail_any lb a len cap q e w h.mem he).mono ?_
    rintro x w' ⟨rfl, rfl⟩
    exact ⟨rfl, h.wrong e, (Tr.refl _ _).set⟩
  · rw [if_neg hb]
    refine (nfail_no lb a len cap q bad e w h.mem hb).mono ?_
    rintro x w' ⟨rfl, rfl⟩
    exact ⟨rfl, h, Tr.refl _ _⟩
theorem digit_go (w0 : World) (lb : Nat) (a : Option Addr) (len cap : Nat) (Z : List Int) (q : Nat) (least most : Int) (hl : 0 ≤ least) (hm : most ≤ 9) (wx : World) (h : RS w0 wx lb a len cap Z q 0) :
    Calls Tryz.prog 56 #[rptr lb, .int .i64 least, .int .i64 most] wx fun e w' => ∃ (v : Int) (q' : Nat) (bad : Int), e = .returned (.int .i64 v) ∧ -48 ≤ v ∧ v ≤ 207 ∧ RS w0 w' lb a len cap Z q' bad ∧ Tr lb wx w' ∧
      ((bad = 0 ∧ q' = q + 1 ∧ digQ least most (Z.drop q) = (0, v, Z.drop q')) ∨ (bad ≠ 0 ∧ q' = q ∧ (digQ least most (Z.drop q)).1 = bad)) := by
  obtain ⟨W2, hW2⟩ : ∃ W2, (wx.alloc (.cells #[.int .i64 least] 3)).alloc (.cells #[.int .i64 most] 3) = W2 := ⟨_, rfl⟩
  have hb2 : Below wx.heap.size wx W2 := by rw [← hW2]; exact ((Below.refl _ wx).alloc (Nat.le_refl _) _).alloc (by simp) _
  have e1 : W2.heap[wx.heap.size]? = some (.cells #[.int .i64 least] 3 (0, 0)) := by rw [← hW2, Below.heap_alloc _ _ _ (by simp)]; exact heap_alloc_new wx _
  have e2 : W2.heap[wx.heap.size + 1]? = some (.cells #[.int .i64 most] 3 (0, 0)) := by
    rw [← hW2]
    have := heap_alloc_new (wx.alloc (.cells #[.int .i64 least] 3)) (.cells #[.int .i64 most] 3 (0, 0))
    simpa using this
  have HN := vl (nnext_go w0 lb a len cap Z q 68 #[.pointer (some ⟨wx.heap.size, 0, none⟩), .pointer (some ⟨wx.heap.size + 1, 0, none⟩)] (dgB least most) W2 (h.on hb2) (enters_of Tryz.func68 (by kernel_rfl) rfl) (fun c W c0 c1 hb => ndigit1_any _ _ least most c W (o1 ((hb.block _ (Array.getElem?_eq_some_iff.1 e1).1).trans e1)).1 (o1 ((hb.block _ (Array.getElem?_eq_some_iff.1 e2).1).trans e2)).1 c0 c1 hl hm))
  have HT : Vl (Tr lb wx W2) := Tr.of hb2
  have HQ : Vl (∀ b : List Int, digQ least most b = bindP (nxtP (dgB least most)) (fun c => retP (c - 48)) b) := fun b => by
    have := congrFun (dig_is (f := fun v : Int => (retP v : Pz Int)) least most) b
    rw [← this]
    unfold bindP retP
    match hx : digQ least most b with
    | (e, v, r) =>
      by_cases he : e = 0
      · subst he; rfl
      · unfold digQ at hx
        match b with
        | [] => simp [lookP] at hx; simp [← hx.1, ← hx.2.1, hx.2.2]
        | c :: r' =>
          rw [lookP] at hx
          split at hx
          · simp [bindP, skipP, retP] at hx
            omega
          · simp [failP] at hx
            simp [← hx.1, ← hx.2.1, hx.2.2]
  unfold rptr at HN ⊢
  clear h hb2 e1 e2
  go_enter Tryz.func56, Tryz.ntmps56
  go_wp2_with fail
  try rw [hW2]
  clear hW2
  refine HN.out.mono ?_
  rintro e w3 ⟨c, q', bad, rfl, c0, c1, hs, ht, hcase⟩
  have HD := vl hs
  have HT3 : Vl (Tr lb wx w3) := HT.out.trans ht
  have HC := vl hcase
  clear hs ht HN hcase
  go_wp2
  go_ret
  refine ⟨c - 48, q', bad, rfl, by omega, by omega, HD.out, HT3.out, ?_⟩
  rcases HC.out with ⟨h1, h2, _, _, h3⟩ | ⟨h1, h2, h3⟩
  · refine Or.inl ⟨h1, h2, ?_⟩
    rw [HQ.out, bindP_ok h3]
    rfl
  · refine Or.inr ⟨h1, h2, ?_⟩
    rw [HQ.out, bindP_no (by rw [h3]; exact h1), h3]
section
variable {β : Type} [Inhabited β]
theorem len_step {n : Int} {K : Int → Pz β} {b : List Int} (hn : 0 < n) (hb : b = [] ∨ b.headD 0 ≠ 13) : bindP (lenR n) K b = bindP (digQ 0 9) (fun v => if 8000 < 10 * n + v then failP 4 else bindP (lenR (10 * n + v)) K) b := by
  match b with
  | [] =>
    unfold bindP
    simp [lenR, hn, digQ, lookP]
  | c :: r =>
    have hc : c ≠ 13 := by simpa using hb
    have e : lenR n (c :: r) = if c < 48 ∨ 57 < c then (2, 0, []) else if 8000 < 10 * n + (c - 48) then (4, 0, []) else lenR (10 * n + (c - 48)) r := by rw [lenR, if_neg (by omega)]
    by_cases h1 : c < 48 ∨ 57 < c
    · have e2 : digQ 0 9 (c :: r) = (2, default, []) := by
        unfold digQ
        rw [lookP, if_neg (by omega)]
        rfl
      unfold bindP
      rw [e, if_pos h1, e2]
      simp
    · have e2 : digQ 0 9 (c :: r) = (0, c - 48, r) := dig_say (by omega) r
      rw [bindP_ok e2]
      by_cases h2 : 8000 < 10 * n + (c - 48)
      · rw [if_pos h2]
        unfold bindP
        rw [e, if_neg h1, if_pos h2]
        simp [failP]
      · rw [if_neg h2]
        unfold bindP
        rw [e, if_neg h1, if_neg h2]
theorem len_stop {n : Int} {K : Int → Pz β} {b : List Int} (h : ¬ 0 < n ∨ (b ≠ [] ∧ b.headD 0 = 13)) : bindP (lenR n) K b = K n b := by
  have e : lenR n b = (0, n, b) := by
    match b with
    | [] =>
      have hn : ¬ 0 < n := h.resolve_right (by simp)
      simp [lenR, hn]
    | c :: r =>
      rw [lenR, if_pos (h.imp id (fun k => by simpa using k))]
  rw [bindP_ok e]
/-- What was read of a length so far. -/
def LnI (G : Int × β × List Int) (K : Int → Pz β) (Z : List Int) (n : Int) (q : Nat) (bad : Int) : Prop :=
  (bad = 0 ∧ n ≤ 8000 ∧ G = bindP (lenR n) K (Z.drop q)) ∨ (bad ≠ 0 ∧ G.1 = bad)
/-- What the loop's test says. -/
def LnT (Z : List Int) (len : Nat) (n : Int) (q : Nat) (bad : Int) (bb : Bool) : Prop :=
  (bb = true ∧ 0 < n ∧ bad = 0 ∧ (q = len ∨ Z.getD q 0 ≠ 13)) ∨ (bb = false ∧ (¬ 0 < n ∨ bad ≠ 0 ∨ (q < len ∧ Z.getD q 0 = 13)))
theorem drop_head {Z : List Int} {q : Nat} (h : q < Z.length) : Z.drop q ≠ [] ∧ (Z.drop q).headD 0 = Z.getD q 0 := by
  rw [drop_at h]
  exact ⟨by simp, rfl⟩
variable {G : Int × β × List Int} {w0 wx : World} {lb : Nat} {a : Option Addr} {len cap : Nat} {Z : List Int}
set_option maxHeartbeats 2000000 in
theorem length_st {f : Int → Pz β} (least : Int) (hl : 0 ≤ least) (h : Dst G (bindP (lenQ least) f) w0 wx lb a len cap Z) :
    Calls Tryz.prog 18 #[rptr lb, .int .i64 least] wx fun e w' => ∃ v : Int, e = .returned (.int .i64 v) ∧ -100000 ≤ v ∧ v ≤ 100000 ∧ Dst G (f v) w0 w' lb a len cap Z ∧ Tr lb wx w' := by
  unfold lenQ at h
  simp only [bind_assoc, bind_ret] at h
  have H1 := vl (word_st (s := ⟨#[32]⟩) (by decide) (show Dst G (bindP (mtsP (unums ⟨#[32]⟩)) _) w0 wx lb a len cap Z from h))
  unfold rptr at H1 ⊢
  clear h
  go_enter Tryz.func18, Tryz.ntmps18
  go_wp2_with fail
  refine H1.out.mono ?_
  rintro e w1 ⟨rfl, hd1, ht1⟩
  have H2 := vl (digit_st least 9 hl (by omega) hd1)
  have HT1 := vl ht1
  unfold rptr at H2
  clear H1 hd1 ht1
  go_wp2_with fail
  refine H2.out.mono ?_
  rintro e w2 ⟨v2, rfl, v2a, v2b, hd2, ht2⟩
  have HT2 : Vl (Tr lb wx w2) := HT1.out.trans ht2
  obtain ⟨q0, bad0, hR, hG⟩ := hd2
  have HR := vl hR
  have HZL := vl hR.zlen
  have hmost := hR.most
  unfold ULim at hmost
  have hq0 := hR.le
  obtain ⟨K, hK⟩ : ∃ K : Int → Pz β, K = fun v => bindP (mtsP [13, 10]) fun _ => f v := ⟨_, rfl⟩
  have HI0 : Vl (LnI G K Z v2 q0 bad0) := by
    rw [hK]
    rcases hG with ⟨h1, h2⟩ | h1
    · exact Or.inl ⟨h1, by omega, h2⟩
    · exact Or.inr h1
  have HK := vl hK
  clear H2 ht2 hR hG hK HT1
  go_wp2_with fail
  go_loopg [5] (len + 2) (fun gf x wr => ∃ (n : Int) (q : Nat) (bad : Int), x = .int .i64 n ∧ -100000 ≤ n ∧ n ≤ 100000 ∧ Vl (RS w0 wr lb a len cap Z q bad) ∧ Vl (Tr lb wx wr) ∧ Vl (LnI G K Z n q bad) ∧ Vl (bad = 0 → len + 1 ≤ q + gf))
  case atStart => exact ⟨v2, q0, bad0, rfl, by omega, by omega, HR.out, HT2.out, HI0.out, fun _ => by omega⟩
  case round =>
    obtain ⟨n, q, bad, rfl, hn1, hn2, HS, HT, HI, HGK⟩ := hrel
    clear HR HI0 HT2
    have c2 := HS.out.mem.c2
    have hle := HS.out.le
    go_upto_region 3 with fail
    go_cut [25] (fun b wc => ∃ bb : Bool, b = .bool bb ∧ Vl (Below wr.heap.size wr wc) ∧ Vl (LnT Z len n q bad bb))
    case first =>
      as_aux_lemma =>
        by_cases hn : 0 < n
        · by_cases hbad : bad = 0
          · subst hbad
            rw [errW_0] at c2
            have HSE := vl (nsees_any lb a len cap Z q 0 13 wr HS.out.mem HS.out.now hle HS.out.most)
            unfold rptr at HSE
            obtain ⟨sb, hsb⟩ : ∃ sb, seesL Z q 13 = sb := ⟨_, rfl⟩
            rw [hsb] at HSE
            have HSB := vl hsb
            clear hsb
            go_wp2_with fail
            refine HSE.out.mono ?_
            rintro e w3 ⟨rfl, hb1⟩
            cases sb with
            | true =>
              have hx := HSB.out
              unfold seesL at hx
              rw [Bool.and_eq_true, decide_eq_true_eq, decide_eq_true_eq, HZL.out] at hx
              have HX : Vl (LnT Z len n q 0 false) := Or.inr ⟨rfl, Or.inr (Or.inr hx)⟩
              clear hx
              go_wp2
              go_meet
              exact ⟨false, rfl, hb1, HX.out⟩
            | false =>
              have hx : q = len ∨ Z.getD q 0 ≠ 13 := by
                rcases Nat.lt_or_ge q len with h | h
                · right
                  intro e
                  have hs := HSB.out
                  unfold seesL at hs
                  rw [decide_eq_true e, decide_eq_true (by rw [HZL.out]; exact h)] at hs
                  cases hs
                · left; omega
              have HX : Vl (LnT Z len n q 0 true) := Or.inl ⟨rfl, hn, rfl, hx⟩
              clear hx
              go_wp2
              go_meet
              exact ⟨true, rfl, hb1, HX.out⟩
          · rw [errW_ne hbad] at c2
            have HX : Vl (LnT Z len n q bad false) := Or.inr ⟨rfl, Or.inr (Or.inl hbad)⟩
            clear hbad
            go_wp2
            go_meet
            exact ⟨false, rfl, Below.refl _ _, HX.out⟩
        · have HX : Vl (LnT Z len n q bad false) := Or.inr ⟨rfl, Or.inl hn⟩
          have hd : decide (0 < n) = false := decide_eq_false hn
          clear c2
          go_wp2
          go_meet
          exact ⟨false, rfl, Below.refl _ _, HX.out⟩
    case rest =>
    obtain ⟨bb, rfl, hbc, HC⟩ := hcut
    have HS1 := vl (HS.out.on hbc.out)
    have HT1 : Vl (Tr lb wx wc) := HT.out.on hbc.out
    clear HS HT hbc c2
    cases bb with
    | true =>
      obtain ⟨hn, hbad, hns⟩ : 0 < n ∧ bad = 0 ∧ (q = len ∨ Z.getD q 0 ≠ 13) := by
        rcases HC.out with ⟨_, h⟩ | ⟨h, _⟩
        · exact h
        · cases h
      subst hbad
      have hgk := HGK.out rfl
      obtain ⟨hn8, hG⟩ : n ≤ 8000 ∧ G = bindP (lenR n) K (Z.drop q) := by
        rcases HI.out with ⟨_, h⟩ | ⟨h, _⟩
        · exact h
        · exact absurd rfl h
      rw [len_step hn (by
        rcases Nat.lt_or_ge q len with h | h
        · right
          rw [(drop_head (by rw [HZL.out]; exact h)).2]
          exact hns.resolve_left (by omega)
        · left
          exact List.drop_of_length_le (by rw [HZL.out]; exact h))] at hG
      have H3 := vl (digit_go w0 lb a len cap Z q 0 9 (by omega) (by omega) wc HS1.out)
      have HG := vl hG
      unfold rptr at H3
      clear hG hns HC HS1
      go_wp2_with fail
      refine H3.out.mono ?_
      rintro e w3 ⟨v, q', bad', rfl, va, vb, hs3, ht3, hcase⟩
      have HT3 : Vl (Tr lb wx w3) := HT1.out.trans ht3
      obtain ⟨g', rfl⟩ : ∃ g', gk = g' + 1 := ⟨gk - 1, by omega⟩
      obtain ⟨m, hm⟩ : ∃ m, 10 * n + v = m := ⟨_, rfl⟩
      have HCS : Vl (LnI G K Z m q' bad' ∨ (bad' = 0 ∧ 8000 < m ∧ G.1 = 4)) := by
        rcases hcase with ⟨h1, h2, h3⟩ | ⟨h1, h2, h3⟩
        · have hg := HG.out
          rw [bindP_ok h3, hm] at hg
          by_cases h8 : 8000 < m
          · rw [if_pos h8] at hg
            exact Or.inr ⟨h1, h8, by rw [hg]; rfl⟩
          · rw [if_neg h8] at hg
            exact Or.inl (Or.inl ⟨h1, by omega, hg⟩)
        · refine Or.inl (Or.inr ⟨h1, ?_⟩)
          rw [HG.out, bindP_no (by rw [h3]; exact h1), h3]
      have HQ : Vl (bad' = 0 → len + 1 ≤ q' + g') := fun h0 => by
        rcases hcase with ⟨_, h2, _⟩ | ⟨h1, _⟩
        · omega
        · exact absurd h0 h1
      have hm1 : -100000 ≤ m := by omega
      have hm2 : m ≤ 100000 := by omega
      have HS3 := vl hs3
      clear hcase hs3 ht3 H3 HG HT1 hgk HI HGK
      by_cases h8 : 8000 < m
      · have H4 := vl (fail_rs w0 lb a len cap Z q' bad' 4 w3 HS3.out (by omega))
        have HI4 : Vl (LnI G K Z m q' (if bad' = 0 then 4 else bad')) := by
          rcases HCS.out with (⟨_, h, _⟩ | ⟨h, h'⟩) | ⟨h, _, h'⟩
          · omega
          · show LnI G K Z m q' _
            rw [if_neg h]
            exact Or.inr ⟨h, h'⟩
          · show LnI G K Z m q' _
            rw [if_pos h]
            exact Or.inr ⟨by omega, h'⟩
        obtain ⟨bad4, hb4⟩ : ∃ b4, (if bad' = 0 then 4 else bad') = b4 := ⟨_, rfl⟩
        have HB4 : Vl (bad4 ≠ 0) := by
          show bad4 ≠ 0
          rw [← hb4]
          split <;> omega
        rw [hb4] at H4 HI4
        unfold rptr at H4
        clear hb4 HCS HS3 HQ
        go_wp2_with fail
        refine H4.out.mono ?_
        rintro e w4 ⟨rfl, hs4, ht4⟩
        have HS4 := vl hs4
        have HT4 : Vl (Tr lb wx w4) := HT3.out.trans ht4
        clear H4 hs4 ht4
        go_wp2
        go_roundg g'
        case measure => omega
        case rel => exact ⟨m, q', bad4, rfl, hm1, hm2, HS4.out, HT4.out, HI4.out, fun h => absurd h HB4.out⟩
      · have HI4 : Vl (LnI G K Z m q' bad') := by
          rcases HCS.out with h | ⟨_, h, _⟩
          · exact h
          · exact absurd h h8
        clear HCS
        go_wp2
        go_roundg g'
        case measure => omega
        case rel => exact ⟨m, q', bad', rfl, hm1, hm2, HS3.out, HT3.out, HI4.out, HQ.out⟩
    | false =>
      have hD : Dst G (K n) w0 wc lb a len cap Z := by
        refine ⟨q, bad, HS1.out, ?_⟩
        rcases HI.out with ⟨h1, _, h2⟩ | h1
        · refine Or.inl ⟨h1, ?_⟩
          rw [h2]
          refine len_stop ?_
          rcases HC.out with ⟨h, _⟩ | ⟨_, h | h | h⟩
          · cases h
          · exact Or.inl h
          · exact absurd h1 h
          · have := drop_head (Z := Z) (q := q) (by rw [HZL.out]; exact h.1)
            exact Or.inr ⟨this.1, this.2.trans h.2⟩
        · exact Or.inr h1
      rw [HK.out] at hD
      have H3 := vl (word_st (s := ⟨#[13, 10]⟩) (by decide) (show Dst G (bindP (mtsP (unums ⟨#[13, 10]⟩)) _) w0 wc lb a len cap Z from hD))
      unfold rptr at H3
      clear hD HC HI HS1
      go_wp2_with fail
      refine H3.out.mono ?_
      rintro e w3 ⟨rfl, hd3, ht3⟩
      have HD3 := vl hd3
      have HT3 : Vl (Tr lb wx w3) := HT1.out.trans ht3
      clear H3 hd3 ht3
      go_wp2
      go_ret
      exact ⟨n, rfl, hn1, hn2, HD3.out, HT3.out⟩
end
end Go.Proofs.YtkaihfminlincafGreatDoor
