/-
  THE WALK of the law LimitHolds. No claim by itself.
-/
import Derived.Test.YtdcjkdoedkjpfahBl4
import Derived.Deep.AppendLies
namespace Go.Proofs.Ytdcjkdoedkjpfah
open Go.RowKit Go.Maps
set_option maxRecDepth 100000
theorem i_info3 : (Try.prog.info? 3).map (fun i => (i.zero, i.size, i.bytes)) = some (some (.int .i64 0), 1, 8) := by kernel_rfl
theorem LH.new {w w1 w2 : World} {lb mb : Nat} {r b : Int} {D : BDat} (h1 : Below w.heap.size w w1) (h2 : Below w1.heap.size w1 w2) (h : LimM w2 lb mb r b D (fun _ => none) 0) (hS : ∀ k, Bl2 lb mb k → w1.heap.size ≤ k) : LH w w2 lb mb r b none (.slice none 0 0) (.slice none 0 0) [] [] :=
  ⟨h1.trans (h2.mono h1.size), ⟨D, by rw [← oneF_none]; exact h⟩, ⟨rfl, Or.inl ⟨rfl, rfl⟩⟩, ⟨rfl, Or.inl ⟨rfl, rfl⟩⟩, fun k hk => Nat.le_trans h1.size (hS k hk), (fun k hk => by cases hk), (fun k hk => by cases hk)⟩
theorem row_cells {w : World} {base g c n : Nat} {L : List Int} (h : w.ownsRow base 3 1 (.slice (some ⟨g, 0, none⟩) n c) L.length (L.map (Value.int .i64))) : n = L.length ∧ n ≤ c ∧ c ≤ maxLen ∧ ∀ t, t < n → w.cell? ⟨g, t, none⟩ = some (.int .i64 (L.getD t 0)) := by
  have h0 := h
  rcases h.2 with ⟨hv, _⟩ | ⟨g', cap, cur, hv, hb, hc, h1, h2, _⟩
  · cases hv
  · injection hv with e1 e2 e3
    subst e2 e3
    refine ⟨rfl, h1, h2, fun t ht => ?_⟩
    rw [h0.cellAt t (by omega)]
    simp [List.getD, List.getElem?_eq_getElem ht]
theorem sum_range {L : List Int} (h : ∀ j, 0 ≤ L.getD j 0 ∧ L.getD j 0 ≤ 1000) : ∀ q, 0 ≤ (L.drop q).sum ∧ (L.drop q).sum ≤ 1000 * (L.length - q : Nat) := by
  intro q
  induction hq : L.length - q generalizing q with
  | zero =>
    rw [List.drop_eq_nil_of_le (by omega)]
    simp
  | succ n ih =>
    have h1 : q < L.length := by omega
    have h2 := ih (q + 1) (by omega)
    have h3 := h q
    rw [List.drop_eq_getElem_cons h1, List.sum_cons]
    have e : L[q] = L.getD q 0 := by simp [List.getD, List.getElem?_eq_getElem h1]
    rw [e]
    omega
theorem sum_step {L : List Int} {q : Nat} (h : q < L.length) : (L.drop q).sum = (L.drop (q + 1)).sum + L.getD q 0 := by
  rw [List.drop_eq_getElem_cons h, List.sum_cons]
  have e : L[q] = L.getD q 0 := by simp [List.getD, List.getElem?_eq_getElem h]
  rw [e]
  omega
theorem nowL_same {r b l now : Int} (h : l ≤ b) : nowL r b (some (l, now)) now = l := by
  unfold nowL
  simp only [Int.sub_self, Int.zero_mul, Int.add_zero]
  omega
set_option maxHeartbeats 8000000 in
theorem holds_ok (r b : Int) (ta : Option Addr) (tl tc : Nat) (TZ : List Int) (aa : Option Addr) (al ac : Nat) (AZ : List Int) (w : World) (hT : NArg w ta tl tc TZ) (hA : NArg w aa al ac AZ) :
    Calls Try.prog 3 #[.int .i64 r, .int .i64 b, .slice ta tl tc, .slice aa al ac] w fun e w' => e = .returned (.bool true) ∧ Below w.heap.size w w' := by
  obtain ⟨i0, hi, hz0, hz1, hz2⟩ := info_parts i_info3
  have HT : Vl (∀ wx, Below w.heap.size w wx → NArg wx ta tl tc TZ) := fun wx hb => hT.below hb
  have HA : Vl (∀ wx, Below w.heap.size w wx → NArg wx aa al ac AZ) := fun wx hb => hA.below hb
  have HN1 := vl (blnew_any 1 5 w)
  clear hT hA
  go_enter Try.func3, Try.ntmps3
  go_wp2_with fail
  refine HN1.out.mono ?_
  rintro e w1 ⟨hb1, h | ⟨hn, _⟩⟩
  case inr => exact absurd ⟨by decide, by decide, by decide, by decide⟩ hn
  obtain ⟨_, _, _, _, lb0, S0, rfl, ⟨mb0, D0, hl0, rfl⟩, hS0, _⟩ := h
  have HL1 := LH.new (Below.refl _ w) hb1 hl0 hS0
  have A1 := vl (ask_one HL1 ⟨by decide, by decide, by decide, by decide, (fun l a e => by cases e)⟩ (now := 0) ⟨by decide, by decide⟩ (fun l a e => by cases e) 5 ⟨by decide, by decide⟩)
  unfold lptr at *
  clear hb1 hl0 hS0 HL1 HN1
  go_wp2_with fail
  refine A1.out.mono ?_
  rintro e w2 ⟨rfl, hL2⟩
  have hL2 : LH w w2 lb0 mb0 1 5 (some (0, 0)) (.slice none 0 0) (.slice none 0 0) [] [] := hL2
  rw [show decide ((5 : Int) ≤ nowL 1 5 none 0) = true from rfl]
  have A2 := vl (ask_one hL2 ⟨by decide, by decide, by decide, by decide, (fun l a e => by cases e; decide)⟩ (now := 1) ⟨by decide, by decide⟩ (fun l a e => by cases e; decide) 2 ⟨by decide, by decide⟩)
  unfold lptr at *
  clear hL2 A1
  go_wp2_with fail
  refine A2.out.mono ?_
  rintro e w3 ⟨rfl, hL3⟩
  rw [show decide ((2 : Int) ≤ nowL 1 5 (some (0, 0)) 1) = false from rfl]
  have HB3 := vl hL3.old
  have HN2 := vl (blnew_any r b w3)
  clear hL3 A2
  go_wp2_with fail
  refine HN2.out.mono ?_
  rintro e w4 ⟨hb4, h | ⟨hn, rfl⟩⟩
  case inr =>
    have HB4 := vl (HB3.out.trans (hb4.mono HB3.out.size))
    clear hb4 hn HN2
    go_wp2
    go_ret
    exact ⟨rfl, HB4.out⟩
  obtain ⟨r0, _, b0, _, lb, S1, rfl, ⟨mb, D1, hl1, rfl⟩, hS1, _⟩ := h
  have L4 := vl (LH.new HB3.out hb4 hl1 hS1)
  unfold lptr
  clear hb4 hl1 hS1 HN2 HB3
  by_cases q1 : 1000 < r
  · go_wp2
    go_ret
    exact ⟨rfl, L4.out.old⟩
  by_cases q2 : 1000 < b
  · go_wp2
    go_ret
    exact ⟨rfl, L4.out.old⟩
  have LN4 : Vl (LN r b none) := ⟨r0, by omega, b0, by omega, (fun l a e => by cases e)⟩
  have GR4 : Vl (Gr r b 0 none [] []) := ⟨rfl, (fun j => by simp), (fun j hj => by simp at hj), (fun _ => rfl), (fun l a e => by cases e)⟩
  go_wp2_with fail
  go_loopw [17, 18, 19, 20, 21, 22, 23, 24, 25, 26, 27, 28, 29, 30] (fun now at_ took i _ _ _ _ _ _ _ _ _ _ wr => ∃ (m : Nat) (nv : Int) (o : Option (Int × Int)) (A T : List Int), i = .int .i64 m ∧ now = .int .i64 nv ∧ m ≤ 40 ∧ 0 ≤ nv ∧ nv ≤ 2000 * (m : Int) ∧ Vl (LH w wr lb mb r b o at_ took A T) ∧ Vl (Gr r b nv o A T) ∧ Vl (LN r b o) ∧ Vl (A.length = m)) (fun _ _ _ i _ _ _ _ _ _ _ _ _ _ _ => 40 - (intOf i).toNat)
  case atStart => exact ⟨0, 0, none, [], [], rfl, rfl, by omega, by omega, by omega, L4.out, GR4.out, LN4.out, vl rfl⟩
  case round =>
    obtain ⟨m, nv, o, A, T, rfl, rfl, hm, nv0, nv1, L0, GR0, LN0, HAl⟩ := hrel
    clear L4 LN4 GR4
    by_cases h1 : m < tl
    case neg =>
      have p1 : ¬ ((m : Int) < (tl : Int)) := by omega
      clear h1
      go_wp2
      go_ret
      exact ⟨rfl, L0.out.old⟩
    have p1 : (m : Int) < (tl : Int) := by omega
    by_cases h2 : m < al
    case neg =>
      have p2 : ¬ ((m : Int) < (al : Int)) := by omega
      clear h2
      go_wp2
      go_ret
      exact ⟨rfl, L0.out.old⟩
    have p2 : (m : Int) < (al : Int) := by omega
    by_cases h3 : m < 40
    case neg =>
      have p3 : ¬ ((m : Int) < 40) := by omega
      clear h3
      go_wp2
      go_ret
      exact ⟨rfl, L0.out.old⟩
    have p3 : (m : Int) < 40 := by omega
    obtain ⟨gx, ox, rfl, x1, x2, hxc⟩ : ∃ g off, ta = some ⟨g, off, none⟩ ∧ tl ≤ tc ∧ tc ≤ maxLen ∧ ∀ wx, Below w.heap.size w wx → wx.cell? ⟨g, off + m, none⟩ = some (.int .i64 (TZ.getD m 0)) := by
      rcases HT.out wr L0.out.old with h | ⟨g, off, ha, c1, c2, hc⟩
      · omega
      · refine ⟨g, off, ha, c1, c2, fun wx hb => ?_⟩
        rcases HT.out wx hb with h | ⟨g', off', ha', _, _, hc'⟩
        · omega
        · rw [ha] at ha'
          injection ha' with ha'
          injection ha' with e1 e2
          rw [e1, e2]
          exact hc' m h1
    obtain ⟨gy, oy, rfl, y1, y2, hyc⟩ : ∃ g off, aa = some ⟨g, off, none⟩ ∧ al ≤ ac ∧ ac ≤ maxLen ∧ ∀ wx, Below w.heap.size w wx → wx.cell? ⟨g, off + m, none⟩ = some (.int .i64 (AZ.getD m 0)) := by
      rcases HA.out wr L0.out.old with h | ⟨g, off, ha, c1, c2, hc⟩
      · omega
      · refine ⟨g, off, ha, c1, c2, fun wx hb => ?_⟩
        rcases HA.out wx hb with h | ⟨g', off', ha', _, _, hc'⟩
        · omega
        · rw [ha] at ha'
          injection ha' with ha'
          injection ha' with e1 e2
          rw [e1, e2]
          exact hc' m h2
    have HX := vl hxc
    have HY := vl hyc
    clear hxc hyc
    generalize TZ.getD m 0 = x at *
    generalize AZ.getD m 0 = y at *
    have xc := HX.out wr L0.out.old
    have yc := HY.out wr L0.out.old
    by_cases q3 : x < 0
    · go_wp2
      go_ret
      exact ⟨rfl, L0.out.old⟩
    by_cases q4 : 1000 < x
    · go_wp2
      go_ret
      exact ⟨rfl, L0.out.old⟩
    obtain ⟨now', hnow⟩ : ∃ now', now' = nv + x := ⟨_, rfl⟩
    have nw : IntKind.i64.wrap (nv + x) = now' := by rw [hnow]; exact IntWalk.i64_in _ ⟨by omega, by omega⟩
    have AO : Vl (AheadOf o now') := fun l a e => by have := (GR0.out.some_ l a e).1; omega
    have n0 : 0 ≤ now' := by omega
    have n1 : now' ≤ 90000 := by omega
    have n2 : now' ≤ 2000 * (m : Int) + 1000 := by omega
    by_cases hy : 1 ≤ y ∧ y ≤ b
    case neg =>
      have A1 := vl (ask_bad L0.out LN0.out (now := now') y hy)
      unfold lptr at A1
      subst hnow
      by_cases q5 : y < 1
      · clear hy
        go_wp2_with fail
        refine A1.out.mono ?_
        rintro e w5 ⟨rfl, hb5⟩
        have HB5 := vl hb5
        have yc5 := HY.out w5 hb5
        clear hb5 A1
        go_wp2
        go_ret
        exact ⟨rfl, HB5.out⟩
      · have q6 : b < y := by omega
        clear hy
        go_wp2_with fail
        refine A1.out.mono ?_
        rintro e w5 ⟨rfl, hb5⟩
        have HB5 := vl hb5
        have yc5 := HY.out w5 hb5
        clear hb5 A1
        go_wp2
        go_ret
        exact ⟨rfl, HB5.out⟩
    have A1 := vl (ask_one L0.out LN0.out ⟨n0, by omega⟩ AO.out y hy)
    have LL := nowL_range LN0.out AO.out
    unfold lptr at A1
    obtain ⟨y0, yb⟩ := hy
    subst hnow
    by_cases hq : y ≤ nowL r b o (nv + x)
    · rw [show decide (y ≤ nowL r b o (nv + x)) = true from decide_eq_true hq] at A1
      go_wp2_with fail
      refine A1.out.mono ?_
      rintro e w5 ⟨rfl, hL5⟩
      have L5 := vl hL5
      clear hL5 A1 nw
      have hnn : nv ≤ nv + x := by omega
      generalize nv + x = now' at *
      have yc5 := HY.out w5 L5.out.old
      have HAT : Vl (A.length = T.length) := GR0.out.len
      have FA : Vl (A.length = m) := HAl.out
      have FT : Vl (T.length = m) := vl (HAT.out.symm.trans HAl.out)
      have OA := vl ((L5.out.below ((Below.refl _ _).alloc (Nat.le_refl _) (.cells #[.int .i64 now'] 3))).rowA)
      rw [FA.out] at OA
      have b5 : w.heap.size ≤ w5.heap.size := L5.out.old.size
      go_wp2_with (at_builtin; refine wpList_append_own_at _ rfl _ _ 22 rfl w.heap.size 3 i0 (.int .i64 0) 1 8 Try.underlying22 hi hz0 hz1 hz2 rfl (by decide) _ _ _ rfl OA.out ⟨w5.heap.size, 0, none⟩ 1 1 [.int .i64 now'] rfl rfl (cell_one_new _ _ _) (by intro u hu; simp at hu; subst hu; rfl) ?c3 ?c4 ?c5 ?_)
      case c3 => unfold maxLen; omega
      case c4 => omega
      case c5 => simp; omega
      intro av' w6 hr6 hg6 _ hat6
      have L6 := vl (LH.appA (L5.out.below ((Below.refl _ _).alloc (Nat.le_refl _) (.cells #[.int .i64 now'] 3))) (by rw [FA.out]; exact hr6) hg6 (by simpa using hat6))
      have s6 : w.heap.size ≤ w6.heap.size := L6.out.old.size
      have hr6' : w6.ownsRow w.heap.size 3 1 av' (m + 1) ((A ++ [now']).map (Value.int .i64)) := by rw [List.map_append]; exact hr6
      obtain ⟨gA, cA, rfl, hgA, hlA⟩ := World.ownsRow.form hr6' (by omega)
      clear hr6 hg6 hat6 hr6' OA L5 b5
      have OT := vl ((L6.out.below ((Below.refl _ _).alloc (Nat.le_refl _) (.cells #[.int .i64 y] 3))).rowT)
      rw [FT.out] at OT
      go_wp2_with (at_builtin; refine wpList_append_own_at _ rfl _ _ 22 rfl w.heap.size 3 i0 (.int .i64 0) 1 8 Try.underlying22 hi hz0 hz1 hz2 rfl (by decide) _ _ _ rfl OT.out ⟨w6.heap.size, 0, none⟩ 1 1 [.int .i64 y] rfl rfl (cell_one_new _ _ _) (by intro u hu; simp at hu; subst hu; rfl) ?c3 ?c4 ?c5 ?_)
      case c3 => unfold maxLen; omega
      case c4 => omega
      case c5 => simp; omega
      intro tv' w7 hr7 hg7 _ hat7
      have L7 := vl (LH.appT (L6.out.below ((Below.refl _ _).alloc (Nat.le_refl _) (.cells #[.int .i64 y] 3))) (by rw [FT.out]; exact hr7) hg7 (by simpa using hat7))
      have hr7' : w7.ownsRow w.heap.size 3 1 tv' (m + 1) ((T ++ [y]).map (Value.int .i64)) := by rw [List.map_append]; exact hr7
      obtain ⟨gT, cT, rfl, hgT, hlT⟩ := World.ownsRow.form hr7' (by omega)
      clear hr7 hg7 hat7 hr7' OT L6 s6
      have GR := vl (GR0.out.ask LN0.out (now' := now') (n := y) (by omega) (by omega) (by omega) (by omega))
      have LN1 : Vl (LN r b (some (nowL r b o now' - y, now'))) := ⟨LN0.out.r0, LN0.out.r1, LN0.out.b0, LN0.out.b1, fun l a e => by cases e; omega⟩
      obtain ⟨L2, hL2⟩ : ∃ L2, L2 = nowL r b o now' - y := ⟨_, rfl⟩
      rw [← hL2] at GR LN1
      have hst : (if y ≤ nowL r b o now' then nowL r b o now' - y else nowL r b o now') = L2 := by rw [hL2]; rw [if_pos hq]
      rw [hst] at L7
      have l20 : 0 ≤ L2 := by omega
      have l21 : L2 ≤ b := by omega
      have eA : Vl ((A ++ [now']).length = m + 1) := vl (by rw [List.length_append]; simp; exact FA.out)
      have eT : Vl ((T ++ [y]).length = m + 1) := vl (by rw [List.length_append]; simp; exact FT.out)
      clear GR0 LN0 L0 hst hL2 LL HAT hq AO hlA hlT
      clear FA FT HAl
      generalize A ++ [now'] = A2 at *
      generalize T ++ [y] = T2 at *
      have CA : Vl (m + 1 ≤ cA ∧ cA ≤ maxLen ∧ ∀ t, t < m + 1 → w7.cell? ⟨gA, t, none⟩ = some (.int .i64 (A2.getD t 0))) := (row_cells L7.out.rowA).2
      have CT : Vl (m + 1 ≤ cT ∧ cT ≤ maxLen ∧ ∀ t, t < m + 1 → w7.cell? ⟨gT, t, none⟩ = some (.int .i64 (T2.getD t 0))) := (row_cells L7.out.rowT).2
      have L8 := L7
      clear L7
      clear A T o
      have SR := vl (sum_range GR.out.took)
      have LT := vl (GR.out.took)
      have GS := vl ((GR.out.some_ L2 now' rfl).2)
      have GA := vl (GR.out.at_)
      have lnb := LN1.out.b1
      go_wp2_with fail
      go_loopw [24, 25] (fun sv kv wq => ∃ (q : Nat), kv = .int .i64 ((q : Int) - 1) ∧ sv = .int .i64 (T2.drop q).sum ∧ q ≤ m + 1 ∧ wq = w7) (fun _ kv _ => (intOf kv + 1).toNat)
      case atStart => exact ⟨m + 1, by first | rfl | (congr 1; omega), by rw [List.drop_eq_nil_of_le (by rw [eT.out]; exact Nat.le_refl _)]; rfl, by omega, rfl⟩
      case round =>
        obtain ⟨q, rfl, rfl, hq, rfl⟩ := hrel
        by_cases h4 : q = 0
        case neg =>
          obtain ⟨q', rfl⟩ : ∃ q', q = q' + 1 := ⟨q - 1, by omega⟩
          have e4 : ((q' + 1 : Nat) : Int) - 1 = (q' : Int) := by omega
          rw [e4]
          have ct := CT.out.2.2 q' (by omega)
          have ca := CA.out.2.2 q' (by omega)
          have cl1 := CT.out.1
          have cl2 := CA.out.1
          have sr := SR.out (q' + 1)
          rw [eT.out] at sr
          have lt := LT.out q'
          have gs := GS.out q' (by rw [eA.out]; omega)
          have ga := GA.out q' (by rw [eA.out]; omega)
          have ss := sum_step (L := T2) (q := q') (by rw [eT.out]; omega)
          rw [ss] at gs
          have SS := vl ss
          have qb : (q' : Int) < ((m + 1 : Nat) : Int) := by omega
          have qc : q' < m + 1 := by omega
          clear ss h4 hq
          generalize (T2.drop (q' + 1)).sum = S0 at *
          generalize T2.getD q' 0 = t0 at *
          generalize A2.getD q' 0 = a0 at *
          have d0 : 0 ≤ r * (now' - a0) := Int.mul_nonneg (by omega) (by omega)
          have d1 : r * (now' - a0) ≤ 1000 * 90000 := Int.mul_le_mul (by omega) (by omega) (by omega) (by omega)
          have j1 : IntKind.i64.wrap (S0 + t0) = S0 + t0 := IntWalk.i64_in _ ⟨by omega, by omega⟩
          have j2 : IntKind.i64.wrap (now' - a0) = now' - a0 := IntWalk.i64_in _ ⟨by omega, by omega⟩
          have j3 : IntKind.i64.wrap (r * (now' - a0)) = r * (now' - a0) := IntWalk.i64_in _ ⟨by omega, by omega⟩
          have j4 : IntKind.i64.wrap (b + r * (now' - a0)) = b + r * (now' - a0) := IntWalk.i64_in _ ⟨by omega, by omega⟩
          have j5 : ¬ (b + r * (now' - a0) < S0 + t0) := by omega
          go_wp2
          go_roundw
          case rel => exact ⟨q', by first | rfl | (congr 1; omega), by rw [SS.out], by omega, by trivial⟩
          case measure => simp [intOf]
        subst h4
        have e4 : ¬ ((0 : Int) ≤ ((0 : Nat) : Int) - 1) := by omega
        have hAh : AheadOf (some (L2, now')) now' := fun l a e => by cases e; omega
        have A4 := vl (left_one L8.out LN1.out (now := now') ⟨n0, by omega⟩ hAh (L2, now') rfl)
        rw [nowL_same l21] at A4
        unfold lptr at A4
        clear SR LT GS GA CA CT hq
        go_wp2_with fail
        refine A4.out.mono ?_
        rintro e w8 ⟨rfl, hL8⟩
        have A5 := vl (wait_one hL8 LN1.out (now := now') ⟨n0, by omega⟩ hAh (L2, now') rfl y ⟨y0, yb⟩)
        rw [nowL_same l21] at A5
        obtain ⟨z0, z1, z2⟩ := wait_range (r := r) (l := L2) (k := y) r0 l20 (by omega)
        obtain ⟨wt, hwt⟩ : ∃ wt, wt = waitF r L2 y := ⟨_, rfl⟩
        rw [← hwt] at A5 z0 z1 z2
        unfold lptr at A5
        have yc8 := HY.out w8 hL8.old
        clear hL8 A4 hwt L8
        go_wp2_with fail
        refine A5.out.mono ?_
        rintro e w9 ⟨rfl, hL9⟩
        have hAh2 : AheadOf (some (L2, now')) (now' + wt) := fun l a e => by cases e; omega
        have A6 := vl (left_one hL9 LN1.out (now := now' + wt) ⟨by omega, by omega⟩ hAh2 (L2, now') rfl)
        obtain ⟨z3, z4⟩ := nowL_range LN1.out hAh2
        have z5 : y ≤ nowL r b (some (L2, now')) (now' + wt) := by
          unfold nowL
          simp only
          rw [show now' + wt - now' = wt by omega]
          omega
        have GR2 := vl (GR.out.wait (now' := now' + wt) (by omega))
        have j6 : IntKind.i64.wrap (now' + wt) = now' + wt := IntWalk.i64_in _ ⟨by omega, by omega⟩
        unfold lptr at A6
        generalize nowL r b (some (L2, now')) (now' + wt) = L3 at *
        clear hL9 A5 hAh hAh2 yc8
        go_wp2_with fail
        refine A6.out.mono ?_
        rintro e w10 ⟨rfl, hL10⟩
        have L10 := vl hL10
        have yc10 := HY.out w10 hL10.old
        have LN2 : Vl (LN r b (some (L3, now' + wt))) := ⟨LN1.out.r0, LN1.out.r1, LN1.out.b0, LN1.out.b1, fun l a e => by cases e; omega⟩
        clear hL10 A6 GR LN1 z2
        go_wp2
        go_roundw
        case rel => exact ⟨m + 1, now' + wt, some (L3, now' + wt), A2, T2, by go_num, rfl, by omega, by omega, by omega, L10.out, GR2.out, LN2.out, eA⟩
        case measure => simp [intOf]; omega
    · rw [show decide (y ≤ nowL r b o (nv + x)) = false from decide_eq_false hq] at A1
      go_wp2_with fail
      refine A1.out.mono ?_
      rintro e w5 ⟨rfl, hL5⟩
      have L5 := vl hL5
      clear hL5 A1 nw
      have hnn : nv ≤ nv + x := by omega
      generalize nv + x = now' at *
      have yc5 := HY.out w5 L5.out.old
      have HAT : Vl (A.length = T.length) := GR0.out.len
      have FA : Vl (A.length = m) := HAl.out
      have FT : Vl (T.length = m) := vl (HAT.out.symm.trans HAl.out)
      have OA := vl ((L5.out.below ((Below.refl _ _).alloc (Nat.le_refl _) (.cells #[.int .i64 now'] 3))).rowA)
      rw [FA.out] at OA
      have b5 : w.heap.size ≤ w5.heap.size := L5.out.old.size
      go_wp2_with (at_builtin; refine wpList_append_own_at _ rfl _ _ 22 rfl w.heap.size 3 i0 (.int .i64 0) 1 8 Try.underlying22 hi hz0 hz1 hz2 rfl (by decide) _ _ _ rfl OA.out ⟨w5.heap.size, 0, none⟩ 1 1 [.int .i64 now'] rfl rfl (cell_one_new _ _ _) (by intro u hu; simp at hu; subst hu; rfl) ?c3 ?c4 ?c5 ?_)
      case c3 => unfold maxLen; omega
      case c4 => omega
      case c5 => simp; omega
      intro av' w6 hr6 hg6 _ hat6
      have L6 := vl (LH.appA (L5.out.below ((Below.refl _ _).alloc (Nat.le_refl _) (.cells #[.int .i64 now'] 3))) (by rw [FA.out]; exact hr6) hg6 (by simpa using hat6))
      have s6 : w.heap.size ≤ w6.heap.size := L6.out.old.size
      have hr6' : w6.ownsRow w.heap.size 3 1 av' (m + 1) ((A ++ [now']).map (Value.int .i64)) := by rw [List.map_append]; exact hr6
      obtain ⟨gA, cA, rfl, hgA, hlA⟩ := World.ownsRow.form hr6' (by omega)
      clear hr6 hg6 hat6 hr6' OA L5 b5
      have OT := vl ((L6.out.below ((Below.refl _ _).alloc (Nat.le_refl _) (.cells #[.int .i64 (0 : Int)] 3))).rowT)
      rw [FT.out] at OT
      go_wp2_with (at_builtin; refine wpList_append_own_at _ rfl _ _ 22 rfl w.heap.size 3 i0 (.int .i64 0) 1 8 Try.underlying22 hi hz0 hz1 hz2 rfl (by decide) _ _ _ rfl OT.out ⟨w6.heap.size, 0, none⟩ 1 1 [.int .i64 (0 : Int)] rfl rfl (cell_one_new _ _ _) (by intro u hu; simp at hu; subst hu; rfl) ?c3 ?c4 ?c5 ?_)
      case c3 => unfold maxLen; omega
      case c4 => omega
      case c5 => simp; omega
      intro tv' w7 hr7 hg7 _ hat7
      have L7 := vl (LH.appT (L6.out.below ((Below.refl _ _).alloc (Nat.le_refl _) (.cells #[.int .i64 (0 : Int)] 3))) (by rw [FT.out]; exact hr7) hg7 (by simpa using hat7))
      have hr7' : w7.ownsRow w.heap.size 3 1 tv' (m + 1) ((T ++ [(0 : Int)]).map (Value.int .i64)) := by rw [List.map_append]; exact hr7
      obtain ⟨gT, cT, rfl, hgT, hlT⟩ := World.ownsRow.form hr7' (by omega)
      clear hr7 hg7 hat7 hr7' OT L6 s6
      have GR := vl (GR0.out.ask LN0.out (now' := now') (n := (0 : Int)) (by omega) (by omega) (by omega) (by omega))
      have LN1 : Vl (LN r b (some (nowL r b o now' - (0 : Int), now'))) := ⟨LN0.out.r0, LN0.out.r1, LN0.out.b0, LN0.out.b1, fun l a e => by cases e; omega⟩
      obtain ⟨L2, hL2⟩ : ∃ L2, L2 = nowL r b o now' - (0 : Int) := ⟨_, rfl⟩
      rw [← hL2] at GR LN1
      have hst : (if y ≤ nowL r b o now' then nowL r b o now' - y else nowL r b o now') = L2 := by rw [hL2]; rw [if_neg (by omega)]; omega
      rw [hst] at L7
      have l20 : 0 ≤ L2 := by omega
      have l21 : L2 ≤ b := by omega
      have eA : Vl ((A ++ [now']).length = m + 1) := vl (by rw [List.length_append]; simp; exact FA.out)
      have eT : Vl ((T ++ [(0 : Int)]).length = m + 1) := vl (by rw [List.length_append]; simp; exact FT.out)
      clear GR0 LN0 L0 hst hL2 LL HAT hq AO hlA hlT
      clear FA FT HAl
      generalize A ++ [now'] = A2 at *
      generalize T ++ [(0 : Int)] = T2 at *
      have CA : Vl (m + 1 ≤ cA ∧ cA ≤ maxLen ∧ ∀ t, t < m + 1 → w7.cell? ⟨gA, t, none⟩ = some (.int .i64 (A2.getD t 0))) := (row_cells L7.out.rowA).2
      have CT : Vl (m + 1 ≤ cT ∧ cT ≤ maxLen ∧ ∀ t, t < m + 1 → w7.cell? ⟨gT, t, none⟩ = some (.int .i64 (T2.getD t 0))) := (row_cells L7.out.rowT).2
      have L8 := L7
      clear L7
      clear A T o
      have SR := vl (sum_range GR.out.took)
      have LT := vl (GR.out.took)
      have GS := vl ((GR.out.some_ L2 now' rfl).2)
      have GA := vl (GR.out.at_)
      have lnb := LN1.out.b1
      go_wp2_with fail
      go_loopw [24, 25] (fun sv kv wq => ∃ (q : Nat), kv = .int .i64 ((q : Int) - 1) ∧ sv = .int .i64 (T2.drop q).sum ∧ q ≤ m + 1 ∧ wq = w7) (fun _ kv _ => (intOf kv + 1).toNat)
      case atStart => exact ⟨m + 1, by first | rfl | (congr 1; omega), by rw [List.drop_eq_nil_of_le (by rw [eT.out]; exact Nat.le_refl _)]; rfl, by omega, rfl⟩
      case round =>
        obtain ⟨q, rfl, rfl, hq, rfl⟩ := hrel
        by_cases h4 : q = 0
        case neg =>
          obtain ⟨q', rfl⟩ : ∃ q', q = q' + 1 := ⟨q - 1, by omega⟩
          have e4 : ((q' + 1 : Nat) : Int) - 1 = (q' : Int) := by omega
          rw [e4]
          have ct := CT.out.2.2 q' (by omega)
          have ca := CA.out.2.2 q' (by omega)
          have cl1 := CT.out.1
          have cl2 := CA.out.1
          have sr := SR.out (q' + 1)
          rw [eT.out] at sr
          have lt := LT.out q'
          have gs := GS.out q' (by rw [eA.out]; omega)
          have ga := GA.out q' (by rw [eA.out]; omega)
          have ss := sum_step (L := T2) (q := q') (by rw [eT.out]; omega)
          rw [ss] at gs
          have SS := vl ss
          have qb : (q' : Int) < ((m + 1 : Nat) : Int) := by omega
          have qc : q' < m + 1 := by omega
          clear ss h4 hq
          generalize (T2.drop (q' + 1)).sum = S0 at *
          generalize T2.getD q' 0 = t0 at *
          generalize A2.getD q' 0 = a0 at *
          have d0 : 0 ≤ r * (now' - a0) := Int.mul_nonneg (by omega) (by omega)
          have d1 : r * (now' - a0) ≤ 1000 * 90000 := Int.mul_le_mul (by omega) (by omega) (by omega) (by omega)
          have j1 : IntKind.i64.wrap (S0 + t0) = S0 + t0 := IntWalk.i64_in _ ⟨by omega, by omega⟩
          have j2 : IntKind.i64.wrap (now' - a0) = now' - a0 := IntWalk.i64_in _ ⟨by omega, by omega⟩
          have j3 : IntKind.i64.wrap (r * (now' - a0)) = r * (now' - a0) := IntWalk.i64_in _ ⟨by omega, by omega⟩
          have j4 : IntKind.i64.wrap (b + r * (now' - a0)) = b + r * (now' - a0) := IntWalk.i64_in _ ⟨by omega, by omega⟩
          have j5 : ¬ (b + r * (now' - a0) < S0 + t0) := by omega
          go_wp2
          go_roundw
          case rel => exact ⟨q', by first | rfl | (congr 1; omega), by rw [SS.out], by omega, by trivial⟩
          case measure => simp [intOf]
        subst h4
        have e4 : ¬ ((0 : Int) ≤ ((0 : Nat) : Int) - 1) := by omega
        have hAh : AheadOf (some (L2, now')) now' := fun l a e => by cases e; omega
        have A4 := vl (left_one L8.out LN1.out (now := now') ⟨n0, by omega⟩ hAh (L2, now') rfl)
        rw [nowL_same l21] at A4
        unfold lptr at A4
        clear SR LT GS GA CA CT hq
        go_wp2_with fail
        refine A4.out.mono ?_
        rintro e w8 ⟨rfl, hL8⟩
        have A5 := vl (wait_one hL8 LN1.out (now := now') ⟨n0, by omega⟩ hAh (L2, now') rfl y ⟨y0, yb⟩)
        rw [nowL_same l21] at A5
        obtain ⟨z0, z1, z2⟩ := wait_range (r := r) (l := L2) (k := y) r0 l20 (by omega)
        obtain ⟨wt, hwt⟩ : ∃ wt, wt = waitF r L2 y := ⟨_, rfl⟩
        rw [← hwt] at A5 z0 z1 z2
        unfold lptr at A5
        have yc8 := HY.out w8 hL8.old
        clear hL8 A4 hwt L8
        go_wp2_with fail
        refine A5.out.mono ?_
        rintro e w9 ⟨rfl, hL9⟩
        have hAh2 : AheadOf (some (L2, now')) (now' + wt) := fun l a e => by cases e; omega
        have A6 := vl (left_one hL9 LN1.out (now := now' + wt) ⟨by omega, by omega⟩ hAh2 (L2, now') rfl)
        obtain ⟨z3, z4⟩ := nowL_range LN1.out hAh2
        have z5 : y ≤ nowL r b (some (L2, now')) (now' + wt) := by
          unfold nowL
          simp only
          rw [show now' + wt - now' = wt by omega]
          omega
        have GR2 := vl (GR.out.wait (now' := now' + wt) (by omega))
        have j6 : IntKind.i64.wrap (now' + wt) = now' + wt := IntWalk.i64_in _ ⟨by omega, by omega⟩
        unfold lptr at A6
        generalize nowL r b (some (L2, now')) (now' + wt) = L3 at *
        clear hL9 A5 hAh hAh2 yc8
        go_wp2_with fail
        refine A6.out.mono ?_
        rintro e w10 ⟨rfl, hL10⟩
        have L10 := vl hL10
        have yc10 := HY.out w10 hL10.old
        have LN2 : Vl (LN r b (some (L3, now' + wt))) := ⟨LN1.out.r0, LN1.out.r1, LN1.out.b0, LN1.out.b1, fun l a e => by cases e; omega⟩
        clear hL10 A6 GR LN1 z2
        go_wp2
        go_roundw
        case rel => exact ⟨m + 1, now' + wt, some (L3, now' + wt), A2, T2, by go_num, rfl, by omega, by omega, by omega, L10.out, GR2.out, LN2.out, eA⟩
        case measure => simp [intOf]; omega
end Go.Proofs.Ytdcjkdoedkjpfah
