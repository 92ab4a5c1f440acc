/-
  CONNECTIONS TO PLACES, as the document's answer keeps them: Tick. No claim by itself.
-/
import Derived.Test.YtibjbdcmhjbndaaDoorMQ
import Derived.Test.YtibjbdcmhjbndaaDoorLo9a
namespace Go.Proofs.YtibjbdcmhjbndaaDoor
open Go Go.RowKit
set_option maxRecDepth 100000
theorem i_info3x : (Tryd.prog.info? 3).map (fun i => (i.zero, i.size, i.bytes)) = some (some (.int .i64 0), 1, 8) := by kernel_rfl
theorem OmP.nowed {w : World} {rb : Nat} {v : Value} {S : Po} (h : OmP w rb v S) (t : Int) : OmP (w.setCell ⟨rb, 2, none⟩ (.int .i64 t)) rb v ⟨S.many, S.last, t, S.turn, S.L⟩ ∧ Tn (HersO rb v) w (w.setCell ⟨rb, 2, none⟩ (.int .i64 t)) := by
  have hT : Tn (fun k => k = rb) w (w.setCell ⟨rb, 2, none⟩ (.int .i64 t)) := tn_set rfl
  exact ⟨⟨heap_setCell_same w rb 2 _ _ _ h.blk, rowo_kept h.row (fun k hk => hT.block k (h.row.lt k hk).2 (by have := (h.row.lt k hk).1; omega))⟩, tn_set (Or.inl rfl)⟩
theorem rowo_mono {w : World} {b b' n : Nat} {v : Value} {xs : List Value} (h : w.ownsRow b 48 5 v n xs) (hb : b' ≤ b) : w.ownsRow b' 48 5 v n xs := by
  obtain ⟨h1, h2 | ⟨g, cap, cur, hv, hg, r⟩⟩ := h
  · exact ⟨h1, Or.inl h2⟩
  · exact ⟨h1, Or.inr ⟨g, cap, cur, hv, Nat.le_trans hb hg, r⟩⟩
theorem ldrewN_below {B : Nat} {w w' : World} (h : Below B w w') (n : Nat) : Below B w (w'.drewN n) := h.trans ⟨rfl, rfl, rfl, Nat.le_refl _, fun _ _ => rfl⟩
/-- A row of numbers that stays. -/
def IRo (n0 : Nat) (w : World) (v : Value) (ids : List Int) : Prop := ∃ a c, v = .slice a ids.length c ∧ ids.length ≤ c ∧ c ≤ maxLen ∧ ∀ j, j < ids.length → ∃ g, a = some ⟨g, 0, none⟩ ∧ g < w.heap.size ∧ n0 ≤ g ∧ w.cell? ⟨g, j, none⟩ = some (.int .i64 (ids.getD j 0))
def keepB (now old : Int) (x : Lk) : Bool := !goesB now old x
theorem gone_yes {L : LL} {now old : Int} {i : Nat} (hi : i < L.length) (hg : goesB now old (lnth L i) = true) : goneL (L.take (i + 1)) now old = goneL (L.take i) now old ++ [(lnth L i).id] := by
  unfold goneL; rw [ltake_nth L i hi, List.filter_append, List.map_append, List.filter_cons_of_pos hg]; rfl
theorem gone_no {L : LL} {now old : Int} {i : Nat} (hi : i < L.length) (hg : goesB now old (lnth L i) = false) : goneL (L.take (i + 1)) now old = goneL (L.take i) now old := by
  unfold goneL; rw [ltake_nth L i hi, List.filter_append, List.map_append, List.filter_cons_of_neg (by simp [hg])]; simp
theorem keep_yes {L : LL} {now old : Int} {i : Nat} (hi : i < L.length) (hg : goesB now old (lnth L i) = false) : (L.take (i + 1)).filter (keepB now old) = (L.take i).filter (keepB now old) ++ [lnth L i] := by
  rw [ltake_nth L i hi, List.filter_append, List.filter_cons_of_pos (by simp [keepB, hg])]; rfl
theorem keep_no {L : LL} {now old : Int} {i : Nat} (hi : i < L.length) (hg : goesB now old (lnth L i) = true) : (L.take (i + 1)).filter (keepB now old) = (L.take i).filter (keepB now old) := by
  rw [ltake_nth L i hi, List.filter_append, List.filter_cons_of_neg (by simp [keepB, hg])]; simp
set_option maxHeartbeats 8000000 in
theorem rotick_any {w : World} {rb : Nat} {v : Value} {S : Po} (h : OmP w rb v S) (hI : PoI S) (now old : Int) :
    Calls Tryd.prog 11 #[.pointer (some ⟨rb, 0, none⟩), .int .i64 now, .int .i64 old] w fun e w' =>
      (tickE S now old ≠ 0 ∧ e = .returned (.tuple #[.slice none 0 0, .int .i64 (tickE S now old)]) ∧ w = w') ∨
      (tickE S now old = 0 ∧ ∃ v8 ids, e = .returned (.tuple #[v8, .int .i64 0]) ∧ TickIds S now old ids ∧ IRo w.heap.size w' v8 ids ∧ OmOut rb v w w' (tickS S now old)) := by
  have hLL : S.L.length ≤ 8 := by have := hI.len; have := hI.many; omega
  have hnw := hI.now
  obtain ⟨c0, c1, c2, c3, c4⟩ := h.cells
  have f2 := h.fr 2
  have HP := vl h
  have HE : Vl (tickE S now old = if now < 0 ∨ 1000000 < now ∨ old < 0 ∨ 1000000 < old then 1 else if now < S.now then 6 else 0) := vl rfl
  have HTU := vl hI.turns
  obtain ⟨a, c, rfl, _, _, _⟩ := oown_shape rfl h.row
  clear h hI
  go_enter Tryd.func11, Tryd.ntmps11
  by_cases q1 : now < 0
  · rw [if_pos (Or.inl q1)] at HE
    go_wp2
    go_ret2
    exact Or.inl ⟨by rw [HE.out]; decide, by rw [HE.out]; rfl, rfl⟩
  by_cases q2 : 1000000 < now
  · rw [if_pos (Or.inr (Or.inl q2))] at HE
    go_wp2
    go_ret2
    exact Or.inl ⟨by rw [HE.out]; decide, by rw [HE.out]; rfl, rfl⟩
  by_cases q3 : old < 0
  · rw [if_pos (Or.inr (Or.inr (Or.inl q3)))] at HE
    go_wp2
    go_ret2
    exact Or.inl ⟨by rw [HE.out]; decide, by rw [HE.out]; rfl, rfl⟩
  by_cases q4 : 1000000 < old
  · rw [if_pos (Or.inr (Or.inr (Or.inr q4)))] at HE
    go_wp2
    go_ret2
    exact Or.inl ⟨by rw [HE.out]; decide, by rw [HE.out]; rfl, rfl⟩
  rw [if_neg (by omega)] at HE
  by_cases q5 : now < S.now
  · rw [if_pos q5] at HE
    go_wp2
    go_ret2
    exact Or.inl ⟨by rw [HE.out]; decide, by rw [HE.out]; rfl, rfl⟩
  rw [if_neg q5] at HE
  obtain ⟨w1, hw1⟩ : ∃ x, w.setCell ⟨rb, 2, none⟩ (.int .i64 now) = x := ⟨_, rfl⟩
  have HP1 := vl (HP.out.nowed now).1
  have HT1 := vl (HP.out.nowed now).2
  have hsz : Vl (w.heap.size ≤ w1.heap.size) := vl (by rw [← hw1]; exact (HP.out.nowed now).2.size)
  rw [hw1] at HP1 HT1
  have HW1 := vl hw1
  clear hw1
  have hrl : rb < w1.heap.size := HP1.out.lt0
  go_wp2_with fail
  rw [HW1.out]
  go_loopw [8, 9, 10] (fun x8 x9 iv wr => ∃ (i : Nat) (zs : List Int), iv = .int .i64 i ∧ i ≤ S.L.length ∧ Vl (TkO w1 wr x8 x9 zs ((S.L.take i).filter (keepB now old))) ∧ Vl (zs.Perm (goneL (S.L.take i) now old) ∧ zs.Pairwise (· ≤ ·))) (fun _ _ iv _ => S.L.length - (intOf iv).toNat)
  case atStart => exact ⟨0, [], rfl, Nat.zero_le _, vl ⟨Below.refl _ _, World.ownsRow_nil _ _ _ _, World.ownsRow_nil _ _ _ _, fun k e => by cases e⟩, vl ⟨List.Perm.nil, List.Pairwise.nil⟩⟩
  case round =>
    obtain ⟨i, zs, rfl, hi, HT, HZ⟩ := hrel
    have HPr := HP1.out.below HT.out.bel
    obtain ⟨d0, d1, d2, d3, d4⟩ := HPr.cells
    have f4 := HPr.fr 4
    obtain ⟨a', c', he, hc1, hc2, hcell⟩ := oown_shape rfl HPr.row
    obtain ⟨rfl, rfl⟩ : a = a' ∧ c = c' := by simpa using he
    have HCL := vl hcell
    unfold maxLen at hc2
    clear c0 c1 c2 c3 c4 f2 he hcell
    by_cases hlt : i < S.L.length
    case neg =>
      have p1 : ¬ ((i : Int) < (S.L.length : Int)) := by omega
      obtain rfl : i = S.L.length := by omega
      rw [List.take_length] at HT HZ
      obtain ⟨a8, c8, rfl, k1, k2, k3⟩ := HT.out.reads
      obtain ⟨a9, c9, rfl, _, _, _⟩ := oown_shape rfl HT.out.r9
      have HO := vl (HP1.out.anew HT.out.bel (rowo_mono HT.out.r9 (by omega)) (fun k hk => (HT.out.r9.lt k hk).1))
      have HK3 := vl k3
      unfold maxLen at k2
      clear k3
      go_wp2
      go_ret2
      obtain ⟨v', o1, o2, o3⟩ := HO.out
      refine Or.inr ⟨HE.out, _, rfl, zs, HZ.out, ⟨a8, c8, rfl, k1, by unfold maxLen; omega, fun j hj => ?_⟩, v', o1, lTn_trans HT1.out o2, fun k hk => (o3 k hk).imp id (Nat.le_trans hsz.out)⟩
      obtain ⟨g, e1, e2, e3, e4, _⟩ := HK3.out j hj
      have hT : Tn (fun k => k = rb) wr (wr.setCell ⟨rb, 4, none⟩ (.slice a9 ((S.L.filter (keepB now old))).length c9)) := tn_set rfl
      exact ⟨g, e1, Nat.lt_of_lt_of_le e2 hT.size, Nat.le_trans hsz.out e3, hT.cell e4 (by omega)⟩
    have p1 : (i : Int) < (S.L.length : Int) := by omega
    obtain ⟨g, rfl, hgb, hgl, ⟨y0, y1, y2, y3, y4⟩, yf⟩ := HCL.out i hlt
    have HTA : Vl (∀ wx, Below wr.heap.size wr wx → TkO w1 wx u8 u9 zs ((S.L.take i).filter (keepB now old))) := vl (fun wx hb => HT.out.below hb)
    have HGY := vl (gone_yes (now := now) (old := old) hlt)
    have HGN := vl (gone_no (now := now) (old := old) hlt)
    have HKY := vl (keep_yes (now := now) (old := old) hlt)
    have HKN := vl (keep_no (now := now) (old := old) hlt)
    have HAT : Vl ((lnth S.L i).busy = false → 0 ≤ (lnth S.L i).at_ ∧ (lnth S.L i).at_ ≤ S.now) := vl (fun e => (HTU.out _ (by rw [← lnth_at hlt]; exact List.getElem_mem hlt) e).2.2)
    have hzl : zs.length ≤ 8 := by
      rw [HZ.out.1.length_eq]
      unfold goneL
      rw [List.length_map]
      exact Nat.le_trans (List.length_filter_le _ _) (by rw [List.length_take]; omega)
    have hml : ((S.L.take i).filter (keepB now old)).length ≤ 8 := Nat.le_trans (List.length_filter_le _ _) (by rw [List.length_take]; omega)
    obtain ⟨o, ho⟩ : ∃ o, lnth S.L i = o := ⟨_, rfl⟩
    rw [ho] at y0 y1 y2 y3 y4 HGY HGN HKY HKN HAT
    obtain ⟨i1, hi1, ha1, ha2, ha3⟩ := info_parts infoLk
    obtain ⟨i0, hi0, hz0, hz1, hz2⟩ := info_parts i_info3x
    have HI1 := vl (And.intro hi1 (And.intro ha1 (And.intro ha2 ha3)))
    have HI0 := vl (And.intro hi0 (And.intro hz0 (And.intro hz1 hz2)))
    clear hi1 ha1 ha2 ha3 hi0 hz0 hz1 hz2 HCL HTU ho
    obtain ⟨oi, ot, ob, oa, ou⟩ := o
    dsimp only at y0 y1 y2 y3 y4 HAT
    by_cases hg : goesB now old ⟨oi, ot, ob, oa, ou⟩ = true
    case neg =>
      have hg' : goesB now old ⟨oi, ot, ob, oa, ou⟩ = false := by simpa using hg
      have KEEP : Vl (ob = true ∨ ob = false ∧ now - oa ≤ old) := vl (by
        unfold goesB at hg'
        cases ob with
        | true => exact Or.inl rfl
        | false => exact Or.inr ⟨rfl, by simpa using hg'⟩)
      have FIN : Vl (∀ wx g' cap' n, Vl (n = ((S.L.take i).filter (keepB now old)).length + 1) → TkO w1 wx u8 (.slice (some ⟨g', 0, none⟩) n cap') zs ((S.L.take i).filter (keepB now old) ++ [⟨oi, ot, ob, oa, ou⟩]) → ∃ (i' : Nat) (zs' : List Int), Value.int IntKind.i64 ((i : Int) + 1) = .int .i64 i' ∧ i' ≤ S.L.length ∧ Vl (TkO w1 wx u8 (.slice (some ⟨g', 0, none⟩) n cap') zs' ((S.L.take i').filter (keepB now old))) ∧ Vl (zs'.Perm (goneL (S.L.take i') now old) ∧ zs'.Pairwise (· ≤ ·))) := vl (fun wx g' cap' n _ ht => ⟨i + 1, zs, by rfl, hlt, vl (by rw [HKY.out hg']; exact ht), vl (by rw [HGN.out hg']; exact HZ.out)⟩)
      clear hg hg' HGY HGN HKY HKN
      rcases KEEP.out with rfl | ⟨rfl, hle⟩
      · go_wp2_with (at_builtin; refine wpList_append_lies _ rfl _ _ 30 rfl w1.heap.size 48 i1 (.agg #[.int .i64 0, .string ⟨#[]⟩, .bool false, .int .i64 0, .int .i64 0]) 5 48 Tryd.underlying30 HI1.out.1 HI1.out.2.1 HI1.out.2.2.1 HI1.out.2.2.2 rfl (by decide) u9 ((S.L.take i).filter (keepB now old)).length (okCells ((S.L.take i).filter (keepB now old))) rfl (HTA.out _ (((Below.refl _ _).alloc (Nat.le_refl _) _).alloc (by simp) _)).r9 ⟨wr.heap.size + 1, 0, none⟩ 1 1 (okC ⟨oi, ot, true, oa, ou⟩) rfl rfl ?c1 ?c2 (by decide) ?c3 ?c4 ?c5 _ rfl ?_)
        case c1 => exact fun j u h => h
        case c2 => intro u hu; simp [okC] at hu; rcases hu with rfl | rfl | rfl | rfl | rfl <;> rfl
        case c3 => unfold maxLen; omega
        case c4 => omega
        case c5 => have := HT.out.bel.size; simp; omega
        intro g' cap' w4 r1 r2 r3 r4
        have HT4 := vl ((HTA.out _ (((Below.refl _ _).alloc (Nat.le_refl _) _).alloc (by simp) _)).app9 (o := ⟨oi, ot, true, oa, ou⟩) (by rw [List.length_append]; rfl) r1 r2 (by simpa using r3))
        clear r1 r2 r3 r4
        go_wp2
        go_roundw
        case rel => exact FIN.out _ _ _ _ (vl rfl) HT4.out
        case measure => simp [intOf]; omega
      · have hat := HAT.out rfl
        go_wp2_with (at_builtin; refine wpList_append_lies _ rfl _ _ 30 rfl w1.heap.size 48 i1 (.agg #[.int .i64 0, .string ⟨#[]⟩, .bool false, .int .i64 0, .int .i64 0]) 5 48 Tryd.underlying30 HI1.out.1 HI1.out.2.1 HI1.out.2.2.1 HI1.out.2.2.2 rfl (by decide) u9 ((S.L.take i).filter (keepB now old)).length (okCells ((S.L.take i).filter (keepB now old))) rfl (HTA.out _ (((Below.refl _ _).alloc (Nat.le_refl _) _).alloc (by simp) _)).r9 ⟨wr.heap.size + 1, 0, none⟩ 1 1 (okC ⟨oi, ot, false, oa, ou⟩) rfl rfl ?c1 ?c2 (by decide) ?c3 ?c4 ?c5 _ rfl ?_)
        case c1 => exact fun j u h => h
        case c2 => intro u hu; simp [okC] at hu; rcases hu with rfl | rfl | rfl | rfl | rfl <;> rfl
        case c3 => unfold maxLen; omega
        case c4 => omega
        case c5 => have := HT.out.bel.size; simp; omega
        intro g' cap' w4 r1 r2 r3 r4
        have HT4 := vl ((HTA.out _ (((Below.refl _ _).alloc (Nat.le_refl _) _).alloc (by simp) _)).app9 (o := ⟨oi, ot, false, oa, ou⟩) (by rw [List.length_append]; rfl) r1 r2 (by simpa using r3))
        clear r1 r2 r3 r4
        go_wp2
        go_roundw
        case rel => exact FIN.out _ _ _ _ (vl rfl) HT4.out
        case measure => simp [intOf]; omega
    case pos =>
      have hbf : ob = false := by unfold goesB at hg; cases ob with
        | true => simp at hg
        | false => rfl
      subst hbf
      have hgt : ¬ (now - oa ≤ old) := by unfold goesB at hg; simp at hg; omega
      have hat := HAT.out rfl
      have hperm : (goneL (S.L.take (i + 1)) now old) = goneL (S.L.take i) now old ++ [oi] := HGY.out hg
      have hkeep := HKN.out hg
      have HPE := vl hperm
      have HKE := vl hkeep
      clear hperm hkeep hg HGY HGN HKY HKN
      obtain ⟨a8, c8, hu8, k1, k2, k3⟩ := HT.out.reads
      subst hu8
      unfold maxLen at k2
      clear k3
      go_wp2_with (at_builtin; refine wpList_append_lies _ rfl _ _ 35 rfl w1.heap.size 3 i0 (.int .i64 0) 1 8 Tryd.underlying35 HI0.out.1 HI0.out.2.1 HI0.out.2.2.1 HI0.out.2.2.2 rfl (by decide) (.slice a8 zs.length c8) zs.length (zs.map (Value.int .i64)) rfl (HTA.out _ (((Below.refl _ _).alloc (Nat.le_refl _) _).alloc (by simp) _)).r8 ⟨wr.heap.size + 1, 0, none⟩ 1 1 [.int .i64 oi] rfl rfl ?c1 ?c2 (by decide) ?c3 ?c4 ?c5 _ rfl ?_)
      case c2 => rfl
      case c3 => unfold maxLen; omega
      case c4 => omega
      case c5 => have := HT.out.bel.size; simp; omega
      intro g' cap' w4 r1 r2 r3 r4
      have HT4 := vl ((HTA.out _ (((Below.refl _ _).alloc (Nat.le_refl _) _).alloc (by simp) _)).app8 (x := oi) (by rw [List.length_append]; rfl) r1 r2 (by simpa using r3))
      clear r1 r2 r3 r4
      go_wp2_with fail
      go_loopw [12, 13] (fun kv _ wq => ∃ (k : Nat) (M8 : List Int), kv = .int .i64 k ∧ Vl (Ins zs oi k M8) ∧ Vl (TkO w1 wq (.slice (some ⟨g', 0, none⟩) (zs.length + 1) cap') u9 M8 ((S.L.take i).filter (keepB now old)))) (fun kv _ _ => (intOf kv).toNat)
      case atStart => exact ⟨zs.length, zs ++ [oi], rfl, vl (ins_new zs oi), HT4⟩
      case round =>
        obtain ⟨k, M8, rfl, HIN, HTK⟩ := hrel
        have FIN : Vl ((k = 0 ∨ ¬ oi < zs.getD (k - 1) 0) → ∀ wx, Below wr.heap.size wr wx → ∃ (i' : Nat) (zs' : List Int), Value.int IntKind.i64 ((i : Int) + 1) = .int .i64 i' ∧ i' ≤ S.L.length ∧ Vl (TkO w1 wx (.slice (some ⟨g', 0, none⟩) (zs.length + 1) cap') u9 zs' ((S.L.take i').filter (keepB now old))) ∧ Vl (zs'.Perm (goneL (S.L.take i') now old) ∧ zs'.Pairwise (· ≤ ·))) := vl (fun hs wx hb => ⟨i + 1, M8, by rfl, hlt, vl (by rw [HKE.out]; exact HTK.out.below hb), vl ⟨by
          rw [HPE.out]
          exact HIN.out.perm.trans ((HZ.out.1.cons oi).trans (List.perm_append_singleton oi _).symm), HIN.out.done HZ.out.2 hs⟩⟩)
        obtain ⟨a7, c7, he7, k4, k5, k6⟩ := HTK.out.reads
        have hml8 := HIN.out.len
        simp only [Value.slice.injEq] at he7
        obtain ⟨rfl, hx7, rfl⟩ := he7
        clear hx7
        unfold maxLen at k5
        by_cases hk0 : k = 0
        · subst hk0
          clear k6
          have FN := vl (FIN.out (Or.inl rfl))
          clear FIN
          go_wp2_with fail
          go_quiet (fail)
          go_wp2
          go_roundw
          case rel => exact FN.out _ (ldrewN_below (Below.refl _ _) _)
          case measure => simp [intOf]; omega
        obtain ⟨m, rfl⟩ : ∃ m, k = m + 1 := ⟨k - 1, by omega⟩
        have hle := HIN.out.le
        have hhere := HIN.out.here
        have hbel := HIN.out.below (by omega)
        rw [Nat.add_sub_cancel] at hbel
        obtain ⟨g2, e1, l1, l2, r1, t1⟩ := k6 m (by omega)
        obtain ⟨g3, e2, _, _, r2, t2⟩ := k6 (m + 1) (by omega)
        simp only [Option.some.injEq, Addr.mk.injEq] at e1 e2
        obtain ⟨rfl, _, _⟩ := e1
        obtain ⟨rfl, _, _⟩ := e2
        rw [hbel] at r1
        rw [hhere] at r2
        have HSW := vl (fun (hq : oi < zs.getD m 0) => HIN.out.swap (by omega) hq)
        have FN := vl (fun (hq : ¬ oi < zs.getD m 0) => FIN.out (Or.inr hq))
        obtain ⟨z, hz⟩ : ∃ z, zs.getD m 0 = z := ⟨_, rfl⟩
        rw [hz] at r1
        simp only [Nat.add_sub_cancel] at HSW
        rw [hz] at HSW FN
        clear k6 FIN hhere hbel hk0 hz HAT HPE HKE hml8
        have m0 : (0 : Int) < (m : Int) + 1 := by omega
        have m2 : (m : Int) < (zs.length : Int) + 1 := by omega
        have m3 : (m : Int) + 1 < (zs.length : Int) + 1 := by omega
        have m4 : (m : Int) ≤ 8 := by omega
        by_cases q : oi < z
        · go_wp2_with fail
          go_quiet (fail)
          go_wp2
          go_roundw
          case rel => exact ⟨m, _, rfl, vl (HSW.out q), vl (((HTK.out.below (ldrewN_below (Below.refl _ _) _)).set8 m oi).set8 (m + 1) z)⟩
          case measure => simp [intOf]
        · go_wp2_with fail
          go_quiet (fail)
          go_wp2
          go_roundw
          case rel => exact FN.out q _ (ldrewN_below (Below.refl _ _) _)
          case measure => simp [intOf]; omega
end Go.Proofs.YtibjbdcmhjbndaaDoor
/-
  TWO ROWS OF NUMBERS ALIKE: tollsame.Ints. No claim by itself.
-/
namespace Go.Proofs.YtibjbdcmhjbndaaDoor
open Go Go.RowKit
set_option maxRecDepth 100000
theorem iro_nil (n0 : Nat) (w : World) : IRo n0 w (.slice none 0 0) [] := ⟨none, 0, rfl, Nat.le_refl _, by decide, fun j hj => by cases hj⟩
theorem IRo.kept {n0 : Nat} {w w' : World} {v : Value} {ids : List Int} (h : IRo n0 w v ids) (hs : w.heap.size ≤ w'.heap.size) (hk : ∀ k, k < w.heap.size → n0 ≤ k → w'.heap[k]? = w.heap[k]?) : IRo n0 w' v ids := by
  obtain ⟨a, c, hv, h1, h2, h3⟩ := h
  refine ⟨a, c, hv, h1, h2, fun j hj => ?_⟩
  obtain ⟨g, e, l1, l2, r⟩ := h3 j hj
  exact ⟨g, e, by omega, l2, (World.cell?_of_block (a := ⟨g, j, none⟩) (hk g l1 l2)).trans r⟩
theorem IRo.below {n0 : Nat} {w w' : World} {v : Value} {ids : List Int} (h : IRo n0 w v ids) (hb : Below w.heap.size w w') : IRo n0 w' v ids := h.kept hb.size (fun k hk _ => hb.block k hk)
theorem tick_same {S : Po} {now old : Int} {A B : List Int} (h1 : TickIds S now old A) (h2 : TickIds S now old B) : A = B :=
  List.Perm.eq_of_pairwise (fun _ _ _ _ h3 h4 => Int.le_antisymm h3 h4) h1.2 h2.2 (h1.1.trans h2.1.symm)
set_option maxHeartbeats 2000000 in
theorem sints_any {n1 n2 : Nat} {w : World} {v1 v2 : Value} {ids : List Int} (h1 : IRo n1 w v1 ids) (h2 : IRo n2 w v2 ids) (_hl : ids.length ≤ 1000) :
    Calls Tryd.prog 13 #[v1, v2] w fun e w' => e = .returned (.bool true) ∧ Below w.heap.size w w' := by
  obtain ⟨a, c, rfl, k1, k2, k3⟩ := h1
  obtain ⟨b, d, rfl, k4, k5, k6⟩ := h2
  have HA := vl k3
  have HB := vl k6
  unfold maxLen at k2 k5
  clear k3 k6
  go_enter Tryd.func13, Tryd.ntmps13
  go_wp2_with fail
  go_loopw [5] (fun iv wr => ∃ i : Nat, iv = .int .i64 i ∧ i ≤ ids.length ∧ Vl (Below w.heap.size w wr)) (fun iv _ => ids.length - (intOf iv).toNat)
  case atStart => exact ⟨0, rfl, Nat.zero_le _, vl (Below.refl _ _)⟩
  case round =>
    obtain ⟨i, rfl, hi, HBW⟩ := hrel
    by_cases hlt : i < ids.length
    case neg =>
      have p1 : ¬ ((i : Int) < (ids.length : Int)) := by omega
      go_wp2
      go_ret
      exact ⟨rfl, HBW.out⟩
    have p1 : (i : Int) < (ids.length : Int) := by omega
    obtain ⟨g, rfl, l1, _, r1⟩ := HA.out i hlt
    obtain ⟨g', rfl, l2, _, r2⟩ := HB.out i hlt
    have s1 : wr.cell? ⟨g, i, none⟩ = some (.int .i64 (ids.getD i 0)) := (HBW.out.cell (p := ⟨g, i, none⟩) l1).trans r1
    have s2 : wr.cell? ⟨g', i, none⟩ = some (.int .i64 (ids.getD i 0)) := (HBW.out.cell (p := ⟨g', i, none⟩) l2).trans r2
    generalize ids.getD i 0 = z at *
    clear r1 r2
    go_wp2_with fail
    go_quiet (fail)
    go_wp2
    go_roundw
    case rel => exact ⟨i + 1, by go_num, by omega, vl (ldrewN_below HBW.out _)⟩
    case measure => simp [intOf]; omega
end Go.Proofs.YtibjbdcmhjbndaaDoor
/-
  CONNECTIONS TO PLACES, as the document's answer keeps them: Take. No claim by itself.
-/
namespace Go.Proofs.YtibjbdcmhjbndaaDoor
open Go Go.RowKit
set_option maxRecDepth 100000
/-- Which is taken, of those that were looked at. -/
def BestAt (L : LL) (tt : ByteArray) (i : Nat) (b : Int) : Prop := (b = -1 ∧ ∀ q, q < i → isTo tt (lnth L q) = false) ∨ ∃ j : Nat, b = j ∧ j < i ∧ isTo tt (lnth L j) = true ∧ ∀ q, q < i → isTo tt (lnth L q) = true → (lnth L q).turn ≤ (lnth L j).turn
def OldAt (L : LL) (i : Nat) (b : Int) : Prop := (b = -1 ∧ ∀ q, q < i → (lnth L q).busy = true) ∨ ∃ j : Nat, b = j ∧ j < i ∧ (lnth L j).busy = false ∧ ∀ q, q < i → (lnth L q).busy = false → (lnth L j).turn ≤ (lnth L q).turn
section
variable {L : LL} {tt : ByteArray} {i : Nat} {b : Int}
theorem BestAt.no (h : BestAt L tt i b) (hn : isTo tt (lnth L i) = false) : BestAt L tt (i + 1) b := by
  rcases h with ⟨rfl, h⟩ | ⟨j, rfl, hj, h1, h2⟩
  · refine Or.inl ⟨rfl, fun q hq => ?_⟩
    rcases Nat.lt_or_ge q i with h3 | h3
    · exact h q h3
    · obtain rfl : q = i := by omega
      exact hn
  · refine Or.inr ⟨j, rfl, by omega, h1, fun q hq e => ?_⟩
    rcases Nat.lt_or_ge q i with h3 | h3
    · exact h2 q h3 e
    · obtain rfl : q = i := by omega
      rw [hn] at e; cases e
theorem BestAt.here (h : BestAt L tt i b) (hn : isTo tt (lnth L i) = true) (hb : b = -1 ∨ ∃ j : Nat, b = j ∧ (lnth L j).turn < (lnth L i).turn) : BestAt L tt (i + 1) (i : Int) := by
  refine Or.inr ⟨i, rfl, by omega, hn, fun q hq e => ?_⟩
  rcases Nat.lt_or_ge q i with h3 | h3
  · rcases h with ⟨rfl, h⟩ | ⟨j, rfl, hj, h1, h2⟩
    · rw [h q h3] at e; cases e
    · rcases hb with hb | ⟨j', e1, e2⟩
      · omega
      · obtain rfl : j = j' := by omega
        have := h2 q h3 e
        omega
  · obtain rfl : q = i := by omega
    exact Int.le_refl _
theorem BestAt.less {j : Nat} (h : BestAt L tt i (j : Int)) (hb : ¬ (lnth L j).turn < (lnth L i).turn) : BestAt L tt (i + 1) (j : Int) := by
  rcases h with ⟨e, _⟩ | ⟨j', e, hj, h1, h2⟩
  · omega
  · obtain rfl : j = j' := by omega
    refine Or.inr ⟨j, rfl, by omega, h1, fun q hq e => ?_⟩
    rcases Nat.lt_or_ge q i with h3 | h3
    · exact h2 q h3 e
    · obtain rfl : q = i := by omega
      omega
theorem OldAt.no (h : OldAt L i b) (hn : (lnth L i).busy = true) : OldAt L (i + 1) b := by
  rcases h with ⟨rfl, h⟩ | ⟨j, rfl, hj, h1, h2⟩
  · refine Or.inl ⟨rfl, fun q hq => ?_⟩
    rcases Nat.lt_or_ge q i with h3 | h3
    · exact h q h3
    · obtain rfl : q = i := by omega
      exact hn
  · refine Or.inr ⟨j, rfl, by omega, h1, fun q hq e => ?_⟩
    rcases Nat.lt_or_ge q i with h3 | h3
    · exact h2 q h3 e
    · obtain rfl : q = i := by omega
      rw [hn] at e; cases e
theorem OldAt.here (h : OldAt L i b) (hn : (lnth L i).busy = false) (hb : b = -1 ∨ ∃ j : Nat, b = j ∧ (lnth L i).turn < (lnth L j).turn) : OldAt L (i + 1) (i : Int) := by
  refine Or.inr ⟨i, rfl, by omega, hn, fun q hq e => ?_⟩
  rcases Nat.lt_or_ge q i with h3 | h3
  · rcases h with ⟨rfl, h⟩ | ⟨j, rfl, hj, h1, h2⟩
    · rw [h q h3] at e; cases e
    · rcases hb with hb | ⟨j', e1, e2⟩
      · omega
      · obtain rfl : j = j' := by omega
        have := h2 q h3 e
        omega
  · obtain rfl : q = i := by omega
    exact Int.le_refl _
theorem OldAt.less {j : Nat} (h : OldAt L i (j : Int)) (hb : ¬ (lnth L i).turn < (lnth L j).turn) : OldAt L (i + 1) (j : Int) := by
  rcases h with ⟨e, _⟩ | ⟨j', e, hj, h1, h2⟩
  · omega
  · obtain rfl : j = j' := by omega
    refine Or.inr ⟨j, rfl, by omega, h1, fun q hq e => ?_⟩
    rcases Nat.lt_or_ge q i with h3 | h3
    · exact h2 q h3 e
    · obtain rfl : q = i := by omega
      omega
theorem mem_nth {L : LL} {y : Lk} (h : y ∈ L) : ∃ q, q < L.length ∧ lnth L q = y := by
  obtain ⟨q, hq, e⟩ := List.getElem_of_mem h
  exact ⟨q, hq, by rw [← lnth_at hq]; exact e⟩
theorem BestAt.all {S : Po} (hI : PoI S) (h : BestAt S.L tt S.L.length b) : (b = -1 ∧ bestK S.L tt = none) ∨ ∃ j : Nat, b = j ∧ j < S.L.length ∧ bestK S.L tt = some (lnth S.L j) := by
  rcases h with ⟨rfl, h⟩ | ⟨j, rfl, hj, h1, h2⟩
  · refine Or.inl ⟨rfl, best_none_of fun y hy hb ht => ?_⟩
    obtain ⟨q, hq, rfl⟩ := mem_nth hy
    have := h q hq
    rw [isTo_iff.2 ⟨hb, ht⟩] at this
    cases this
  · have k := isTo_iff.1 h1
    refine Or.inr ⟨j, rfl, hj, hI.best_of (by rw [← lnth_at hj]; exact List.getElem_mem hj) k.1 k.2 fun y hy hb ht => ?_⟩
    obtain ⟨q, hq, rfl⟩ := mem_nth hy
    exact h2 q hq (isTo_iff.2 ⟨hb, ht⟩)
theorem OldAt.all {S : Po} (hI : PoI S) (h : OldAt S.L S.L.length b) : (b = -1 ∧ oldK S.L = none) ∨ ∃ j : Nat, b = j ∧ j < S.L.length ∧ oldK S.L = some (lnth S.L j) := by
  rcases h with ⟨rfl, h⟩ | ⟨j, rfl, hj, h1, h2⟩
  · refine Or.inl ⟨rfl, old_none.2 ?_⟩
    unfold nI idleL
    rw [List.length_eq_zero_iff, List.filter_eq_nil_iff]
    intro y hy
    obtain ⟨q, hq, rfl⟩ := mem_nth hy
    simp [h q hq]
  · refine Or.inr ⟨j, rfl, hj, hI.old_of (by rw [← lnth_at hj]; exact List.getElem_mem hj) h1 fun y hy hb => ?_⟩
    obtain ⟨q, hq, rfl⟩ := mem_nth hy
    exact h2 q hq hb
end
/-- One more, in the row that is there or in a new one. -/
theorem OmP.grown {w w1 : World} {rb : Nat} {v v' : Value} {S : Po} {L' : LL} (h : OmP w rb v S) (hg : w.grownBy w1 v.ownBlock) (hown : w1.ownsRow (rb + 1) 48 5 v' L'.length (okCells L')) (hloc : v'.ownBlock = v.ownBlock ∨ ∀ k, v'.ownBlock = some k → w.heap.size ≤ k) :
    OmOut rb v w (w1.setCell ⟨rb, 4, none⟩ v') (withL S L') := by
  have e0 : w1.heap[rb]? = w.heap[rb]? := hg.block rb h.lt0 (fun e => by have := (h.row.lt rb e.symm).1; omega)
  have hT : Tn (fun k => k = rb) w1 (w1.setCell ⟨rb, 4, none⟩ v') := tn_set rfl
  have hG : Tn (HersO rb v) w w1 := ⟨hg.os, hg.tape, hg.output, hg.size, fun k hk hn => hg.block k hk (fun e => hn (Or.inr e.symm))⟩
  refine ⟨v', ⟨?_, rowo_kept hown (fun k hk => hT.block k (hown.lt k hk).2 (by have := (hown.lt k hk).1; omega))⟩, lTn_trans hG (lTn_mono hT (fun k e => Or.inl e)), fun k hk => ?_⟩
  · exact heap_setCell_same w1 rb 4 _ _ v' (e0.trans h.blk)
  · rcases hk with hk | hk
    · exact Or.inl (Or.inl hk)
    · rcases hloc with e | e
      · exact Or.inl (Or.inr (e ▸ hk))
      · exact Or.inr (e k hk)
theorem OmOut.from {w w1 w2 : World} {rb : Nat} {v : Value} {S : Po} (hb : Below w.heap.size w w1) (ho : OmOut rb v w1 w2 S) : OmOut rb v w w2 S := by
  obtain ⟨v', h1, h2, h3⟩ := ho
  exact ⟨v', h1, lTn_trans (Tn.of_below hb) h2, fun k hk => (h3 k hk).imp id (Nat.le_trans hb.size)⟩
/-- One step behind the other. -/
theorem OmOut.after {w w1 w2 : World} {rb : Nat} {v v1 : Value} {S : Po} (ht : Tn (HersO rb v) w w1) (hv : ∀ k, HersO rb v1 k → HersO rb v k ∨ w.heap.size ≤ k) (ho : OmOut rb v1 w1 w2 S) : OmOut rb v w w2 S := by
  obtain ⟨v', h1, h2, h3⟩ := ho
  refine ⟨v', h1, ⟨h2.os.trans ht.os, h2.tape.trans ht.tape, h2.output.trans ht.output, Nat.le_trans ht.size h2.size, fun k hk hn => (h2.block k (Nat.lt_of_lt_of_le hk ht.size) (fun e => ?_)).trans (ht.block k hk hn)⟩, fun k hk => ?_⟩
  · rcases hv k e with e | e
    · exact hn e
    · omega
  · rcases h3 k hk with e | e
    · exact hv k e
    · exact Or.inr (Nat.le_trans ht.size e)
end Go.Proofs.YtibjbdcmhjbndaaDoor
