/-
  WHERETO: the document's ParseRoutes. No claim by itself.
-/
import Derived.Test.YtmjdfbbhlbecdaaDoorWr1
import Derived.Test.YtmjdfbbhlbecdaaDoorWr4
import Derived.Test.YtmjdfbbhlbecdaaDoorWh11
import Derived.Deep.DeepCutAuto
import Derived.Deep.RegionHeld3
namespace Go.Proofs.YtmjdfbbhlbecdaaDoor
open Go Go.RowKit
set_option maxRecDepth 100000
theorem cut1_none (c : Int) : ∀ (n : Nat) (s : List Int), s.length ≤ n → ∀ x ∈ cut1 c s, c ∉ x
  | 0, s, h, x, hx => by
    have e : s = [] := List.length_eq_zero_iff.1 (by omega)
    rw [e] at hx
    simp [cut1] at hx
    rw [hx]; simp
  | n + 1, s, h, x, hx => by
    rcases cut1_cases c s with ⟨h1, h2⟩ | ⟨a, r, e, h1, h2⟩
    · rw [h2] at hx
      rw [List.mem_singleton.1 hx]; exact h1
    · rw [h2] at hx
      rcases List.mem_cons.1 hx with hx | hx
      · rw [hx]; exact h1
      · exact cut1_none c n r (by rw [e] at h; simp at h; omega) x hx
theorem endNl_no {s : List Int} (h : (10 : Int) ∉ s) : endNl s = false := by
  unfold endNl
  rw [decide_eq_false_iff_not]
  intro e
  cases s with
  | nil => simp at e
  | cons x r =>
    rw [List.getLastD_eq_getLast?, List.getLast?_eq_some_getLast (by simp)] at e
    exact h (by have := List.getLast_mem (l := x :: r) (by simp); simp only [Option.getD_some] at e; rwa [e] at this)
/-- What the memory of a row of texts says. -/
theorem srow_cell {w : World} {base g cap : Nat} {VS : List ByteArray} (h : SOwn w base (.slice (some ⟨g, 0, none⟩) VS.length cap) VS) (k : Nat) (hk : k < VS.length) : w.cell? ⟨g, k, none⟩ = some (.string (VS.getD k .empty)) := by
  have := h.cellAt k (by omega)
  rw [this]
  simp [List.getElem?_map, List.getElem?_eq_getElem hk, List.getD]
theorem srow_form {w : World} {base : Nat} {sa : Option Addr} {cap : Nat} {VS : List ByteArray} (h : SOwn w base (.slice sa VS.length cap) VS) (hn : VS ≠ []) : ∃ g, sa = some ⟨g, 0, none⟩ ∧ VS.length ≤ cap ∧ cap ≤ maxLen ∧ g < w.heap.size ∧ base ≤ g := by
  obtain ⟨_, ⟨hv, h0⟩ | ⟨g, cap', cur, hv, hb, hc, h1, h2, _⟩⟩ := id h
  · exact absurd (List.eq_nil_of_length_eq_zero h0) hn
  · cases hv
    exact ⟨g, rfl, h1, h2, (Array.getElem?_eq_some_iff.1 hc).1, hb⟩
theorem uns_at (VS : List ByteArray) (k : Nat) (h : k < VS.length) : (unsOf VS).drop k = unums (VS.getD k .empty) :: (unsOf VS).drop (k + 1) := by
  have hl : k < (unsOf VS).length := by unfold unsOf; simpa using h
  have e : (unsOf VS)[k]'hl = unums (VS.getD k .empty) := by
    simp only [unsOf, List.getElem_map, List.getD, List.getElem?_eq_getElem h]
    rfl
  rw [List.drop_eq_getElem_cons hl, e]
theorem uns_len (VS : List ByteArray) : (unsOf VS).length = VS.length := by simp [unsOf]
/-- Append of one route. -/
theorem wpList_rapp {ops : Array Oper} {rest : List Oper} {o : Oper} {a : Act} {Q : Exit → Act → World → Prop} (w : World) (hgd : o.guard = none) (s x : Operand)
    (ho : o.op = .call { callee := .builtin .append, args := #[s, x], argTypes := #[22, 22] }) (base : Nat) (v : Value) (L : List Rb) (p q t : ByteArray) (hs : a.eval s = v) (hown : ROwn w base v L)
    (hx : a.eval x = .slice (some ⟨w.heap.size, 0, none⟩) 1 1) (hlen : L.length < 4398046 ) (hbase : base ≤ w.heap.size)
    (h : ∀ v' w', ROwn w' base v' (L ++ [(p, q, t)]) → (w.alloc (.cells #[.string p, .string q, .string t] 33)).grownBy w' v.ownBlock → wpList Tryd.prog ops Q rest (a.put o.dst v') w') : wpList Tryd.prog ops Q (o :: rest) a (w.alloc (.cells #[.string p, .string q, .string t] 33)) := by
  obtain ⟨i0, hi, hz0, hz1, hz2⟩ := info_parts r_info
  refine wpList_append_own _ hgd s x 22 ho base 33 i0 (.agg #[.string ⟨#[]⟩, .string ⟨#[]⟩, .string ⟨#[]⟩]) 3 48 Tryd.underlying22 hi hz0 hz1 hz2 rfl (by decide) v L.length _ hs (hown.alloc _) ⟨w.heap.size, 0, none⟩ 1 1 [.string p, .string q, .string t] hx rfl ?_ ?_ (by unfold maxLen; omega) (by omega) (by rw [World.size_alloc]; omega) ?_
  · intro j y hj
    have hh : (w.alloc (.cells #[.string p, .string q, .string t] 33)).heap[w.heap.size]? = some (.cells #[.string p, .string q, .string t] 33 (0, 0)) := heap_alloc_new w _
    rw [s_add]
    simp only [World.cell?, hh, Nat.zero_add]
    match j with
    | 0 => exact hj
    | 1 => exact hj
    | 2 => exact hj
    | j + 3 => simp at hj
  · intro y hy
    simp at hy
    rcases hy with rfl | rfl | rfl <;> rfl
  · intro v' w' h1 h2 _
    refine h v' w' ?_ h2
    show World.ownsRow _ _ _ _ _ _ _
    rw [show (L ++ [(p, q, t)]).length = L.length + 1 by simp, rcells_app]
    exact h1
theorem sown_keep {w w' : World} {base n : Nat} {e : TypeId} {sz : Nat} {v : Value} {xs : List Value} (h : w.ownsRow base e sz v n xs) (hb : Below w.heap.size w w') : w'.ownsRow base e sz v n xs :=
  h.kept (row := none) ⟨hb.os, hb.tape, hb.output, hb.size, fun k hk _ => hb.block k hk⟩ (Classical.em _)
/-- How far the text was read. -/
def RpI (T : List Int) (VS : List ByteArray) (k : Nat) (L : List Rb) : Prop :=
  parseR T = parseLs (rtsOf L) (lnsOf ((unsOf VS).drop k)) ∧ (k < VS.length → L.length = k) ∧ L.length ≤ 20 ∧ SzL L
def RpE (T : List Int) (e : Ending) (w' : World) : Prop :=
  ∃ (L : List Rb) (sa : Option Addr) (sc k : Nat) (er : Int), e = .returned (.tuple #[.slice sa L.length sc, .int .i64 (k : Int), .int .i64 er]) ∧ RtArg w' sa L.length sc L ∧ parseR T = (er, rtsOf L, k)
theorem rpe_no {T : List Int} {k : Nat} {er : Int} {w' : World} (h : parseR T = (er, [], k)) : RpE T (.returned (.tuple #[.slice none 0 0, .int .i64 (k : Int), .int .i64 er])) w' := ⟨[], none, 0, k, er, rfl, Or.inl ⟨rfl, rfl⟩, h⟩
set_option maxHeartbeats 8000000 in
theorem rparse_any (s : ByteArray) (w : World) (hs : s.size ≤ 1048576) :
    Calls Tryd.prog 15 #[.string s] w fun e w' => RpE (unums s) e w' ∧ Below w.heap.size w w' := by
  have HC1 := vl (rcut_any s 10 w hs)
  go_enter Tryd.func15, Tryd.ntmps15
  go_wp2_with fail
  refine HC1.out.mono ?_
  rintro e w1 ⟨⟨VS, la, lc, rfl, hown1, hcut, hsz1⟩, hb1⟩
  have hVS : VS ≠ [] := fun e => by
    rw [e] at hcut
    exact cut1_ne 10 (unums s) hcut.symm
  obtain ⟨g1, rfl, hlc, hlm, hg1, _⟩ := srow_form hown1 hVS
  unfold maxLen at hlm
  have hn1 : 1 ≤ VS.length := List.length_pos_iff.2 hVS
  have HB1 := vl hb1
  have HCUT := vl hcut
  have HSZ1 := vl hsz1
  have HCELL : Vl (∀ W, Below w1.heap.size w1 W → ∀ k, k < VS.length → W.cell? ⟨g1, k, none⟩ = some (.string (VS.getD k .empty))) := fun W hb k hk => (hb.cell (p := ⟨g1, k, none⟩) hg1).trans (srow_cell hown1 k hk)
  have HNN : Vl (∀ k, k < VS.length → (10 : Int) ∉ unums (VS.getD k .empty)) := fun k hk => by
    refine cut1_none 10 _ (unums s) (Nat.le_refl _) _ ?_
    rw [← HCUT.out]
    unfold unsOf
    exact List.mem_map.2 ⟨VS.getD k .empty, by rw [List.getD, List.getElem?_eq_getElem hk]; exact List.getElem_mem hk, rfl⟩
  have H0 : Vl (RpI (unums s) VS 0 []) := ⟨by rw [List.drop_zero, HCUT.out]; rfl, fun _ => rfl, by simp, szl_nil⟩
  clear hown1 hcut hsz1 hb1 HC1 hVS
  go_wp2_with fail
  go_loopw [5, 7, 8, 9, 10, 11] (fun v i _ _ _ _ wr => ∃ (k : Nat) (L : List Rb), i = .int .i64 k ∧ k ≤ VS.length ∧ Vl (ROwn wr w1.heap.size v L) ∧ Vl (RpI (unums s) VS k L) ∧ Vl (Below w1.heap.size w1 wr)) (fun _ i _ _ _ _ _ => VS.length - (intOf i).toNat)
  case atStart => exact ⟨0, [], rfl, by omega, World.ownsRow_nil _ _ _ _, H0, Below.refl _ _⟩
  case round =>
    obtain ⟨k, L, rfl, hk, HO, HI, HB⟩ := hrel
    obtain ⟨sa, sc, hv⟩ := rown_shape HO.out
    subst hv
    have HBW : Vl (Below w.heap.size w wr) := HB1.out.trans (HB.out.mono HB1.out.size)
    by_cases hlt : k < VS.length
    · have hlt' : (k : Int) < (VS.length : Int) := by omega
      have hk0 : (0 : Int) ≤ (k : Int) := by omega
      have c0 := HCELL.out wr HB.out k hlt
      have HLK := vl (HI.out.2.1 hlt)
      have hL20 := HI.out.2.2.1
      have HNO := vl (HNN.out k hlt)
      have HDR := vl (uns_at VS k hlt)
      have HSU : Vl ((VS.getD k .empty).size ≤ s.size) := HSZ1.out _ (by rw [List.getD, List.getElem?_eq_getElem hlt]; exact List.getElem_mem hlt)
      generalize VS.getD k .empty = u at *
      have hus := HSU.out
      by_cases hlast0 : k = VS.length - 1
      · have HLAST := vl hlast0
        clear hlast0
        have hl1b : ((k : Int) == (VS.length : Int) - 1) = true := by
          have hl1 : (k : Int) = (VS.length : Int) - 1 := by have := HLAST.out; omega
          simpa using hl1
        have HD1 : Vl ((unsOf VS).drop (k + 1) = []) := by
          show _ = _
          have := HLAST.out
          rw [List.drop_eq_nil_iff, uns_len]; omega
        by_cases hue : u.toList = []
        · have hub : (u.toList == []) = true := by simpa using hue
          have HNX : Vl (RpI (unums s) VS (k + 1) L) := by
            refine ⟨?_, fun h => by have := HLAST.out; omega, hL20, HI.out.2.2.2⟩
            rw [HI.out.1, HDR.out, HD1.out, show unums u = [] from un_lit.1 hue]
            rfl
          go_wp2_with fail
          go_roundw
          case rel => exact ⟨k + 1, L, by go_num, by omega, HO, HNX, HB⟩
          case measure => simp [intOf]; omega
        · have hub : (u.toList == []) = false := by simpa using hue
          have HQ : Vl (parseR (unums s) = (2, [], k)) := by
            show _ = _
            rw [HI.out.1, HDR.out, HD1.out]
            have hne : unums u ≠ [] := fun e => hue (un_lit.2 e)
            have hlp : lineP (rtsOf L) (unums u) = (2, rt0) := by unfold lineP; rw [endNl_no HNO.out]; rfl
            rw [show lnsOf [unums u] = [unums u] from by simp [lnsOf, hne], parseLs, hlp, if_neg (by decide)]
            show ((2 : Int), ([] : List Rt), (rtsOf L).length) = _
            rw [rts_len, HLK.out]
          have HCC := vl (rcut_any u 32 wr (by omega))
          go_wp2_with fail
          refine HCC.out.mono ?_
          rintro e w2 ⟨⟨WS, wa, wc2, rfl, _, _, _⟩, hb2⟩
          have HF := vl (HBW.out.trans (hb2.mono HBW.out.size))
          have HR := vl (rpe_no (w' := w2) HQ.out)
          clear hb2 HCC
          go_wp2_with fail
          go_ret3
          exact ⟨HR.out, HF.out⟩
      · have hl1 : ¬ (k : Int) = (VS.length : Int) - 1 := by omega
        have hl1b : ((k : Int) == (VS.length : Int) - 1) = false := by simpa using hl1
        have HST : Vl (parseR (unums s) = parseLs (rtsOf L) ((unums u ++ [10]) :: lnsOf ((unsOf VS).drop (k + 1)))) := by
          show _ = _
          rw [HI.out.1, HDR.out, lns_cons (by rw [Ne, List.drop_eq_nil_iff, uns_len]; omega)]
        have HLP : Vl (lineP (rtsOf L) (unums u ++ [10]) = wordsP (rtsOf L) (cut1 32 (unums u))) := by
          show _ = _
          unfold lineP
          rw [if_pos (endNl_app _), cutNl_app]
        have HNOQ : Vl (∀ er, er ≠ 0 → wordsP (rtsOf L) (cut1 32 (unums u)) = (er, rt0) → parseR (unums s) = (er, [], k)) := fun er he h => by
          rw [HST.out, parseLs, HLP.out, h, if_neg he, rts_len, HLK.out]
        have HCC := vl (rcut_any u 32 wr (by omega))
        go_wp2_with fail
        refine HCC.out.mono ?_
        rintro e w2 ⟨⟨WS, wa, wc2, rfl, hownW, hcutW, hszW⟩, hb2⟩
        have HB2 := vl (HB.out.trans (hb2.mono HB.out.size))
        have HBW2 := vl (HBW.out.trans (hb2.mono HBW.out.size))
        have HO2 := vl (sown_keep HO.out hb2)
        have HCW := vl hcutW
        clear hb2 HCC hcutW
        by_cases h3 : WS.length = 3
        · obtain ⟨x, y, z, rfl⟩ : ∃ x y z, WS = [x, y, z] := by
            match WS, h3 with
            | [x, y, z], _ => exact ⟨x, y, z, rfl⟩
          obtain ⟨gw, rfl, hwc, hwm, hgw, _⟩ := srow_form hownW (by simp)
          unfold maxLen at hwm
          have hwc3 : 3 ≤ wc2 := hwc
          have k0 : w2.cell? ⟨gw, 0, none⟩ = some (.string x) := srow_cell hownW 0 (by simp)
          have k1 : w2.cell? ⟨gw, 1, none⟩ = some (.string y) := srow_cell hownW 1 (by simp)
          have k2 : w2.cell? ⟨gw, 2, none⟩ = some (.string z) := srow_cell hownW 2 (by simp)
          have hzx := hszW x (by simp)
          have hzy := hszW y (by simp)
          have hzz := hszW z (by simp)
          have szOk : ∀ h : ByteArray, h.size ≤ 1048576 → Sz3 (h, y, z) := fun h hh => ⟨show h.size ≤ _ by omega, show y.size ≤ _ by omega, show z.size ≤ _ by omega⟩
          have HWT : Vl (wordsP (rtsOf L) (cut1 32 (unums u)) = if 20 ≤ k then (4, rt0) else if unums x = [] then (2, rt0) else if oneE (rtsOf L) (if unums x = [42] then [] else unums x, unums y, unums z) = 0 then (0, (if unums x = [42] then [] else unums x, unums y, unums z)) else (oneE (rtsOf L) (if unums x = [42] then [] else unums x, unums y, unums z), rt0)) := by
            show _ = _
            rw [← HCW.out, show unsOf [x, y, z] = [unums x, unums y, unums z] from rfl, wordsP_three, rts_len, HLK.out]
          rw [show ([x, y, z] : List ByteArray).length = 3 from rfl]
          clear hownW hszW hwc
          have hk20 : k ≤ 20 := by have := HLK.out; omega
          have hLsm : L.length ≤ 20 := hL20
          by_cases h20 : k = 20
          · have h20b : ((k : Int) == 20) = true := by
              have : (k : Int) = 20 := by omega
              simpa using this
            have HR := vl (rpe_no (w' := w2) (HNOQ.out 4 (by decide) (by rw [HWT.out, if_pos (by omega)])))
            have HK20 := vl h20
            clear h20
            go_wp2_with fail
            go_ret3
            exact ⟨HR.out, HBW2.out⟩
          · have h20b : ((k : Int) == 20) = false := by
              have : ¬ (k : Int) = 20 := by omega
              simpa using this
            have hk19 : k < 20 := by omega
            rw [if_neg (show ¬ 20 ≤ k by omega)] at HWT
            by_cases qe : x.toList = []
            · have hx0 : unums x = [] := un_lit.1 qe
              rw [if_pos hx0] at HWT
              have qeb : (x.toList == []) = true := by simpa using qe
              have HR := vl (rpe_no (w' := w2) (HNOQ.out 2 (by decide) HWT.out))
              clear hx0
              go_wp2_with fail
              go_ret3
              exact ⟨HR.out, HBW2.out⟩
            · have hx0 : ¬ unums x = [] := fun e => qe (un_lit.2 e)
              have qeb : (x.toList == []) = false := by simpa using qe
              rw [if_neg hx0] at HWT
              clear hx0
              go_upto_region 15 with fail
              go_cut [10] (fun p wz => p = .pointer (some ⟨w2.heap.size, 0, none⟩) ∧ Vl (RtB wz w2.heap.size x y z) ∧ Vl (Below w2.heap.size w2 wz))
              case first =>
                as_aux_lemma =>
                  go_region_held3 (fun w' => w'.cell? ⟨gw, 0, none⟩ = some (.string x) ∧ w'.cell? ⟨gw, 1, none⟩ = some (.string y) ∧ w'.cell? ⟨gw, 2, none⟩ = some (.string z))
                    (first | go_keep)
                    (fail)
                  go_wp2
                  go_meet
                  exact ⟨rfl, heap_alloc_new w2 _, ((Below.refl _ w2).alloc (Nat.le_refl _) _).drew⟩
              case rest =>
                obtain ⟨rfl, HR4, HBX⟩ := hcut
                obtain ⟨w4, hw4⟩ : ∃ q, q = wc := ⟨_, rfl⟩
                subst hw4
                have HB4 := vl (HB2.out.trans (HBX.out.mono HB2.out.size))
                have HO4 := vl (sown_keep HO2.out HBX.out)
                obtain ⟨r0, r1, r2⟩ := HR4.out.cells
                clear k0 k1 k2
                by_cases qs : x.toList = [42]
                · have hs42 : unums x = [42] := un_lit.1 qs
                  have qsb : (x.toList == [42]) = true := by simpa using qs
                  rw [if_pos hs42] at HWT
                  have HW3 : Vl (wordsP (rtsOf L) (cut1 32 (unums u)) = if oneE (rtsOf L) (rtO ((⟨#[]⟩ : ByteArray), y, z)) = 0 then (0, rtO ((⟨#[]⟩ : ByteArray), y, z)) else (oneE (rtsOf L) (rtO ((⟨#[]⟩ : ByteArray), y, z)), rt0)) := HWT.out
                  clear hs42
                  have f0 : w4.frozen? ⟨w2.heap.size, 0, none⟩ = false := by
                    have k := HR4.out
                    unfold RtB at k
                    unfold World.frozen?
                    rw [k]
                    simp
                  obtain ⟨W5, hW5⟩ : ∃ W5, W5 = w4.setCell ⟨w2.heap.size, 0, none⟩ (.string ⟨#[]⟩) := ⟨_, rfl⟩
                  have HRR5 : Vl (RtB W5 w2.heap.size ⟨#[]⟩ y z) := by
                    show _ = _
                    have k := HR4.out
                    unfold RtB at k
                    rw [hW5]
                    simp [World.setCell, Array.getElem?_modify, k]
                  have HBX5 : Vl (Below w2.heap.size w2 W5) := by rw [hW5]; exact HBX.out.setCell (p := ⟨w2.heap.size, 0, none⟩) (Nat.le_refl _) _
                  have HB5 := vl (HB2.out.trans (HBX5.out.mono HB2.out.size))
                  have HO5 := vl (sown_keep HO2.out HBX5.out)
                  obtain ⟨q0, q1, q2⟩ := HRR5.out.cells
                  go_upto_region 18 with fail
                  rw [← hW5]
                  clear hW5 r0 r1 r2
                  have HRX := vl (szOk ⟨#[]⟩ (by decide))
                  go_wp2_with (at_builtin; refine wpList_rapp _ rfl _ _ rfl w1.heap.size (.slice sa L.length sc) L ⟨#[]⟩ y z rfl HO5.out rfl (by omega) HB5.out.size ?_)
                  intro v6 w6 hown6 hg6
                  have HB6 : Vl (Below w1.heap.size w1 w6) := sbelow_grown (HB5.out.alloc HB5.out.size _) hg6 (by have := HB5.out.size; simp; omega) (fun j hj => sowns_base HO5.out j hj)
                  obtain ⟨sa6, n6, sc6, hv6⟩ : ∃ sa n sc, v6 = .slice sa n sc := by
                    obtain ⟨a, c, h⟩ := rown_shape hown6
                    exact ⟨_, _, _, h⟩
                  subst hv6
                  obtain ⟨hn6, hA6⟩ := rown_row hown6
                  have HO6 := vl hown6
                  have hSz6 := HI.out.2.2.2.app (r := (⟨#[]⟩, y, z)) HRX.out
                  have HRR := vl (rroute_any sa6 n6 sc6 k (L ++ [(⟨#[]⟩, y, z)]) w6 hA6 hSz6 (by rw [hn6, List.length_append]; have := HLK.out; simp; omega))
                  rw [rts_app, List.take_left' (by rw [rts_len]; exact HLK.out), show (rtsOf L ++ rtsOf [(⟨#[]⟩, y, z)]).getD k rt0 = rtO (⟨#[]⟩, y, z) from by rw [List.getD, List.getElem?_append_right (by rw [rts_len, HLK.out]; exact Nat.le_refl _), rts_len, HLK.out]; simp [rtsOf]] at HRR
                  obtain ⟨E, hE⟩ : ∃ E, oneE (rtsOf L) (rtO (⟨#[]⟩, y, z)) = E := ⟨_, rfl⟩
                  rw [hE] at HRR
                  have HWE : Vl (wordsP (rtsOf L) (cut1 32 (unums u)) = if E = 0 then (0, rtO (⟨#[]⟩, y, z)) else (E, rt0)) := by
                    show _ = _
                    rw [← hE]
                    exact HW3.out
                  have HBW6 := vl (HB1.out.trans (HB6.out.mono HB1.out.size))
                  clear hE hown6 hg6 hn6 hA6
                  go_wp2_with fail
                  refine HRR.out.mono ?_
                  rintro e w7 ⟨rfl, hb7⟩
                  have HB7 := vl (HB6.out.trans (hb7.mono HB6.out.size))
                  have HBW7 := vl (HBW6.out.trans (hb7.mono HBW6.out.size))
                  have HO7 := vl (sown_keep HO6.out hb7)
                  clear hb7 HRR
                  by_cases he : E = 0
                  · subst he
                    have HNX : Vl (RpI (unums s) VS (k + 1) (L ++ [(⟨#[]⟩, y, z)])) := by
                      refine ⟨?_, fun h => by rw [List.length_append, HLK.out]; rfl, by rw [List.length_append, HLK.out]; simp; omega, hSz6⟩
                      rw [HST.out, parseLs, HLP.out, HWE.out, if_pos rfl, rts_app]
                      rfl
                    go_wp2_with fail
                    go_roundw
                    case rel => exact ⟨k + 1, L ++ [(⟨#[]⟩, y, z)], by go_num, by omega, HO7, HNX, HB7⟩
                    case measure => simp [intOf]; omega
                  · have he' : (E != 0) = true := by simpa using he
                    have HR := vl (rpe_no (w' := w7) (HNOQ.out E he (by rw [HWE.out, if_neg he])))
                    go_wp2_with fail
                    go_ret3
                    exact ⟨HR.out, HBW7.out⟩
                · have hs42 : ¬ unums x = [42] := fun e => qs (un_lit.2 e)
                  have qsb : (x.toList == [42]) = false := by simpa using qs
                  rw [if_neg hs42] at HWT
                  have HW3 : Vl (wordsP (rtsOf L) (cut1 32 (unums u)) = if oneE (rtsOf L) (rtO (x, y, z)) = 0 then (0, rtO (x, y, z)) else (oneE (rtsOf L) (rtO (x, y, z)), rt0)) := HWT.out
                  clear hs42
                  go_upto_region 18 with fail
                  have HRX := vl (szOk x (by omega))
                  go_wp2_with (at_builtin; refine wpList_rapp _ rfl _ _ rfl w1.heap.size (.slice sa L.length sc) L x y z rfl HO4.out rfl (by omega) HB4.out.size ?_)
                  intro v6 w6 hown6 hg6
                  have HB6 : Vl (Below w1.heap.size w1 w6) := sbelow_grown (HB4.out.alloc HB4.out.size _) hg6 (by have := HB4.out.size; simp; omega) (fun j hj => sowns_base HO4.out j hj)
                  obtain ⟨sa6, n6, sc6, hv6⟩ : ∃ sa n sc, v6 = .slice sa n sc := by
                    obtain ⟨a, c, h⟩ := rown_shape hown6
                    exact ⟨_, _, _, h⟩
                  subst hv6
                  obtain ⟨hn6, hA6⟩ := rown_row hown6
                  have HO6 := vl hown6
                  have hSz6 := HI.out.2.2.2.app (r := (x, y, z)) HRX.out
                  have HRR := vl (rroute_any sa6 n6 sc6 k (L ++ [(x, y, z)]) w6 hA6 hSz6 (by rw [hn6, List.length_append]; have := HLK.out; simp; omega))
                  rw [rts_app, List.take_left' (by rw [rts_len]; exact HLK.out), show (rtsOf L ++ rtsOf [(x, y, z)]).getD k rt0 = rtO (x, y, z) from by rw [List.getD, List.getElem?_append_right (by rw [rts_len, HLK.out]; exact Nat.le_refl _), rts_len, HLK.out]; simp [rtsOf]] at HRR
                  obtain ⟨E, hE⟩ : ∃ E, oneE (rtsOf L) (rtO (x, y, z)) = E := ⟨_, rfl⟩
                  rw [hE] at HRR
                  have HWE : Vl (wordsP (rtsOf L) (cut1 32 (unums u)) = if E = 0 then (0, rtO (x, y, z)) else (E, rt0)) := by
                    show _ = _
                    rw [← hE]
                    exact HW3.out
                  have HBW6 := vl (HB1.out.trans (HB6.out.mono HB1.out.size))
                  clear hE hown6 hg6 hn6 hA6
                  go_wp2_with fail
                  refine HRR.out.mono ?_
                  rintro e w7 ⟨rfl, hb7⟩
                  have HB7 := vl (HB6.out.trans (hb7.mono HB6.out.size))
                  have HBW7 := vl (HBW6.out.trans (hb7.mono HBW6.out.size))
                  have HO7 := vl (sown_keep HO6.out hb7)
                  clear hb7 HRR
                  by_cases he : E = 0
                  · subst he
                    have HNX : Vl (RpI (unums s) VS (k + 1) (L ++ [(x, y, z)])) := by
                      refine ⟨?_, fun h => by rw [List.length_append, HLK.out]; rfl, by rw [List.length_append, HLK.out]; simp; omega, hSz6⟩
                      rw [HST.out, parseLs, HLP.out, HWE.out, if_pos rfl, rts_app]
                      rfl
                    go_wp2_with fail
                    go_roundw
                    case rel => exact ⟨k + 1, L ++ [(x, y, z)], by go_num, by omega, HO7, HNX, HB7⟩
                    case measure => simp [intOf]; omega
                  · have he' : (E != 0) = true := by simpa using he
                    have HR := vl (rpe_no (w' := w7) (HNOQ.out E he (by rw [HWE.out, if_neg he])))
                    go_wp2_with fail
                    go_ret3
                    exact ⟨HR.out, HBW7.out⟩
        · have h3i : ¬ ((WS.length : Nat) : Int) = 3 := by omega
          have h3n : (((WS.length : Nat) : Int) != 3) = true := by simpa using h3i
          have HR := vl (rpe_no (w' := w2) (HNOQ.out 2 (by decide) (wordsP_not (by rw [← HCW.out, uns_len]; exact h3))))
          go_wp2_with fail
          go_ret3
          exact ⟨HR.out, HBW2.out⟩
    · have hlt' : ¬ (k : Int) < (VS.length : Int) := by omega
      have HR : Vl (RpE (unums s) (.returned (.tuple #[.slice sa L.length sc, .int .i64 0, .int .i64 0])) wr) := by
        refine ⟨L, sa, sc, 0, 0, rfl, (rown_row HO.out).2, ?_⟩
        rw [HI.out.1, List.drop_eq_nil_of_le (by rw [uns_len]; omega)]
        rfl
      go_wp2_with fail
      go_ret3
      exact ⟨HR.out, HBW.out⟩
end Go.Proofs.YtmjdfbbhlbecdaaDoor
