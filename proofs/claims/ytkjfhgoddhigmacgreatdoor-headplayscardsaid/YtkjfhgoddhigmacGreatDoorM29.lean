/-
  CONTRACT of the method Encode of tollref1.C, where nothing is too much. No claim by itself.
-/
import Derived.Deep.CutBlock
import Derived.Deep.DeepCutAuto
import Derived.Deep.QuietTactic
import Derived.BigQuiet
import Derived.Deep.RegionHeld3
import Derived.Deep.RegionWith
import Derived.Test.YtkjfhgoddhigmacGreatDoorM28
import Derived.Test.YtkjfhgoddhigmacGreatDoorM15
namespace Go.Proofs.YtkjfhgoddhigmacGreatDoor
open Go.RowKit
set_option maxRecDepth 100000
theorem weight_small : ∀ (L : List (ByteArray × ByteArray)), (∀ f ∈ L, small f) → weight L ≤ 832 * L.length
  | [], _ => by simp [weight]
  | f :: L, h => by
    have ih := weight_small L (fun g hg => h g (List.mem_cons_of_mem _ hg))
    have h1 := h f List.mem_cons_self
    rw [weight_cons, List.length_cons]
    unfold fsize
    have h2 := h1.1
    have h3 := h1.2
    omega
/-- Weight of fields that are handed in. -/
theorem rweight_arg (a : Option Addr) (len cap : Nat) (L : List (ByteArray × ByteArray)) (w : World) (hA : FArg w a len cap L) (hw : weight L ≤ 1152921504606846976) :
    Calls Tryz.prog 12 #[.slice a len cap] w fun e w' => e = .returned (.int .i64 (weight L : Int)) ∧ Below w.heap.size w w' := by
  rcases hA with ⟨rfl, rfl⟩ | ⟨g, off, rfl, hr⟩
  · exact rweight_nil w a cap
  · exact rweight_any g off len cap L w hr hw
theorem leastL_bd : ∀ (r : List Int) (m : Int), 0 ≤ m → m ≤ 4096 → (∀ x ∈ r, 0 ≤ x ∧ x ≤ 4096) → 0 ≤ leastL m r ∧ leastL m r ≤ 4096
  | [], m, h0, h1, _ => ⟨h0, h1⟩
  | x :: r, m, h0, h1, h => by
    have hx := h x List.mem_cons_self
    show 0 ≤ leastL (if x < m then x else m) r ∧ _
    refine leastL_bd r _ ?_ ?_ (fun y hy => h y (List.mem_cons_of_mem _ hy)) <;> split <;> omega
theorem int_form {w : World} {n : Nat} {v : Value} {xs : List Value} (h : w.ownsRow 0 3 1 v n xs) : ∃ a c, v = .slice a n c ∧ n ≤ c := by
  obtain ⟨_, ⟨rfl, rfl⟩ | ⟨g, cap, cur, rfl, _, _, hc, _⟩⟩ := h
  · exact ⟨none, 0, rfl, Nat.le_refl _⟩
  · exact ⟨_, cap, rfl, hc⟩
theorem int_some {w : World} {n : Nat} {v : Value} {xs : List Value} (h : w.ownsRow 0 3 1 v n xs) (hn : 1 ≤ n) : ∃ g c, v = .slice (some ⟨g, 0, none⟩) n c := by
  obtain ⟨_, ⟨_, h0⟩ | ⟨g, cap, cur, hv, _⟩⟩ := h
  · omega
  · exact ⟨g, cap, hv⟩
theorem int_cells {w : World} {n g c : Nat} {z : List Int} (h : w.ownsRow 0 3 1 (.slice (some ⟨g, 0, none⟩) n c) n (z.map (Value.int .i64))) : ∀ j, j < z.length → w.cell? ⟨g, j, none⟩ = some (.int .i64 (z.getD j 0)) := fun j hj => by
  have hl := h.1
  simp at hl
  rw [h.cellAt j (by omega)]
  simp [List.getD, List.getElem?_eq_getElem hj]
theorem EB.start {S : Nat → Prop} {w wx : World} {cb : Nat} {st : CSt} (h : CodR wx cb st S) (hz : st.sz = []) (ho : Off S w wx) (hc : cb < w.heap.size) : EB S w wx cb { st with sz := [] } S (.slice none 0 0) (szL st.sz) := by
  have e : ({ st with sz := [] } : CSt) = st := by cases st; simp at hz; rw [hz]
  rw [e, hz]
  exact ⟨h, World.ownsRow_nil _ _ _ _, fun k hk => by simp [Value.ownBlock] at hk, ho, fun k hk => Or.inl hk, hc⟩
/-- The sizes that were asked for are forgotten. -/
theorem CodR.noSizes {w : World} {cb : Nat} {st : CSt} {S : Nat → Prop} (h : CodR w cb st S) : CodR (w.setCell ⟨cb, 5, none⟩ (.slice none 0 0)) cb { st with sz := [] } S := by
  obtain ⟨h1, h2, h3, h4, h5, v, h6, h7, h8, h9, h10⟩ := h
  have hc : ∀ i, i ≠ 5 → (w.setCell ⟨cb, 5, none⟩ (.slice none 0 0)).cell? ⟨cb, i, none⟩ = w.cell? ⟨cb, i, none⟩ := fun i hi => World.cell?_setCell_other w ⟨cb, 5, none⟩ ⟨cb, i, none⟩ _ (by intro h; cases h; exact hi rfl)
  have hf : ∀ i, (w.setCell ⟨cb, 5, none⟩ (.slice none 0 0)).frozen? ⟨cb, i, none⟩ = w.frozen? ⟨cb, i, none⟩ := fun i => by rw [World.frozen?_setCell]
  have hb : ∀ k, k ≠ cb → (w.setCell ⟨cb, 5, none⟩ (.slice none 0 0)).heap[k]? = w.heap[k]? := fun k hk => Below.heap_setCell w ⟨cb, 5, none⟩ _ k hk
  have hs : (w.setCell ⟨cb, 5, none⟩ (.slice none 0 0)).heap.size = w.heap.size := by simp
  refine ⟨h1, fun k hk => by rw [hs]; exact h2 k hk, (hc 4 (by decide)).trans h3, (hc 6 (by decide)).trans h4, ⟨(hf 5).trans h5.1, (hf 6).trans h5.2⟩, .slice none 0 0, World.cell?_setCell_same w _ _ h6, World.ownsRow_nil _ _ _ _, fun k hk => by simp [Value.ownBlock] at hk, ?_, ?_⟩
  · exact (h9.same (fun i hi => hc i (by omega)) (fun i _ => hf i) (fun k _ hn _ => hb k hn)).imp (fun q _ hq => ⟨hq.1, by simp [Value.ownBlock]⟩)
  · exact (h10.same (fun i hi => hc i (by omega)) (fun i _ => hf i) (fun k _ hn _ => hb k hn)).imp (fun q _ hq => ⟨hq.1, by simp [Value.ownBlock]⟩)
theorem EB.noSizes {S : Nat → Prop} {w wx : World} {cb : Nat} {st : CSt} {T : Nat → Prop} {b : Value} {P : List Int} (h : EB S w wx cb st T b P) (hS : S cb) : EB S w (wx.setCell ⟨cb, 5, none⟩ (.slice none 0 0)) cb { st with sz := [] } T b P :=
  ⟨h.cod.noSizes, own_kept h.own (fun k e => Below.heap_setCell wx ⟨cb, 5, none⟩ _ k (by have := (h.own.lt k e).1; have := h.hcb; show k ≠ cb; omega)), h.apart, h.off.setCell cb 5 hS _, h.sub, h.hcb⟩
theorem leastL_snoc : ∀ (r : List Int) (m x : Int), leastL m (r ++ [x]) = if x < leastL m r then x else leastL m r
  | [], _, _ => rfl
  | _ :: r, _, x => leastL_snoc r _ x
theorem leastL_take (z : List Int) (m : Int) (j : Nat) (h : j < z.length) : leastL m (z.take (j + 1)) = if z.getD j 0 < leastL m (z.take j) then z.getD j 0 else leastL m (z.take j) := by
  have e : z.take (j + 1) = z.take j ++ [z.getD j 0] := by
    rw [List.take_succ_eq_append_getElem h]; simp [List.getD, List.getElem?_eq_getElem h]
  rw [e, leastL_snoc]
theorem EB.start0 {S : Nat → Prop} {w wx : World} {cb : Nat} {st : CSt} (h : CodR wx cb st S) (ho : Off S w wx) (hc : cb < w.heap.size) : EB S w wx cb st S (.slice none 0 0) [] :=
  ⟨h, World.ownsRow_nil _ _ _ _, fun k hk => by simp [Value.ownBlock] at hk, ho, fun k hk => Or.inl hk, hc⟩
theorem EB.cell5 {S : Nat → Prop} {w wx : World} {cb : Nat} {st : CSt} {T : Nat → Prop} {b : Value} {P : List Int} (h : EB S w wx cb st T b P) : (∃ v, wx.cell? ⟨cb, 5, none⟩ = some v) ∧ wx.frozen? ⟨cb, 5, none⟩ = false := by
  obtain ⟨_, _, _, _, hfz, v, hv, _⟩ := h.cod
  exact ⟨⟨v, hv⟩, hfz.1⟩
theorem EB.size {S : Nat → Prop} {w wx : World} {cb : Nat} {st : CSt} {T : Nat → Prop} {b : Value} {P : List Int} (h : EB S w wx cb st T b P) : w.heap.size ≤ wx.heap.size := h.off.size
theorem szL_eq (z : List Int) (h : 1 ≤ z.length) : szL z = putL (leastL (z.getD 0 0) z) 5 32 ++ (if leastL (z.getD 0 0) z < z.getD (z.length - 1) 0 then putL (z.getD (z.length - 1) 0) 5 32 else []) := by
  match z, h with
  | x :: r, _ =>
    have e : (x :: r).getLastD 0 = (x :: r).getD ((x :: r).length - 1) 0 := by
      rw [List.getLastD_eq_getLast?, List.getLast?_eq_getElem?]; rfl
    show putL (leastL x (x :: r)) 5 32 ++ (if leastL x (x :: r) < (x :: r).getLastD 0 then putL ((x :: r).getLastD 0) 5 32 else []) = _
    rw [e]; rfl
theorem szL_len (z : List Int) : (szL z).length ≤ 12 := by
  match z with
  | [] => simp [szL]
  | x :: r =>
    have h1 := (putL_len (leastL x (x :: r)) 5 32).2
    have h2 := (putL_len ((x :: r).getLastD 0) 5 32).2
    show (putL (leastL x (x :: r)) 5 32 ++ _).length ≤ 12
    rw [List.length_append]
    split
    · omega
    · simp only [List.length_nil]; omega
theorem getD_in (z : List Int) (j : Nat) (h : j < z.length) : z.getD j 0 ∈ z := by
  rw [List.getD, List.getElem?_eq_getElem h]; exact List.getElem_mem _
set_option maxHeartbeats 8000000 in
theorem rcenc_yes (cb : Nat) (st : CSt) (S : Nat → Prop) (a : Option Addr) (len cap : Nat) (L : List (ByteArray × ByteArray)) (base : Nat) (w : World) (hC : CodR w cb st S) (hF : CFit st) (hbase : base ≤ w.heap.size) (hSb : ∀ k, S k → base ≤ k)
    (hA : ∀ wx, Below base w wx → FArg wx a len cap L) (hlen : L.length = len) (h40 : len ≤ 40) (h2000 : weight L ≤ 2000) (hsm : ∀ f ∈ L, small f) :
    Calls Tryz.prog 9 #[.pointer (some ⟨cb, 0, none⟩), .slice a len cap] w fun e w' => ∃ b T, e = .returned (.tuple #[b, .int .i64 0]) ∧ EB S w w' cb { st with AO := (encL st.mo st.AO L).2, sz := [] } T b (szL st.sz ++ (encL st.mo st.AO L).1) := by
  obtain ⟨i0, hi, hz00, hz01, hz02⟩ := info_parts info5
  have hcb := hC.hcb
  have hcl := hC.hlt cb hcb
  have HA := hide hA
  have hA0 := hA w (Below.refl _ _)
  have hw0 := rweight_arg a len cap L w hA0 (by omega)
  have HSM : Hid (∀ k, k < len → (L.getD k fnone).1.size ≤ 400 ∧ (L.getD k fnone).2.size ≤ 400) := fun k hk => by
    have hm : L.getD k fnone ∈ L := by
      rw [List.getD, List.getElem?_eq_getElem (by omega)]; exact List.getElem_mem _
    exact hsm _ hm
  have HSA := hide hsm
  have HC := hide hC
  have HF := hide hF
  have HSB := hide hSb
  have d40 : decide ((40 : Int) < (len : Int)) = false := by simp; omega
  have d20 : decide ((2000 : Int) < (weight L : Int)) = false := by simp; omega
  generalize weight L = wl at *
  clear hC hF hSb hA hA0 hsm
  go_enter Tryz.func9, Tryz.ntmps9
  go_wp2_with fail
  refine hw0.mono ?_
  rintro e w1 ⟨rfl, hb1⟩
  have s1 := hb1.size
  have HB1 := hide hb1
  clear hw0 hb1
  go_wp2_with fail
  go_loopw [6] (fun i wr => ∃ k : Nat, i = .int .i64 k ∧ k ≤ len ∧ w1 = wr) (fun i _ => len - (intOf i).toNat)
  case atStart => exact ⟨0, rfl, by omega, rfl⟩
  case round =>
    obtain ⟨k, rfl, hk, rfl⟩ := hrel
    by_cases hlt : k < len
    · rcases HA.out w1 (HB1.out.mono hbase) with ⟨h0, _⟩ | ⟨g, off, rfl, hr⟩
      · omega
      have c1 := hr.hname k hlt
      have c2 := hr.hvalue k hlt
      have hcap := hr.hcap
      have hmx := hr.hmax
      unfold maxLen at hmx
      obtain ⟨q1, q2⟩ := HSM.out k hlt
      generalize L.getD k fnone = f at *
      obtain ⟨n, v⟩ := f
      have e1 : decide ((400 : Int) < (n.size : Int)) = false := by simp; exact_mod_cast q1
      have e2 : decide ((400 : Int) < (v.size : Int)) = false := by simp; exact_mod_cast q2
      have hki : (k : Int) < (len : Int) := by omega
      clear hr
      go_wp2
      go_roundw
      case rel => exact ⟨k + 1, by go_num, by omega, trivial⟩
      case measure => simp [intOf]; omega
    · have hki : decide ((k : Int) < (len : Int)) = false := by simp; omega
      have HC1 := hide (HC.out.below HB1.out)
      have HO1 := hide (Off.of_below (S := S) HB1.out)
      obtain ⟨_, _, _, _, hfz, v, hv5, hown5, hvS5, _, _⟩ := id HC1.out
      obtain ⟨a5, c5, rfl, hl5⟩ := int_form hown5
      have HV5 := hide hvS5
      have HW5 := hide hown5
      clear hown5 hvS5
      go_upto_if 55 with fail
      go_cut [7] (fun b wx => ∃ T, EB S w wx cb { st with sz := [] } T b (szL st.sz))
      case first =>
        as_aux_lemma =>
          have hown5 := HW5.out
          by_cases hz : st.sz = []
          · have HZ := hide hz
            have hl0 : st.sz.length = 0 := by rw [hz]; rfl
            rw [hl0] at hv5
            clear hown5 hz
            go_wp2_with fail
            go_meet
            exact ⟨S, EB.start HC1.out HZ.out HO1.out hcl⟩
          · have hl1 : 1 ≤ st.sz.length := by
              rcases Nat.eq_zero_or_pos st.sz.length with h | h
              · exact absurd (List.eq_nil_of_length_eq_zero h) hz
              · exact h
            obtain ⟨gs, cs, hform⟩ := int_some hown5 hl1
            obtain ⟨rfl, rfl⟩ : a5 = some ⟨gs, 0, none⟩ ∧ c5 = cs := by cases hform; exact ⟨rfl, rfl⟩
            have HI := hide (int_cells hown5)
            have hszl := HF.out.hlen
            have HSZ := hide HF.out.hsz
            have hpos : decide ((0 : Int) < (st.sz.length : Int)) = true := by simp; omega
            have hz1 : (0 : Int) < (st.sz.length : Int) := by omega
            have hz0 := HI.out 0 (by omega)
            have f5 := hfz.1
            have hsb := HSZ.out
            have hlb := leastL_bd st.sz (st.sz.getD 0 0) (hsb _ (getD_in _ 0 (by omega))).1 (hsb _ (getD_in _ 0 (by omega))).2 hsb
            have hab := hsb _ (getD_in st.sz (st.sz.length - 1) (by omega))
            have HEQ := hide (szL_eq st.sz hl1)
            have HLT := hide (fun j (hj : j < st.sz.length) => leastL_take st.sz (st.sz.getD 0 0) j hj)
            have HLL := hide (fun (j : Nat) (hj : j ≤ st.sz.length) => leastL_bd (st.sz.take j) (st.sz.getD 0 0) (hsb _ (getD_in _ 0 (by omega))).1 (hsb _ (getD_in _ 0 (by omega))).2 (fun x hx => hsb x (List.mem_of_mem_take hx)))
            have HFIN : Hid (leastL (st.sz.getD 0 0) (st.sz.take st.sz.length) = leastL (st.sz.getD 0 0) st.sz) := by show _ = _; rw [List.take_length]
            have hlast := HI.out (st.sz.length - 1) (by omega)
            generalize hzz : st.sz.length = n at *
            have HN := hide hzz
            clear hzz hsb hown5 hform hz
            go_wp2_with fail
            go_loopw [8, 9] (fun m i wr => ∃ j : Nat, i = .int .i64 j ∧ j ≤ n ∧ m = .int .i64 (leastL (st.sz.getD 0 0) (st.sz.take j)) ∧ w1 = wr) (fun _ i _ => n - (intOf i).toNat)
            case atStart => exact ⟨0, rfl, by omega, rfl, rfl⟩
            case round =>
              obtain ⟨j, rfl, hj, rfl, rfl⟩ := hrel
              by_cases hjl : j < n
              · have hc := HI.out j hjl
                have hst := HLT.out j hjl
                have hbd := HLL.out j hj
                have hji : (j : Int) < (n : Int) := by omega
                generalize leastL (st.sz.getD 0 0) (st.sz.take j) = m at *
                generalize st.sz.getD j 0 = y at *
                have HST := hide hst
                clear hst
                by_cases hym : y < m
                · have hd : decide (y < m) = true := by simpa using hym
                  have E : Hid (leastL (st.sz.getD 0 0) (st.sz.take (j + 1)) = y) := by show _ = _; rw [HST.out, if_pos hym]
                  go_wp2
                  go_roundw
                  case rel => exact ⟨j + 1, by go_num, by omega, by rw [E.out], trivial⟩
                  case measure => simp [intOf]; omega
                · have hd : decide (y < m) = false := by simpa using hym
                  have E : Hid (leastL (st.sz.getD 0 0) (st.sz.take (j + 1)) = m) := by show _ = _; rw [HST.out, if_neg hym]
                  go_wp2
                  go_roundw
                  case rel => exact ⟨j + 1, by go_num, by omega, by rw [E.out], trivial⟩
                  case measure => simp [intOf]; omega
              · obtain rfl : j = n := by omega
                have hji : decide ((j : Int) < (j : Int)) = false := by simp
                rw [HFIN.out]
                generalize leastL (st.sz.getD 0 0) st.sz = le at *
                generalize st.sz.getD (j - 1) 0 = la at *
                have t1 : ((j : Int) - 1).toNat = j - 1 := by omega
                have t2 : (0 : Int) ≤ (j : Int) - 1 := by omega
                have t3 : (j : Int) - 1 < (j : Int) := by omega
                have hok1 : putOk le 5 32 := ⟨by omega, by omega, by decide, by decide, by decide, by decide, by decide⟩
                have hok2 : putOk la 5 32 := ⟨by omega, by omega, by decide, by decide, by decide, by decide, by decide⟩
                have hp1 := (putL_len le 5 32).2
                have hp2 := (putL_len la 5 32).2
                go_wp2_with fail
                go_quiet (fail)
                have E0 := hide (EB.start0 (w := w) (HC1.out.below (drewN_below (Below.refl _ _) nq)) (HO1.out.trans (Off.of_below (drewN_below (Below.refl _ _) nq))) hcl)
                go_wp2_with fail
                refine (rput_yes le 5 32 (w1.drewN nq) hok1).mono ?_
                rintro e w2 ⟨g2, cap2, rfl, hown2, hb2⟩
                have R2 := hide (put_row hok1 hown2)
                have E1 := hide (E0.out.below hb2)
                have z1 := E1.out.size
                clear hown2 hb2
                generalize putL le 5 32 = P at *
                go_wp2_with (at_builtin; refine wpList_append_own_at _ rfl _ _ 35 rfl w.heap.size 5 i0 _ 1 1 Tryz.underlying35 hi hz00 hz01 hz02 rfl (by decide) _ _ _ rfl E1.out.own ⟨g2, 0, none⟩ P.length cap2 (P.map (Value.int .u8)) rfl (by simp) (row_news R2.out) (one_bytes P) ?c3 ?c4 ?c5 ?_)
                case c3 => unfold maxLen; simp; omega
                case c4 => simp; omega
                case c5 => omega
                intro v2 w3 hown3 hgrow3 _ hat3
                have E2 := hide (E1.out.app (n := P.length) (X := P) (by simp) hown3 hgrow3 hat3)
                have z2 := E2.out.size
                obtain ⟨⟨v5, q5⟩, q6⟩ := E2.out.cell5
                clear hown3 hgrow3 hat3
                by_cases hla : le < la
                · have dla : decide (le < la) = true := by simpa using hla
                  go_wp2_with fail
                  refine (rput_yes la 5 32 w3 hok2).mono ?_
                  rintro e w4 ⟨g4, cap4, rfl, hown4, hb4⟩
                  have R4 := hide (put_row hok2 hown4)
                  have E3 := hide (E2.out.below hb4)
                  have z3 := E3.out.size
                  clear hown4 hb4
                  generalize putL la 5 32 = P2 at *
                  go_wp2_with (at_builtin; refine wpList_append_own_at _ rfl _ _ 35 rfl w.heap.size 5 i0 _ 1 1 Tryz.underlying35 hi hz00 hz01 hz02 rfl (by decide) _ _ _ rfl E3.out.own ⟨g4, 0, none⟩ P2.length cap4 (P2.map (Value.int .u8)) rfl (by simp) (row_news R4.out) (one_bytes P2) ?c3 ?c4 ?c5 ?_)
                  case c3 => unfold maxLen; simp; omega
                  case c4 => simp; omega
                  case c5 => omega
                  intro v4 w5 hown5 hgrow5 _ hat5
                  have E4 := hide (E3.out.app (X := P2) rfl hown5 hgrow5 hat5)
                  obtain ⟨⟨v6, q7⟩, q8⟩ := E4.out.cell5
                  clear hown5 hgrow5 hat5
                  go_wp2_with fail
                  go_meet
                  refine ⟨S, ?_⟩
                  rw [HEQ.out, if_pos hla]
                  exact E4.out.noSizes hcb
                · have dla : decide (le < la) = false := by simpa using hla
                  go_wp2_with fail
                  go_meet
                  refine ⟨S, ?_⟩
                  rw [HEQ.out, if_neg (by omega), List.append_nil]
                  exact E2.out.noSizes hcb
      case rest =>
        obtain ⟨T0, hE0⟩ := hcut
        have HE0 := hide hE0
        clear hE0 HC1 HO1 HV5 HW5 hv5 hfz hl5
        go_wp2_with fail
        go_loopw [7, 13] (fun b i wr => ∃ (k : Nat) (T : Nat → Prop), i = .int .i64 k ∧ k ≤ len ∧ Hid (EB S w wr cb { st with AO := (encL st.mo st.AO (L.take k)).2, sz := [] } T b (szL st.sz ++ (encL st.mo st.AO (L.take k)).1))) (fun _ i _ => len - (intOf i).toNat)
        case atStart => exact ⟨0, T0, rfl, by omega, hide (by simpa [encL] using HE0.out)⟩
        case round =>
          clear HE0
          obtain ⟨j, T, rfl, hj, HE⟩ := hrel
          by_cases hjl : j < len
          · have hBw : Below base w wr := Below.off (Below.refl base w) HE.out.off hbase HSB.out
            rcases HA.out wr hBw with ⟨h0, _⟩ | ⟨g, off, rfl, hr⟩
            · omega
            have c1 := hr.hname j hjl
            have c2 := hr.hvalue j hjl
            have hcap := hr.hcap
            have hmx := hr.hmax
            unfold maxLen at hmx
            have hgl : g < wr.heap.size := blk_lt c1
            obtain ⟨q1, q2⟩ := HSM.out j hjl
            have HCL : Hid (∀ wx, Off S w wx → wx.cell? ⟨g, off + j * 2, none⟩ = some (.string (L.getD j fnone).1) ∧ wx.cell? ⟨g, off + j * 2 + 1, none⟩ = some (.string (L.getD j fnone).2)) := fun wx ho => by
              rcases HA.out wx (Below.off (Below.refl base w) ho hbase HSB.out) with ⟨h0, _⟩ | ⟨g', off', e, hr'⟩
              · omega
              · cases e
                exact ⟨hr'.hname j hjl, hr'.hvalue j hjl⟩
            have HST := hide (encL_take st.mo st.AO L j (by omega))
            have hFA := Fit.encL (L.take j) HF.out.out
            have hji : (j : Int) < (len : Int) := by omega
            have hj0 : (0 : Int) ≤ (j : Int) := by omega
            have hPl : (szL st.sz ++ (encL st.mo st.AO (L.take j)).1).length ≤ 41000 := by
              have h1 := encL_len st.mo (L.take j) st.AO (fun f hf => HSA.out f (List.mem_of_mem_take hf))
              have h2 := szL_len st.sz
              rw [List.length_take] at h1
              rw [List.length_append]
              omega
            generalize (encL st.mo st.AO (L.take j)).2 = A at *
            generalize hP : szL st.sz ++ (encL st.mo st.AO (L.take j)).1 = P at *
            have HP := hide hP
            clear hP
            generalize L.getD j fnone = f at *
            obtain ⟨n, v⟩ := f
            have hnv : n.size + v.size ≤ 1152921504606846976 := by simp at q1 q2; omega
            have hAl := hFA.len
            obtain ⟨G, hT⟩ := HE.out.cod.out
            have hfind := rfind_any cb 0 st.mo A n v wr.drew (hT.below ((Below.refl _ _).drew)) (by omega)
            clear hr
            go_wp2_with fail
            go_region_held3 (fun w' => w'.cell? ⟨g, off + j * 2, none⟩ = some (.string n) ∧ w'.cell? ⟨g, off + j * 2 + 1, none⟩ = some (.string v))
              (first | go_keep | (exact ⟨(hb2.cell (p := ⟨g, off + j * 2, none⟩) hgl).trans c1, (hb2.cell (p := ⟨g, off + j * 2 + 1, none⟩) hgl).trans c2⟩))
              ((go_at_call 21; refine hfind.mono ?_; rintro e w2 ⟨rfl, hb2⟩))
            have hbw2 : Below wr.heap.size wr w2 := (Below.refl _ _).drew.trans hb2
            have E1 := hide (HE.out.below hbw2)
            have k1 : w2.cell? ⟨g, off + j * 2, none⟩ = some (.string n) := (hbw2.cell (p := ⟨g, off + j * 2, none⟩) hgl).trans c1
            have k2 : w2.cell? ⟨g, off + j * 2 + 1, none⟩ = some (.string v) := (hbw2.cell (p := ⟨g, off + j * 2 + 1, none⟩) hgl).trans c2
            have z1 := E1.out.size
            have hsz2 := hbw2.size
            have hLl : (alwaysL ++ A).length = 12 + A.length := by rw [List.length_append, always_len]
            have w1b := fnd_le (isF n v) (alwaysL ++ A) 0
            have w2b := fnd_le (isN n) (alwaysL ++ A) 0
            have HST2 := hide (show enc1 st.mo A (n, v) = _ from rfl)
            generalize hwh : fnd (isF n v) (alwaysL ++ A) 0 = wh at *
            generalize hnm : fnd (isN n) (alwaysL ++ A) 0 = nm at *
            have HWH := hide hwh
            have HNM := hide hnm
            clear hwh hnm hfind hT hb2
            have rel : ∀ (X : List Int) (A' : List (ByteArray × ByteArray)), enc1 st.mo A (n, v) = (X, A') → (encL st.mo st.AO (L.take (j + 1))).2 = A' ∧ szL st.sz ++ (encL st.mo st.AO (L.take (j + 1))).1 = P ++ X := fun X A' he => by
              rw [HST.out, he]
              exact ⟨rfl, by rw [← HP.out, List.append_assoc]⟩
            have REL := hide rel
            clear rel
            by_cases hw0 : 0 < wh
            · have dw : decide ((0 : Int) < (wh : Int)) = true := by simp; omega
              have HX : Hid (enc1 st.mo A (n, v) = (putL (wh : Int) 7 128, A)) := by
                show enc1 st.mo A (n, v) = _
                unfold enc1; rw [HWH.out, if_pos hw0]
              have hok : putOk (wh : Int) 7 128 := ⟨by omega, by omega, by decide, by decide, by decide, by decide, by decide⟩
              have hpl := (putL_len (wh : Int) 7 128).2
              go_wp2_with fail
              refine (rput_yes (wh : Int) 7 128 w2 hok).mono ?_
              rintro e w3 ⟨g3, cap3, rfl, hown3, hb3⟩
              have R3 := hide (put_row hok hown3)
              have E2 := hide (E1.out.below hb3)
              have z2 := E2.out.size
              clear hown3 hb3
              generalize putL (wh : Int) 7 128 = X at *
              go_wp2_with (at_builtin; refine wpList_append_own_at _ rfl _ _ 35 rfl w.heap.size 5 i0 _ 1 1 Tryz.underlying35 hi hz00 hz01 hz02 rfl (by decide) _ _ _ rfl E2.out.own ⟨g3, 0, none⟩ X.length cap3 (X.map (Value.int .u8)) rfl (by simp) (row_news R3.out) (one_bytes X) ?c3 ?c4 ?c5 ?_)
              case c3 => unfold maxLen; omega
              case c4 => omega
              case c5 => omega
              intro v4 w4 hown4 hgrow4 _ hat4
              have E3 := hide (E2.out.app (X := X) rfl hown4 hgrow4 hat4)
              clear hown4 hgrow4 hat4
              go_wp2
              go_roundw
              case rel =>
                obtain ⟨r1, r2⟩ := REL.out _ _ HX.out
                exact ⟨j + 1, T, by go_num, by omega, by rw [r1, r2]; exact E3⟩
              case measure => simp [intOf]; omega
            · obtain rfl : wh = 0 := by omega
              have dw : decide ((0 : Int) < ((0 : Nat) : Int)) = false := by decide
              have hok : putOk (nm : Int) 6 64 := ⟨by omega, by omega, by decide, by decide, by decide, by decide, by decide⟩
              have hpl := (putL_len (nm : Int) 6 64).2
              have HX : Hid (enc1 st.mo A (n, v) = (putL (nm : Int) 6 64 ++ ((if nm = 0 then txtL (nums n) else []) ++ txtL (nums v)), (addL A (n, v) st.mo).2)) := by
                show enc1 st.mo A (n, v) = _
                unfold enc1; rw [HWH.out, if_neg (by omega), HNM.out]
              go_wp2_with fail
              refine (rput_yes (nm : Int) 6 64 w2 hok).mono ?_
              rintro e w3 ⟨g3, cap3, rfl, hown3, hb3⟩
              have R3 := hide (put_row hok hown3)
              have E2 := hide (E1.out.below hb3)
              have z2 := E2.out.size
              clear hown3 hb3 k1 k2
              generalize hX1 : putL (nm : Int) 6 64 = X1 at *
              have HX1 := hide hX1
              clear hX1
              go_wp2_with (at_builtin; refine wpList_append_own_at _ rfl _ _ 35 rfl w.heap.size 5 i0 _ 1 1 Tryz.underlying35 hi hz00 hz01 hz02 rfl (by decide) _ _ _ rfl E2.out.own ⟨g3, 0, none⟩ X1.length cap3 (X1.map (Value.int .u8)) rfl (by simp) (row_news R3.out) (one_bytes X1) ?c3 ?c4 ?c5 ?_)
              case c3 => unfold maxLen; omega
              case c4 => omega
              case c5 => omega
              intro v4 w4 hownz hgrowz _ hatz
              have ez := E2.out.app (X := X1) rfl hownz hgrowz hatz
              obtain ⟨Q1, hQz⟩ : ∃ Q, Q = P ++ X1 := ⟨_, rfl⟩
              have lQ1 : Q1.length ≤ P.length + X1.length := by rw [hQz, List.length_append]; exact Nat.le_refl _
              rw [← hQz] at ez
              have E3 := hide ez
              have HQ1 := hide hQz
              have z3 := E3.out.size
              clear hownz hgrowz hatz ez hQz
              by_cases hn0 : nm = 0
              · subst hn0
                rw [if_pos rfl] at HX
                obtain ⟨a1, a2⟩ := HCL.out w4 E3.out.off
                go_wp2_with fail
                refine (rtext_any n w4).mono ?_
                rintro e w5 ⟨⟨xz, kz, rfl, htmz⟩, hbz⟩
                obtain ⟨rfl, g5, cap5, rfl, hoz⟩ := text_made htmz (by simpa using q1)
                have R5 := hide (row_of rfl hoz (txt_byte _ (nums_mem n)))
                have E4 := hide (E3.out.below hbz)
                have z4 := E4.out.size
                have l5 := (txt_len (nums n) (by rw [nums_len]; simpa using q1)).2
                clear htmz hbz hoz a1 a2
                generalize h5X : txtL (nums n) = X2 at *
                have HX2 := hide h5X
                clear h5X
                go_wp2_with (at_builtin; refine wpList_append_own_at _ rfl _ _ 35 rfl w.heap.size 5 i0 _ 1 1 Tryz.underlying35 hi hz00 hz01 hz02 rfl (by decide) _ _ _ rfl E4.out.own ⟨g5, 0, none⟩ X2.length cap5 (X2.map (Value.int .u8)) rfl (by simp) (row_news R5.out) (one_bytes X2) ?c3 ?c4 ?c5 ?_)
                case c3 => unfold maxLen; omega
                case c4 => omega
                case c5 => omega
                intro v6 w6 hownz hgrowz _ hatz
                have ez := E4.out.app (X := X2) rfl hownz hgrowz hatz
                obtain ⟨Q2, hQz⟩ : ∃ Q, Q = Q1 ++ X2 := ⟨_, rfl⟩
                have lQ2 : Q2.length ≤ Q1.length + X2.length := by rw [hQz, List.length_append]; exact Nat.le_refl _
                rw [← hQz] at ez
                have E5 := hide ez
                have HQ2 := hide hQz
                have z5 := E5.out.size
                clear hownz hgrowz hatz ez hQz
                obtain ⟨a3, a4⟩ := HCL.out w6 E5.out.off
                go_wp2_with fail
                refine (rtext_any v w6).mono ?_
                rintro e w7 ⟨⟨xz, kz, rfl, htmz⟩, hbz⟩
                obtain ⟨rfl, g7, cap7, rfl, hoz⟩ := text_made htmz (by simpa using q2)
                have R7 := hide (row_of rfl hoz (txt_byte _ (nums_mem v)))
                have E6 := hide (E5.out.below hbz)
                have z6 := E6.out.size
                have l7 := (txt_len (nums v) (by rw [nums_len]; simpa using q2)).2
                clear htmz hbz hoz a3 a4
                generalize h7X : txtL (nums v) = X3 at *
                have HX3 := hide h7X
                clear h7X
                go_wp2_with (at_builtin; refine wpList_append_own_at _ rfl _ _ 35 rfl w.heap.size 5 i0 _ 1 1 Tryz.underlying35 hi hz00 hz01 hz02 rfl (by decide) _ _ _ rfl E6.out.own ⟨g7, 0, none⟩ X3.length cap7 (X3.map (Value.int .u8)) rfl (by simp) (row_news R7.out) (one_bytes X3) ?c3 ?c4 ?c5 ?_)
                case c3 => unfold maxLen; omega
                case c4 => omega
                case c5 => omega
                intro v8 w8 hownz hgrowz _ hatz
                have ez := E6.out.app (X := X3) rfl hownz hgrowz hatz
                obtain ⟨Q3, hQz⟩ : ∃ Q, Q = Q2 ++ X3 := ⟨_, rfl⟩
                have lQ3 : Q3.length ≤ Q2.length + X3.length := by rw [hQz, List.length_append]; exact Nat.le_refl _
                rw [← hQz] at ez
                have E7 := hide ez
                have HQ3 := hide hQz
                have z7 := E7.out.size
                clear hownz hgrowz hatz ez hQz
                obtain ⟨GG, hT⟩ := E7.out.cod.out
                have hadd := radd_any cb 0 st.mo A n v w8.drew (hT.below ((Below.refl _ _).drew)) hFA hnv
                obtain ⟨d1, d2⟩ := HCL.out w8 E7.out.off
                have hgz : g < w8.heap.size := blk_lt d1
                clear hT
                go_wp2_with fail
                go_region_with (go_at_call 23; refine hadd.mono ?_; rintro e w9 ⟨rfl, hbutz, hTz⟩)
                all_goals
                  obtain ⟨T9, E9⟩ := (E7.out.below ((Below.refl _ _).drew)).add hcb hbutz _ hTz
                  go_wp2
                  go_roundw
                  case rel =>
                    obtain ⟨r1, r2⟩ := REL.out _ _ HX.out
                    have eq : P ++ (X1 ++ (X2 ++ X3)) = Q3 := by rw [HQ3.out, HQ2.out, HQ1.out]; simp [List.append_assoc]
                    refine ⟨j + 1, T9, by go_num, by omega, ?_⟩
                    rw [r1, r2, eq]
                    exact hide E9
                  case measure => simp [intOf]; omega
              · have dn0 : ¬ ((nm : Int) = 0) := by omega
                rw [if_neg hn0] at HX
                obtain ⟨a3, a4⟩ := HCL.out w4 E3.out.off
                go_wp2_with fail
                refine (rtext_any v w4).mono ?_
                rintro e w7 ⟨⟨xz, kz, rfl, htmz⟩, hbz⟩
                obtain ⟨rfl, g7, cap7, rfl, hoz⟩ := text_made htmz (by simpa using q2)
                have R7 := hide (row_of rfl hoz (txt_byte _ (nums_mem v)))
                have E6 := hide (E3.out.below hbz)
                have z6 := E6.out.size
                have l7 := (txt_len (nums v) (by rw [nums_len]; simpa using q2)).2
                clear htmz hbz hoz a3 a4
                generalize h7X : txtL (nums v) = X3 at *
                have HX3 := hide h7X
                clear h7X
                go_wp2_with (at_builtin; refine wpList_append_own_at _ rfl _ _ 35 rfl w.heap.size 5 i0 _ 1 1 Tryz.underlying35 hi hz00 hz01 hz02 rfl (by decide) _ _ _ rfl E6.out.own ⟨g7, 0, none⟩ X3.length cap7 (X3.map (Value.int .u8)) rfl (by simp) (row_news R7.out) (one_bytes X3) ?c3 ?c4 ?c5 ?_)
                case c3 => unfold maxLen; omega
                case c4 => omega
                case c5 => omega
                intro v8 w8 hownz hgrowz _ hatz
                have ez := E6.out.app (X := X3) rfl hownz hgrowz hatz
                obtain ⟨Q3, hQz⟩ : ∃ Q, Q = Q1 ++ X3 := ⟨_, rfl⟩
                have lQ3 : Q3.length ≤ Q1.length + X3.length := by rw [hQz, List.length_append]; exact Nat.le_refl _
                rw [← hQz] at ez
                have E7 := hide ez
                have HQ3 := hide hQz
                have z7 := E7.out.size
                clear hownz hgrowz hatz ez hQz
                obtain ⟨GG, hT⟩ := E7.out.cod.out
                have hadd := radd_any cb 0 st.mo A n v w8.drew (hT.below ((Below.refl _ _).drew)) hFA hnv
                obtain ⟨d1, d2⟩ := HCL.out w8 E7.out.off
                have hgz : g < w8.heap.size := blk_lt d1
                clear hT
                go_wp2_with fail
                go_region_with (go_at_call 23; refine hadd.mono ?_; rintro e w9 ⟨rfl, hbutz, hTz⟩)
                all_goals
                  obtain ⟨T9, E9⟩ := (E7.out.below ((Below.refl _ _).drew)).add hcb hbutz _ hTz
                  go_wp2
                  go_roundw
                  case rel =>
                    obtain ⟨r1, r2⟩ := REL.out _ _ HX.out
                    have eq : P ++ (X1 ++ ([] ++ X3)) = Q3 := by rw [HQ3.out, HQ1.out]; simp [List.append_assoc]
                    refine ⟨j + 1, T9, by go_num, by omega, ?_⟩
                    rw [r1, r2, eq]
                    exact hide E9
                  case measure => simp [intOf]; omega
          · have hji : decide ((j : Int) < (len : Int)) = false := by simp; omega
            go_wp2
            go_ret2
            have e : L.take j = L := List.take_of_length_le (by omega)
            rw [e] at HE
            exact ⟨_, T, rfl, HE.out⟩
end Go.Proofs.YtkjfhgoddhigmacGreatDoor
