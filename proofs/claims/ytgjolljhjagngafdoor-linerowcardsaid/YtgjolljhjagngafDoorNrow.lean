/-
  LINEROW: the walk of the law over the contracts. No claim by itself.
-/
import Derived.Test.YtgjolljhjagngafDoorNrowm
import Derived.Test.YtgjolljhjagngafDoorNropn
import Derived.Deep.RegionHeld3
import Derived.BigQuiet
import Derived.Deep.QuietTactic
import Derived.Deep.DeepCutAuto
namespace Go.Proofs.YtgjolljhjagngafDoor
open Go.RowKit
set_option maxRecDepth 100000
theorem arg_none {w : World} {a : Option Addr} {len cap : Nat} {Z : List Int} (h : Arg w a len cap Z) (e : a = none) : len = 0 := by
  rcases h with ⟨h0, _⟩ | ⟨g, off, e1, _⟩
  · exact h0
  · rw [e] at e1; cases e1
def q00 : RqM := ⟨⟨#[71, 69, 84]⟩, ⟨#[47]⟩, ⟨#[104]⟩, none, 0, 0, none, 0, 0, [], []⟩
theorem q00_in (w : World) : RqIn w q00 := ⟨Or.inl ⟨rfl, rfl⟩, Or.inl ⟨rfl, rfl⟩, fun _ => ⟨rfl, rfl⟩, ⟨Nat.zero_le _, Nat.zero_le _⟩, ⟨by decide, by decide, by decide⟩, fun t => ⟨Nat.zero_le _, Nat.zero_le _⟩⟩
theorem q00_e : askE q00.rq = 0 := by decide
theorem q00_l : strOfNums (askOut q00.rq) = ⟨#[71, 69, 84, 32, 47, 32, 69, 68, 71, 69, 47, 49, 13, 10, 104, 111, 115, 116, 58, 32, 104, 13, 10, 13, 10]⟩ := by decide
def rqR (F : Nat → RqM) (len : Nat) : List Rq := (List.range len).map fun t => (F t).rq
theorem rqR_at {F : Nat → RqM} {len t : Nat} (h : t < len) : (rqR F len).getD t default = (F t).rq := by
  unfold rqR
  simp [List.getD, h]
theorem rqR_len (F : Nat → RqM) (len : Nat) : (rqR F len).length = len := by simp [rqR]
theorem out_ok {r : Rq} (h : askE r = 0) : askOut r = askL r := by unfold askOut; rw [if_pos h]
theorem rows_bytes {F : Nat → RqM} {len : Nat} (h : ∀ j, j < len → Bytes (askL (F j).rq)) : ∀ k, k ≤ len → Bytes (rowsL (rqR F len) k) := by
  intro k
  induction k with
  | zero => intro _; rw [rows_zero]; intro x hx; cases hx
  | succ k ih =>
    intro hk
    rw [rows_succ (by rw [rqR_len]; omega), rqR_at (by omega)]
    exact bytes_app (ih (by omega)) (h k (by omega))
theorem row_part {w : World} {g off len cap : Nat} {Z : List Int} (h : Row w g off len cap Z) (u : Nat) (hu : u ≤ len) :
    ∃ o, (if cap = u then some (⟨g, off, none⟩ : Addr) else some ⟨g, off + u, none⟩) = some ⟨g, o, none⟩ ∧ Arg w (some ⟨g, o, none⟩) (len - u) (cap - u) (Z.drop u) := by
  have hl := h.hlen
  have hc := h.hcap
  by_cases e : cap = u
  · refine ⟨off, by rw [if_pos e], Or.inl ⟨by omega, List.drop_eq_nil_of_le (by omega)⟩⟩
  · refine ⟨off + u, by rw [if_neg e], Or.inr ⟨g, off + u, rfl, by simp; omega, by omega, by have := h.hmax; omega, fun t ht => ?_, fun t => ?_⟩⟩
    · have := h.hcell (u + t) (by omega)
      rw [Nat.add_assoc, this]
      simp [List.getD]
    · have := h.hbyte (u + t)
      simpa [List.getD] using this
set_option maxHeartbeats 4000000 in
theorem nrow_row (D : NLd) (hA : NAskSaid D) (hR : NReadAskSaid D) (g off len cap : Nat) (F : Nat → RqM) (w : World) (h : RqRow w g off len cap F) (h0 : 0 < len) (hd : D.P w) :
    Calls Tryd.prog 7 #[.slice (some ⟨g, off, none⟩) len cap] w fun e w' => e = .returned (.bool true) ∧ Below w.heap.size w w' := by
  have HA := vl hA
  have HR := vl hR
  have HRW := vl h
  have HD := vl (fun W (hb : Below w.heap.size w W) => D.below hd hb)
  have hcap := h.hcap
  have hmax := h.hmax
  unfold maxLen at hmax
  have H0 := vl (HA.out q00 w hd (q00_in w))
  rw [q00_e] at H0
  unfold RqM.val q00 at H0
  simp only [errW_zero] at H0
  clear hA hR h hd
  go_enter Tryd.func7, Tryd.ntmps7
  go_wp2_with fail
  refine H0.out.mono ?_
  rintro e w1 ⟨v1, rfl, ho1, hb1⟩
  have cv := ho1.text
  change _ = Result.ok (Value.string (strOfNums (askOut q00.rq))) w1 at cv
  rw [q00_l] at cv
  have B1 := vl hb1
  have hsz : w.heap.size ≤ w1.heap.size := hb1.size
  obtain ⟨n0, hn0⟩ : ∃ n0, n0 = w.heap.size := ⟨_, rfl⟩
  have EN := vl hn0
  clear H0 ho1 hb1 hn0 hsz
  go_wp2
  go_loopw [5, 6] (fun bv iv wr => ∃ (i : Nat) (ab : Option Addr) (cb : Nat), bv = .slice ab (rowsL (rqR F len) i).length cb ∧ iv = .int .i64 i ∧ i ≤ len ∧ i ≤ 10 ∧ Vl (UOwn wr n0 (.slice ab (rowsL (rqR F len) i).length cb) (rowsL (rqR F len) i)) ∧ Vl (Below w.heap.size w wr) ∧ Vl (∀ j, j < i → askE (F j).rq = 0 ∧ (askL (F j).rq).length ≤ 15000)) (fun _ iv _ => 10 - (intOf iv).toNat)
  case atStart => exact ⟨0, none, 0, by rw [rows_zero]; rfl, rfl, by omega, by omega, Or.inl ⟨by rw [rows_zero]; rfl, rows_zero _⟩, B1, fun j hj => by omega⟩
  case round =>
    obtain ⟨i, ab, cb, rfl, rfl, hi1, hi2, O1, BR, HE⟩ := hrel
    obtain ⟨bl, hbl⟩ : ∃ bl, bl = (rowsL (rqR F len) i).length := ⟨_, rfl⟩
    have HBL := vl hbl
    rw [← hbl] at O1 ⊢
    clear hbl
    go_upto_region 6 with fail
    go_cut [33] (fun b wx => ∃ bb : Bool, b = .bool bb ∧ Vl (wx = wr) ∧ Vl ((bb = true ∧ i < len ∧ i < 10) ∨ (bb = false ∧ (i = len ∨ i = 10))))
    case first =>
      as_aux_lemma =>
        by_cases e1 : (i : Int) < (len : Int)
        · by_cases e2 : (i : Int) < 10
          · go_wp2
            go_meet
            exact ⟨true, by simp, rfl, Or.inl ⟨by simp, by omega, by omega⟩⟩
          · go_wp2
            go_meet
            exact ⟨false, by simp, rfl, Or.inr ⟨by simp, by omega⟩⟩
        · go_wp2
          go_meet
          exact ⟨false, by simp, rfl, Or.inr ⟨by simp, by omega⟩⟩
    case rest =>
    obtain ⟨bb, rfl, hwx, HBB⟩ := hcut
    rw [hwx.out]
    clear hwx
    cases bb with
    | true =>
      as_aux_lemma =>
      obtain ⟨k1, k2⟩ : i < len ∧ i < 10 := by
        rcases HBB.out with ⟨_, h⟩ | ⟨h, _⟩
        · exact h
        · cases h
      have k1' : (i : Int) < (len : Int) := by omega
      obtain ⟨⟨⟨c0, c1⟩, c2, c3, c4⟩, hin⟩ := (HRW.out.below BR.out).hel i k1
      have H2 := vl (HA.out (F i) wr (HD.out wr BR.out) hin)
      unfold RqM.val at H2
      have HBY : Vl (Bytes (askL (F i).rq)) := bytes_askq (F i) hin.body.bytes
      obtain ⟨ea, hea⟩ : ∃ ea, askE (F i).rq = ea := ⟨_, rfl⟩
      rw [hea] at H2
      have HEA := vl hea
      have HS0 : Vl (n0 ≤ wr.heap.size) := by rw [EN.out]; exact BR.out.size
      clear HBB hin hea
      by_cases he : ea = 0
      · subst he
        rw [out_ok HEA.out] at H2
        simp only [errW_zero] at H2
        obtain ⟨AL, hAL⟩ : ∃ AL, AL = askL (F i).rq := ⟨_, rfl⟩
        rw [← hAL] at H2 HBY
        have HAL := vl hAL
        clear hAL
        go_wp2_with fail
        refine H2.out.mono ?_
        rintro e w2 ⟨v2, rfl, ho2, hb2⟩
        obtain ⟨a2, c2', rfl, _, _⟩ := ho2.slice
        have B2 := vl (BR.out.trans (hb2.mono BR.out.size))
        have O2 := vl (O1.out.below hb2)
        have A2 := vl (ho2.arg HBY.out)
        have N2 : Vl (a2 = none → c2' = 0) := fun e => by
          rcases ho2 with ⟨h, _⟩ | ⟨g', cap', h, _⟩
          · simp only [Value.slice.injEq] at h
            exact h.2.2
          · simp only [Value.slice.injEq] at h
            rw [h.1] at e
            cases e
        have hs2 : n0 ≤ w2.heap.size := Nat.le_trans HS0.out hb2.size
        obtain ⟨al, hal⟩ : ∃ al, al = AL.length := ⟨_, rfl⟩
        have HALN := vl hal
        rw [← hal] at A2 ⊢
        clear ho2 hb2 H2 c0 c1 c2 c3 c4 hal O1 BR
        by_cases hb15 : (15000 : Int) < (al : Int)
        · go_wp2
          go_ret
          exact ⟨rfl, B2.out⟩
        · have hbl2 : bl ≤ 15000 * i := by
            rw [HBL.out]
            exact rows_len i (fun j hj => by rw [rqR_at (by omega)]; exact (HE.out j hj).2) (by rw [rqR_len]; omega)
          go_wp2_with (at_builtin; refine wpList_uapp _ rfl _ _ rfl n0 _ (rowsL (rqR F len) i) rfl O2.out a2 al c2' AL rfl A2.out N2.out (by rw [← HBL.out]; omega) hs2 ?_)
          intro v3 w3 ho3 hg3
          have B3 : Vl (Below w.heap.size w w3) := u_below_grown B2.out hg3 B2.out.size (fun k hk => by have := (O2.out.base k hk).1; have := EN.out; omega)
          have ER : Vl (rowsL (rqR F len) i ++ AL = rowsL (rqR F len) (i + 1)) := by
            show _ = _
            rw [rows_succ (by rw [rqR_len]; exact k1), rqR_at k1, ← HAL.out]
          rw [ER.out] at ho3
          obtain ⟨a3, c3', rfl, _, _⟩ := ho3.slice
          have O3 := vl ho3
          have HE3 : Vl (∀ j, j < i + 1 → askE (F j).rq = 0 ∧ (askL (F j).rq).length ≤ 15000) := fun j hj => by
            by_cases hji : j < i
            · exact HE.out j hji
            · obtain rfl : j = i := by omega
              exact ⟨HEA.out, by rw [← HAL.out, ← HALN.out]; omega⟩
          clear ho3 hg3
          go_wp2
          exact ⟨⟨i + 1, a3, c3', rfl, by go_num, by omega, by omega, O3, B3, HE3⟩, by simp [intOf]; omega⟩
      · simp only [errW_not he] at H2
        go_wp2_with fail
        refine H2.out.mono ?_
        rintro e w2 ⟨v2, rfl, ho2, hb2⟩
        have B2 := vl (BR.out.trans (hb2.mono BR.out.size))
        clear ho2 hb2 H2 c0 c1 c2 c3 c4
        go_wp2
        go_ret
        exact ⟨rfl, B2.out⟩
    | false =>
      have hij : i = len ∨ i = 10 := by
        rcases HBB.out with ⟨h, _⟩ | ⟨_, h⟩
        · cases h
        · exact h
      have HBY : Vl (Bytes (rowsL (rqR F len) i)) := rows_bytes (fun j hj => bytes_askq (F j) (HRW.out.hel j hj).2.body.bytes) i hi1
      have A1 : Vl (Arg wr ab bl cb (leftL (rqR F len) 0 i)) := by
        have o := O1.out
        rw [HBL.out] at o
        rw [left_zero, HBL.out]
        exact o.arg HBY.out
      have hbl2 : bl ≤ 15000 * i := by
        rw [HBL.out]
        exact rows_len i (fun j hj => by rw [rqR_at (by omega)]; exact (HE.out j hj).2) (by rw [rqR_len]; omega)
      obtain ⟨wB, hwB⟩ : ∃ wB, wB = wr := ⟨_, rfl⟩
      rw [← hwB] at A1 BR ⊢
      clear hwB HBB HBY O1 HBL
      go_wp2
      go_loopw [5, 9] (fun bv jv wr => ∃ (j : Nat) (ad : Option Addr) (ld cd : Nat), bv = .slice ad ld cd ∧ jv = .int .i64 j ∧ j ≤ i ∧ ld ≤ 150000 ∧ Vl (Arg wr ad ld cd (leftL (rqR F len) j i)) ∧ Vl (Below w.heap.size w wr)) (fun _ jv _ => 10 - (intOf jv).toNat)
      case atStart => exact ⟨0, ab, bl, cb, rfl, rfl, by omega, by omega, A1, BR⟩
      case round =>
        obtain ⟨j, ad, ld, cd, rfl, rfl, hj, hld, AJ, BJ⟩ := hrel
        by_cases hji : j < i
        · have e1 : (j : Int) < (len : Int) := by omega
          have e2 : (j : Int) < 10 := by omega
          have hll := AJ.out.len
          have hjl : j < len := by omega
          have LR : Vl (endF askP (leftL (rqR F len) j i) = (0, (F j).rq, ((askL (F j).rq).length : Int))) := by
            have := left_read (R := rqR F len) hji (by rw [rqR_len]; omega) (by rw [rqR_at hjl]; exact (HE.out j hji).1)
            rw [rqR_at hjl] at this
            exact this
          have LD : Vl ((leftL (rqR F len) j i).drop (askL (F j).rq).length = leftL (rqR F len) (j + 1) i) := by
            have := left_drop (R := rqR F len) hji (by rw [rqR_len]; omega)
            rw [rqR_at hjl] at this
            exact this
          have hmore : (leftL (rqR F len) j i).length = (askL (F j).rq).length + (leftL (rqR F len) (j + 1) i).length := by
            rw [left_more hji (by rw [rqR_len]; omega), rqR_at hjl, List.length_append]
          have hal := ask_len (F j).rq
          obtain ⟨N, hN⟩ : ∃ N, N = (askL (F j).rq).length := ⟨_, rfl⟩
          rw [← hN] at LR LD hmore hal
          have hNl : N ≤ ld := by omega
          have H3 := vl (HR.out ad ld cd _ wr (HD.out wr BJ.out) AJ.out (fun e => arg_none AJ.out e) (by unfold ULim; omega))
          rw [LR.out] at H3
          simp only [errW_zero] at H3
          obtain ⟨gd, od, rfl, hrow⟩ : ∃ gd od, ad = some ⟨gd, od, none⟩ ∧ Row wr gd od ld cd (leftL (rqR F len) j i) := by
            rcases AJ.out with ⟨h0, _⟩ | h0
            · omega
            · exact h0
          obtain ⟨o, ho, hA2⟩ := row_part hrow N hNl
          rw [LD.out] at hA2
          have hcd := hrow.hcap
          have A2 := vl hA2
          have h1N : ¬ (N : Int) < 1 := by omega
          have hNc : (N : Int) ≤ (cd : Int) := by omega
          have hNl2 : (N : Int) ≤ (ld : Int) := by omega
          clear hrow hA2 hmore hN hll LR LD
          go_wp2_with fail
          refine H3.out.mono ?_
          rintro e w7 ⟨q7, rfl, hq7, hr7, hb7⟩
          obtain ⟨W7, hW7⟩ : ∃ W7, W7 = w7.alloc (.cells #[.string q7.m, .string q7.p, .string q7.h, .slice q7.fa q7.fn q7.fc, .slice q7.ba q7.bn q7.bc] 34) := ⟨_, rfl⟩
          have hb77 : Below w7.heap.size w7 W7 := by rw [hW7]; exact (Below.refl _ _).alloc (Nat.le_refl _) _
          have s77 : w7.heap.size + 1 ≤ W7.heap.size := by rw [hW7]; simp
          have Z7 : W7.heap[w7.heap.size]? = some (.cells #[.string q7.m, .string q7.p, .string q7.h, .slice q7.fa q7.fn q7.fc, .slice q7.ba q7.bn q7.bc] 34 (0, 0)) := by rw [hW7]; exact heap_alloc_new w7 _
          have hbb : Below wr.heap.size wr W7 := hb7.trans (hb77.mono hb7.size)
          have B7 : Vl (Below w.heap.size w W7) := BJ.out.trans (hbb.mono BJ.out.size)
          have A7 := vl (A2.out.below hbb)
          obtain ⟨nb, hnb⟩ : ∃ nb, nb = w7.heap.size := ⟨_, rfl⟩
          rw [← hnb] at Z7 s77
          have HS : Vl (∀ wx, Below W7.heap.size W7 wx → (((wx.cell? ⟨nb, 0, none⟩ = some (.string q7.m) ∧ wx.cell? ⟨nb, 1, none⟩ = some (.string q7.p)) ∧ (wx.cell? ⟨nb, 2, none⟩ = some (.string q7.h) ∧ wx.cell? ⟨nb, 3, none⟩ = some (.slice q7.fa q7.fn q7.fc) ∧ wx.cell? ⟨nb, 4, none⟩ = some (.slice q7.ba q7.bn q7.bc))) ∧ ((wx.cell? ⟨g, off + j * 5, none⟩ = some (.string (F j).m) ∧ wx.cell? ⟨g, off + j * 5 + 1, none⟩ = some (.string (F j).p)) ∧ (wx.cell? ⟨g, off + j * 5 + 2, none⟩ = some (.string (F j).h) ∧ wx.cell? ⟨g, off + j * 5 + 3, none⟩ = some (.slice (F j).fa (F j).fn (F j).fc) ∧ wx.cell? ⟨g, off + j * 5 + 4, none⟩ = some (.slice (F j).ba (F j).bn (F j).bc))))) := fun wx hb => by
            have hx := (hb.block nb (by omega)).trans Z7
            refine ⟨?_, ((HRW.out.below (B7.out.trans (hb.mono B7.out.size))).hel j hjl).1⟩
            refine ⟨⟨?_, ?_⟩, ?_, ?_, ?_⟩ <;> simp [World.cell?, hx]
          have HLK := vl (sreq_like q7 (F j) W7.drew ((hq7.below hb77).below ((Below.refl _ _).drew)) (((HRW.out.below B7.out).hel j hjl).2.below ((Below.refl _ _).drew)) hr7)
          have HSD : Vl (∀ wx, Below W7.drew.heap.size W7.drew wx → Below W7.heap.size W7 wx) := fun wx hb => (Below.refl _ _).drew.trans hb
          have QD := vl (HS.out W7.drew ((Below.refl _ _).drew))
          obtain ⟨⟨⟨y0, y1⟩, y2, y3, y4⟩, ⟨y5, y6⟩, y7, y8, y9⟩ := HS.out W7 (Below.refl _ _)
          have HW7 := vl hW7
          have HNB := vl hnb
          unfold RqM.val at HLK ⊢
          clear hW7 hnb hb7 hb77 hbb hq7 hr7 H3 Z7 A2
          go_wp2_with fail
          rw [← HW7.out, ← HNB.out]
          go_region_held3 (fun wx => (((wx.cell? ⟨nb, 0, none⟩ = some (.string q7.m) ∧ wx.cell? ⟨nb, 1, none⟩ = some (.string q7.p)) ∧ (wx.cell? ⟨nb, 2, none⟩ = some (.string q7.h) ∧ wx.cell? ⟨nb, 3, none⟩ = some (.slice q7.fa q7.fn q7.fc) ∧ wx.cell? ⟨nb, 4, none⟩ = some (.slice q7.ba q7.bn q7.bc))) ∧ ((wx.cell? ⟨g, off + j * 5, none⟩ = some (.string (F j).m) ∧ wx.cell? ⟨g, off + j * 5 + 1, none⟩ = some (.string (F j).p)) ∧ (wx.cell? ⟨g, off + j * 5 + 2, none⟩ = some (.string (F j).h) ∧ wx.cell? ⟨g, off + j * 5 + 3, none⟩ = some (.slice (F j).fa (F j).fn (F j).fc) ∧ wx.cell? ⟨g, off + j * 5 + 4, none⟩ = some (.slice (F j).ba (F j).bn (F j).bc)))))
            (first | (with_reducible exact QD.out) | (with_reducible exact HS.out w8 (HSD.out w8 hb8)))
            ((go_at_call 23; refine HLK.out.mono ?_; rintro e w8 ⟨rfl, hb8⟩))
          have B8 : Vl (Below w.heap.size w w8) := B7.out.trans ((HSD.out w8 hb8).mono B7.out.size)
          have A8 := vl (A7.out.below (HSD.out w8 hb8))
          clear hb8 HLK HSD HS QD y0 y1 y2 y3 y4 y5 y6 y7 y8 y9 B7 A7
          go_wp2
          exact ⟨⟨j + 1, some ⟨gd, o, none⟩, ld - N, cd - N, by simp, by go_num, by omega, by omega, A8, B8⟩, by simp [intOf]; omega⟩
        · obtain rfl : j = i := by omega
          have hld0 : ld = 0 := by
            have := AJ.out.len
            rw [left_end] at this
            exact this.symm
          subst hld0
          by_cases e1 : (j : Int) < (len : Int)
          · have e2 : ¬ (j : Int) < 10 := by omega
            go_wp2
            go_ret
            exact ⟨by simp, BJ.out⟩
          · go_wp2
            go_ret
            exact ⟨by simp, BJ.out⟩
/-- No request at all. -/
theorem nrow_none (D : NLd) (hA : NAskSaid D) (a : Option Addr) (cap : Nat) (w : World) (hd : D.P w) :
    Calls Tryd.prog 7 #[.slice a 0 cap] w fun e w' => e = .returned (.bool true) ∧ Below w.heap.size w w' := by
  have H0 := vl (hA q00 w hd (q00_in w))
  rw [q00_e] at H0
  unfold RqM.val q00 at H0
  simp only [errW_zero] at H0
  clear hA hd
  go_enter Tryd.func7, Tryd.ntmps7
  go_wp2_with fail
  refine H0.out.mono ?_
  rintro e w1 ⟨v1, rfl, ho1, hb1⟩
  have cv := ho1.text
  change _ = Result.ok (Value.string (strOfNums (askOut q00.rq))) w1 at cv
  rw [q00_l] at cv
  have B1 := vl hb1
  clear H0 ho1 hb1
  go_wp2
  go_loop [5, 6] (fun b i => b = .slice none 0 0 ∧ i = .int .i64 0) (fun _ _ => 0)
  case atStart => exact ⟨rfl, rfl⟩
  case round =>
    obtain ⟨rfl, rfl⟩ := hrel
    go_wp2
    go_loop [5, 9] (fun b i => b = .slice none 0 0 ∧ i = .int .i64 0) (fun _ _ => 0)
    case atStart => exact ⟨rfl, rfl⟩
    case round =>
      obtain ⟨rfl, rfl⟩ := hrel
      go_wp2
      go_ret
      exact ⟨by simp, B1.out⟩
theorem nrow_ok (D : NLd) (hA : NAskSaid D) (hR : NReadAskSaid D) (a : Option Addr) (len cap : Nat) (F : Nat → RqM) (w : World) (h : RqArg w a len cap F) (hd : D.P w) :
    Calls Tryd.prog 7 #[.slice a len cap] w fun e w' => e = .returned (.bool true) ∧ Below w.heap.size w w' := by
  rcases h with rfl | ⟨g, off, rfl, hr⟩
  · exact nrow_none D hA a cap w hd
  · rcases Nat.eq_zero_or_pos len with rfl | h0
    · exact nrow_none D hA _ cap w hd
    · exact nrow_row D hA hR g off len cap F w hr h0 hd
end Go.Proofs.YtgjolljhjagngafDoor
