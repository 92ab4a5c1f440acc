/-
  WHERETO: RouteBack, over what the developers' Print, Parse and Find do. No claim by itself.
-/
import Derived.Test.YtmjdfbbhlbecdaaDoorWh7
import Derived.Test.YtmjdfbbhlbecdaaDoorWh9
import Derived.Test.YtmjdfbbhlbecdaaDoorWh13
import Derived.Test.YtmjdfbbhlbecdaaDoorWsame
import Derived.Deep.DeepCutAuto
namespace Go.Proofs.YtmjdfbbhlbecdaaDoor
open Go Go.RowKit
set_option maxRecDepth 100000
attribute [local go_sem] run_store_func run_store_nilFunc
def factT : ByteArray := ⟨#[42, 32, 47, 97, 32, 111, 110, 101, 10, 104, 32, 47, 32, 116, 119, 111, 10]⟩
def factL : List Rb := [(⟨#[]⟩, ⟨#[47, 97]⟩, ⟨#[111, 110, 101]⟩), (⟨#[104]⟩, ⟨#[47]⟩, ⟨#[116, 119, 111]⟩)]
theorem fact_parse : parseR (unums factT) = (0, rtsOf factL, 0) := by decide +kernel
theorem fact_of {L : List Rb} {er : Int} {k : Nat} (h : parseR (unums factT) = (er, rtsOf L, k)) : er = 0 ∧ k = 0 ∧ L = factL := by
  rw [fact_parse] at h
  have h1 := (Prod.mk.inj h).1
  have h2 := (Prod.mk.inj (Prod.mk.inj h).2)
  exact ⟨h1.symm, h2.2.symm, (rts_inj h2.1).symm⟩
theorem find_own {L : List Rb} (hc : chkR (rtsOf L) = 0) {i : Nat} (hi : i < L.length) {n er : Int} (h : FindR (rtsOf L) (unums (L.getD i rbn).1) (unums (L.getD i rbn).2.1) n er) : er = 0 ∧ ∃ k : Nat, n = k ∧ k < L.length ∧ (L.getD k rbn).2.1.size = (L.getD i rbn).2.1.size := by
  have e := rts_at L i
  have e1 : unums (L.getD i rbn).1 = ((rtsOf L).getD i rt0).1 := by rw [e]; rfl
  have e2 : unums (L.getD i rbn).2.1 = ((rtsOf L).getD i rt0).2.1 := by rw [e]; rfl
  rw [e1, e2] at h
  have hi' : i < (rtsOf L).length := by rw [rts_len]; exact hi
  rcases h with ⟨h1, _⟩ | ⟨_, h2, _⟩ | ⟨_, h2, k, h3, h4⟩
  · exact absurd hc h1
  · obtain ⟨k, hk, _⟩ := best_own hi' h2; cases hk
  · obtain ⟨k2, hk, hk2, hl⟩ := best_own hi' h3
    cases hk
    refine ⟨h2, k, h4, by rwa [rts_len] at hk2, ?_⟩
    rw [rts_at, rts_at] at hl
    have : (unums (L.getD k rbn).2.1).length = (unums (L.getD i rbn).2.1).length := hl
    rwa [unums_len, unums_len] at this
set_option maxHeartbeats 8000000 in
theorem rback_ok (a : Option Addr) (len cap : Nat) (L : List Rb) (text : ByteArray) (w : World) (hA : RtArg w a len cap L) (hs : SzL L) (ht : text.size ≤ 140737488351232) :
    Calls Tryd.prog 5 #[.slice a len cap, .string text] w fun e w' => e = .returned (.bool true) ∧ Below w.heap.size w w' := by
  have HP1 := vl (wparse_any factT w (by decide))
  have HP2 := vl (fun W (_ : Below w.heap.size w W) => wparse_any text W ht)
  have HPR0 := vl (fun W (hb : Below w.heap.size w W) => wprint_any a len cap L W (hA.below hb) hs)
  have HFD := vl (fun W (hb : Below w.heap.size w W) host path => wfind_any a len cap L host path W (hA.below hb) hs)
  have HA := vl hA
  have HLN := vl hA.len
  clear hA hs
  unfold factT at HP1
  go_enter Tryd.func5, Tryd.ntmps5
  go_wp2_with fail
  refine HP1.out.mono ?_
  rintro e w1 ⟨⟨L1, sa1, sc1, k1, er1, rfl, hA1, _, hp1⟩, hb1⟩
  obtain ⟨rfl, rfl, rfl⟩ := fact_of hp1
  have HB1 := vl hb1
  clear hp1 hb1 HP1
  rcases hA1 with ⟨h0, _⟩ | ⟨g1, off1, rfl, hr1⟩
  · cases h0
  have c0 : w1.cell? ⟨g1, off1, none⟩ = some (.string ⟨#[]⟩) := by have := hr1.h0 0 (by decide); rw [show off1 + 0 * 3 = off1 by omega] at this; exact this
  have c1 : w1.cell? ⟨g1, off1 + 5, none⟩ = some (.string ⟨#[116, 119, 111]⟩) := hr1.h2 1 (by decide)
  have hcap1 : 2 ≤ sc1 := hr1.hcap
  have hmax1 := hr1.hmax
  unfold maxLen at hmax1
  clear hr1
  rw [show factL.length = 2 from rfl, errW_zero]
  have HPR1 := vl (HPR0.out w1 HB1.out)
  go_wp2_with fail
  refine HPR1.out.mono ?_
  rintro e w2 ⟨⟨s2, rfl, hs2⟩, hb2⟩
  have HB2 := vl (HB1.out.trans (hb2.mono HB1.out.size))
  clear hb2 HPR1 HPR0 c0 c1
  by_cases hc : chkR (rtsOf L) = 0
  · rw [if_pos hc] at hs2
    have HCK := vl hc
    have hz2 : s2.size ≤ 140737488351232 := by
      have h1 := printL_len hc (rtsOf L).length (Nat.le_refl _)
      have h2 := (chkR_le hc).1
      rw [List.take_length, ← hs2, unums_len] at h1
      omega
    have HPS := vl (wparse_any s2 w2 hz2)
    have HPB : Vl (parseR (unums s2) = (0, rtsOf L, 0)) := by show _ = _; rw [hs2]; exact parseR_print hc
    rw [hc, errW_zero]
    clear hc hs2 hz2
    go_wp2_with fail
    refine HPS.out.mono ?_
    rintro e w3 ⟨⟨L3, sa3, sc3, k3, er3, rfl, hA3, _, hp3⟩, hb3⟩
    obtain ⟨rfl, rfl⟩ : er3 = 0 ∧ L3 = L := by
      rw [HPB.out] at hp3
      have h1 := (Prod.mk.inj hp3).1
      have h2 := (Prod.mk.inj (Prod.mk.inj hp3).2).1
      exact ⟨h1.symm, (rts_inj h2).symm⟩
    have HB3 := vl (HB2.out.trans (hb3.mono HB2.out.size))
    have hlen := HLN.out
    have HSM := vl (ssame_any sa3 a L3.length sc3 cap L3 w3 hA3 (by rw [hlen]; exact HA.out.below HB3.out))
    rw [errW_zero]
    rw [hlen] at HSM ⊢
    clear hp3 hb3 hA3 HPS HPB hlen
    go_wp2_with fail
    refine HSM.out.mono ?_
    rintro e w4 ⟨rfl, hb4⟩
    have HB4 := vl (HB3.out.trans (hb4.mono HB3.out.size))
    clear hb4 HSM
    go_wp2_with fail
    go_loopw [14, 15, 16] (fun i _ _ wr => ∃ k : Nat, i = .int .i64 k ∧ k ≤ len ∧ Vl (Below w.heap.size w wr)) (fun i _ _ _ => len - (intOf i).toNat)
    case atStart => exact ⟨0, rfl, by omega, HB4.out⟩
    case round =>
      obtain ⟨k, rfl, hk, HB⟩ := hrel
      by_cases hlt : k < len
      · have hlt' : (k : Int) < (len : Int) := by omega
        have hlen := HLN.out
        rcases HA.out.below HB.out with ⟨h0, _⟩ | ⟨g, off, rfl, hr⟩
        · omega
        have hcap := hr.hcap
        have hmax := hr.hmax
        unfold maxLen at hmax
        have c0 := hr.h0 k hlt
        have c1 := hr.h1 k hlt
        have hgl := blk_of_cell c0
        have hk0 : (0 : Int) ≤ (k : Int) := by omega
        obtain ⟨x, hx⟩ : ∃ x, (L3.getD k rbn).1 = x := ⟨_, rfl⟩
        obtain ⟨y, hy⟩ : ∃ y, (L3.getD k rbn).2.1 = y := ⟨_, rfl⟩
        rw [hx] at c0
        rw [hy] at c1
        have HRW := vl hr
        have HBD : Vl (Below w.heap.size w wr.drew) := HB.out.trans ((Below.refl _ wr).drew.mono HB.out.size)
        have HF1 := vl (HFD.out wr.drew HBD.out x y)
        have HOWN : Vl (∀ n er, FindR (rtsOf L3) (unums x) (unums y) n er → er = 0 ∧ ∃ j : Nat, n = j ∧ j < len ∧ (L3.getD j rbn).2.1.size = y.size) := fun n er h => by
          rw [← hx, ← hy] at h
          obtain ⟨h1, j, h2, h3, h4⟩ := find_own HCK.out (by omega) h
          exact ⟨h1, j, h2, by omega, by rw [← hy]; exact h4⟩
        have HZ : Vl (∀ w1, Below wr.drew.heap.size wr.drew w1 → w1.cell? ⟨g, off + k * 3, none⟩ = some (.string x) ∧ w1.cell? ⟨g, off + k * 3 + 1, none⟩ = some (.string y)) := fun w1 hb => ⟨(hb.cell (p := ⟨g, off + k * 3, none⟩) hgl).trans c0, (hb.cell (p := ⟨g, off + k * 3 + 1, none⟩) hgl).trans c1⟩
        clear hx hy hr hlen
        go_wp2_with fail
        go_region_held3 (fun w' => w'.cell? ⟨g, off + k * 3, none⟩ = some (.string x) ∧ w'.cell? ⟨g, off + k * 3 + 1, none⟩ = some (.string y))
          (first | go_keep | (exact HZ.out _ hb5))
          ((go_at_call 13; refine HF1.out.mono ?_; rintro e w5 ⟨⟨n5, er5, rfl, hf5⟩, hb5⟩))
        obtain ⟨rfl, j, rfl, hj, hsz⟩ := HOWN.out _ _ hf5
        have HB5 : Vl (Below w.heap.size w w5) := HBD.out.trans (hb5.mono HBD.out.size)
        have d1 := (HZ.out _ hb5).2
        have hr5 := HRW.out.below ((Below.refl _ wr).drew.trans hb5)
        have e1 := hr5.h1 j hj
        obtain ⟨v, hv⟩ : ∃ v, (L3.getD j rbn).2.1 = v := ⟨_, rfl⟩
        rw [hv] at e1 hsz
        have hj' : (j : Int) < (len : Int) := by omega
        have hj0 : (0 : Int) ≤ (j : Int) := by omega
        have hszI : (v.size : Int) = (y.size : Int) := by omega
        have hszn : ((v.size : Int) != (y.size : Int)) = false := by simpa using hszI
        have HD : Vl (∀ n, Below w.heap.size w (w5.drewN n)) := fun n => drewN_below HB5.out n
        rw [errW_zero]
        clear hf5 hb5 HZ HF1 c0 c1 hr5 hv HOWN HBD HRW hgl hsz hszI
        go_wp2_with fail
        go_quiet (fail)
        go_wp2_with fail
        go_roundw
        case rel => exact ⟨k + 1, by go_num, by omega, HD.out _⟩
        case measure => simp [intOf]; omega
      · have hlt' : ¬ (k : Int) < (len : Int) := by omega
        have HPT := vl (HP2.out _ HB.out)
        go_wp2_with fail
        refine HPT.out.mono ?_
        rintro e w7 ⟨⟨L7, sa7, sc7, k7, er7, rfl, hA7, hs7, hp7⟩, hb7⟩
        have HB7 := vl (HB.out.trans (hb7.mono HB.out.size))
        clear hb7 HPT
        by_cases he7 : er7 = 0
        · subst he7
          obtain ⟨hc7, hpr7, _⟩ := parseR_ok hp7
          have HPR := vl (wprint_any sa7 L7.length sc7 L7 w7 hA7 hs7)
          have HC7 := vl hc7
          have HT7 := vl hpr7
          clear hc7 hpr7 hp7 hA7 hs7
          rw [errW_zero]
          go_wp2_with fail
          refine HPR.out.mono ?_
          rintro e w8 ⟨⟨s8, rfl, hs8⟩, hb8⟩
          have hst : s8 = text := by
            rw [if_pos HC7.out, HT7.out] at hs8
            exact unums_inj hs8
          subst hst
          rw [HC7.out, errW_zero]
          have HB8 := vl (HB7.out.trans (hb8.mono HB7.out.size))
          clear hb8 hs8 HPR
          go_wp2_with fail
          go_ret
          exact ⟨by first | rfl | simp, HB8.out⟩
        · rw [errW_pos he7]
          clear hp7 hA7 hs7
          go_wp2_with fail
          go_ret
          exact ⟨rfl, HB7.out⟩
  · rw [errW_pos hc]
    clear hs2
    have HPT := vl (HP2.out _ HB2.out)
    go_wp2_with fail
    refine HPT.out.mono ?_
    rintro e w7 ⟨⟨L7, sa7, sc7, k7, er7, rfl, hA7, hs7, hp7⟩, hb7⟩
    have HB7 := vl (HB2.out.trans (hb7.mono HB2.out.size))
    clear hb7 HPT
    by_cases he7 : er7 = 0
    · subst he7
      obtain ⟨hc7, hpr7, _⟩ := parseR_ok hp7
      have HPR := vl (wprint_any sa7 L7.length sc7 L7 w7 hA7 hs7)
      have HC7 := vl hc7
      have HT7 := vl hpr7
      clear hc7 hpr7 hp7 hA7 hs7
      rw [errW_zero]
      go_wp2_with fail
      refine HPR.out.mono ?_
      rintro e w8 ⟨⟨s8, rfl, hs8⟩, hb8⟩
      have hst : s8 = text := by
        rw [if_pos HC7.out, HT7.out] at hs8
        exact unums_inj hs8
      subst hst
      rw [HC7.out, errW_zero]
      have HB8 := vl (HB7.out.trans (hb8.mono HB7.out.size))
      clear hb8 hs8 HPR
      go_wp2_with fail
      go_ret
      exact ⟨by first | rfl | simp, HB8.out⟩
    · rw [errW_pos he7]
      clear hp7 hA7 hs7
      go_wp2_with fail
      go_ret
      exact ⟨rfl, HB7.out⟩
end Go.Proofs.YtmjdfbbhlbecdaaDoor
