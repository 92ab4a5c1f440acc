/-
  WHERETO: the document's Route and Routes. No claim by itself.
-/
import Derived.Test.YtmjdfbbhlbecdaaDoorWh3
import Derived.Deep.DeepCutAuto
namespace Go.Proofs.YtmjdfbbhlbecdaaDoor
open Go Go.RowKit
set_option maxRecDepth 100000
theorem same_beq (a b x y : ByteArray) (c z : ByteArray) : sameR (rtO (a, b, c)) (rtO (x, y, z)) = ((x.toList == a.toList) && (y.toList == b.toList)) := by rw [un_beq, un_beq]; rfl
theorem take_any {L : List Rt} {p : Rt → Bool} {k : Nat} (hk : k ≤ L.length) : (L.take k).any p = false ↔ ∀ t, t < k → p (L.getD t rt0) = false := by
  rw [List.any_eq_false]
  constructor
  · intro h t ht
    have hm : L.getD t rt0 ∈ L.take k := by
      rw [List.getD, List.getElem?_eq_getElem (by omega)]
      exact List.mem_take_iff_getElem.2 ⟨t, by omega, rfl⟩
    simpa using h _ hm
  · intro h x hx
    obtain ⟨t, ht, rfl⟩ := List.mem_take_iff_getElem.1 hx
    have := h t (by omega)
    rw [List.getD, List.getElem?_eq_getElem (by omega)] at this
    simpa using this
set_option maxHeartbeats 4000000 in
theorem rroute_row (g off len cap i : Nat) (L : List Rb) (w : World) (hr : RtRow w g off len cap L) (hs : SzL L) (hi : i < len) :
    Calls Tryd.prog 18 #[.slice (some ⟨g, off, none⟩) len cap, .int .i64 (i : Int)] w fun e w' => e = .returned (.int .i64 (oneE ((rtsOf L).take i) ((rtsOf L).getD i rt0))) ∧ Below w.heap.size w w' := by
  have HR := vl hr
  have hcap := hr.hcap
  have hmax := hr.hmax
  unfold maxLen at hmax
  have HL := vl hr.hlen
  have hi' : (i : Int) < (len : Int) := by omega
  have hi0 : (0 : Int) ≤ (i : Int) := by omega
  have c0 := hr.h0 i hi
  have c1 := hr.h1 i hi
  have c2 := hr.h2 i hi
  have hsz := hs i
  have HAT := vl (rts_at L i)
  obtain ⟨f, hf⟩ : ∃ f, L.getD i rbn = f := ⟨_, rfl⟩
  rw [hf] at HAT hsz c0 c1 c2
  obtain ⟨x, y, z⟩ := f
  obtain ⟨s1, s2, s3⟩ := hsz
  obtain ⟨W1, hW1⟩ : ∃ W1, W1 = w.alloc (.cells #[.string x, .string y, .string z] 33) := ⟨_, rfl⟩
  have HB1 : Vl (Below w.heap.size w W1) := by rw [hW1]; exact (Below.refl _ w).alloc (Nat.le_refl _) _
  have HBX : Vl (RtBox W1 w.heap.size (x, y, z)) := by rw [hW1]; exact rtbox_new w x y z _
  obtain ⟨d0, d1, d2⟩ := HBX.out
  have H1 := vl (rword_any x W1 s1)
  have H2 := vl (rword_any y W1 s2)
  have H3 := vl (rtoken_any z W1 s3)
  have HOK : Vl (rtOk (rtO (x, y, z)) = (((x.toList == []) || (wordL (unums x) && !(x.toList == [42]))) && (wordL (unums y) && decide ((unums y).headD 0 = 47)) && tokL (unums z))) := by
    show _ = _
    have e : (unums x).isEmpty = (x.toList == []) := by
      rw [un_beqlit, Bool.eq_iff_iff]
      simp
    rw [← e, un_beqlit]
    rfl
  have HWY : Vl (wordL (unums y) = true → 0 < y.size) := fun h => by
    rcases Nat.eq_zero_or_pos y.size with e | e
    · rw [unums_nil.2 e] at h; cases h
    · exact e
  have HHD : Vl (0 < y.size → (unums y).headD 0 = (unums y).getD 0 0) := fun h => head_at (fun e => by have := unums_nil.1 e; omega)
  have HIX := vl (unums_at y 0)
  have HE : Vl (oneE ((rtsOf L).take i) ((rtsOf L).getD i rt0) = if rtOk (rtO (x, y, z)) = true then (if ((rtsOf L).take i).any (sameR (rtO (x, y, z))) = true then 7 else 0) else 2) := by
    show _ = _
    rw [HAT.out]
    rfl
  obtain ⟨E, hE⟩ : ∃ E, oneE ((rtsOf L).take i) ((rtsOf L).getD i rt0) = E := ⟨_, rfl⟩
  rw [hE]
  rw [hE] at HE
  clear hE
  clear hr hs hf
  generalize wordL (unums x) = a at *
  generalize wordL (unums y) = b at *
  generalize tokL (unums z) = c at *
  go_enter Tryd.func18, Tryd.ntmps18
  go_wp2_with fail
  rw [← hW1]
  clear hW1
  refine H1.out.mono ?_
  rintro e w' ⟨rfl, rfl⟩
  go_wp2_with fail
  refine H2.out.mono ?_
  rintro e w' ⟨rfl, rfl⟩
  go_wp2_with fail
  refine H3.out.mono ?_
  rintro e w' ⟨rfl, rfl⟩
  go_upto_region 5 with fail
  go_cut [48] (fun r wz => r = .bool (!rtOk (rtO (x, y, z))) ∧ wz = W1)
  case first =>
    as_aux_lemma =>
      clear HE c0 c1 c2
      cases b with
      | false =>
        by_cases qx : x.toList = []
        · have q' : (x.toList == []) = true := by simpa using qx
          have q2 : (x.toList != []) = false := by simpa using qx
          go_wp2_with fail
          go_meet
          exact ⟨by rw [HOK.out, q']; cases c <;> cases a <;> simp, rfl⟩
        · have q' : (x.toList == []) = false := by simpa using qx
          have q2 : (x.toList != []) = true := by simpa using qx
          cases a with
          | false =>
            go_wp2_with fail
            go_meet
            exact ⟨by rw [HOK.out, q']; cases c <;> simp, rfl⟩
          | true =>
            obtain ⟨st, hst⟩ : ∃ st, (x.toList == [42]) = st := ⟨_, rfl⟩
            cases st with
            | true =>
              go_wp2_with fail
              go_meet
              exact ⟨by rw [HOK.out, q', hst]; cases c <;> simp, rfl⟩
            | false =>
              go_wp2_with fail
              go_meet
              exact ⟨by rw [HOK.out, q', hst]; cases c <;> simp, rfl⟩
      | true =>
        have hy0 := HWY.out rfl
        have hy0' : (0 : Int) < (y.size : Int) := by omega
        have hix := HIX.out hy0
        have hhd := HHD.out hy0
        obtain ⟨d, hd⟩ : ∃ d, (unums y).getD 0 0 = d := ⟨_, rfl⟩
        rw [hd] at hix hhd
        rw [hhd] at HOK
        clear hd hhd HIX HHD HWY
        by_cases qx : x.toList = []
        · have q' : (x.toList == []) = true := by simpa using qx
          have q2 : (x.toList != []) = false := by simpa using qx
          by_cases q47 : d = 47
          · subst q47
            go_wp2_with fail
            go_meet
            exact ⟨by rw [HOK.out, q']; cases c <;> cases a <;> simp, rfl⟩
          · have q47' : (d != 47) = true := by simpa using q47
            go_wp2_with fail
            go_meet
            exact ⟨by rw [HOK.out, q', decide_eq_false q47]; cases c <;> cases a <;> simp, rfl⟩
        · have q' : (x.toList == []) = false := by simpa using qx
          have q2 : (x.toList != []) = true := by simpa using qx
          cases a with
          | false =>
            go_wp2_with fail
            go_meet
            exact ⟨by rw [HOK.out, q']; cases c <;> simp, rfl⟩
          | true =>
            obtain ⟨st, hst⟩ : ∃ st, (x.toList == [42]) = st := ⟨_, rfl⟩
            cases st with
            | true =>
              go_wp2_with fail
              go_meet
              exact ⟨by rw [HOK.out, q', hst]; cases c <;> simp, rfl⟩
            | false =>
              by_cases q47 : d = 47
              · subst q47
                go_wp2_with fail
                go_meet
                exact ⟨by rw [HOK.out, q', hst]; cases c <;> simp, rfl⟩
              · have q47' : (d != 47) = true := by simpa using q47
                go_wp2_with fail
                go_meet
                exact ⟨by rw [HOK.out, q', hst, decide_eq_false q47]; cases c <;> simp, rfl⟩
  case rest =>
    obtain ⟨rfl, hwc⟩ := hcut
    have hwc2 := hwc.symm
    subst hwc2
    clear HOK HWY HHD HIX H1 H2 H3
    obtain ⟨ok, hok⟩ : ∃ ok, rtOk (rtO (x, y, z)) = ok := ⟨_, rfl⟩
    rw [hok] at HE ⊢
    clear hok
    cases ok with
    | false =>
      have HE2 : Vl (E = 2) := HE.out
      go_wp2_with fail
      go_ret
      exact ⟨by rw [HE2.out]; rfl, HB1.out⟩
    | true =>
      have HE2 : Vl (E = if ((rtsOf L).take i).any (sameR (rtO (x, y, z))) = true then 7 else 0) := HE.out
      clear HE c0 c1 c2
      have HRW := vl (HR.out.below HB1.out)
      go_wp2_with fail
      go_loopw [9] (fun k wr => ∃ t : Nat, k = .int .i64 t ∧ t ≤ i ∧ Vl (∀ j, j < t → sameR (rtO (x, y, z)) ((rtsOf L).getD j rt0) = false) ∧ Vl (Below W1.heap.size W1 wr)) (fun k _ => i - (intOf k).toNat)
      case atStart => exact ⟨0, rfl, by omega, fun j hj => by omega, Below.refl _ _⟩
      case round =>
        obtain ⟨t, rfl, ht, HT, HB⟩ := hrel
        obtain ⟨d0, d1, d2⟩ := HBX.out.below HB.out (blk_of_cell d0)
        by_cases hlt : t < i
        · have hlt' : (t : Int) < (i : Int) := by omega
          have hr2 := HRW.out.below HB.out
          have c0 := hr2.h0 t (by omega)
          have c1 := hr2.h1 t (by omega)
          have HAJ := vl (rts_at L t)
          have htl : (t : Int) < (len : Int) := by omega
          have ht0 : (0 : Int) ≤ (t : Int) := by omega
          generalize L.getD t rbn = f at *
          obtain ⟨p, q, r⟩ := f
          have HSB := vl (same_beq x y p q z r)
          have HD : Vl (∀ n, Below W1.heap.size W1 (wr.drewN n)) := fun n => drewN_below HB.out n
          have HGO : Vl (((p.toList == x.toList) && (q.toList == y.toList)) = false → ∀ j, j < t + 1 → sameR (rtO (x, y, z)) ((rtsOf L).getD j rt0) = false) := fun h j hj => by
            by_cases e : j = t
            · rw [e, HAJ.out, HSB.out]; exact h
            · exact HT.out j (by omega)
          have HST : Vl (((p.toList == x.toList) && (q.toList == y.toList)) = true → E = 7) := fun h => by
            rw [HE2.out, if_pos]
            rw [List.any_eq_true]
            refine ⟨(rtsOf L).getD t rt0, ?_, by rw [HAJ.out, HSB.out]; exact h⟩
            have hl2 : (rtsOf L).length = len := by rw [rts_len, HL.out]
            rw [List.getD, List.getElem?_eq_getElem (by omega)]
            exact List.mem_take_iff_getElem.2 ⟨t, by omega, rfl⟩
          obtain ⟨u, hu⟩ : ∃ u, (p.toList == x.toList) = u := ⟨_, rfl⟩
          obtain ⟨v, hv⟩ : ∃ v, (q.toList == y.toList) = v := ⟨_, rfl⟩
          rw [hu, hv] at HGO HST
          clear hr2 HAJ HSB
          cases u with
          | false =>
            have GO := vl (HGO.out rfl)
            go_wp2_with fail
            go_quiet (fail)
            go_wp2_with fail
            go_roundw
            case rel => exact ⟨t + 1, by go_num, by omega, GO, HD.out _⟩
            case measure => simp [intOf]; omega
          | true =>
            cases v with
            | false =>
              have GO := vl (HGO.out rfl)
              go_wp2_with fail
              go_quiet (fail)
              go_wp2_with fail
              go_roundw
              case rel => exact ⟨t + 1, by go_num, by omega, GO, HD.out _⟩
              case measure => simp [intOf]; omega
            | true =>
              have ST := vl (HST.out rfl)
              go_wp2_with fail
              go_quiet (fail)
              go_wp2_with fail
              go_ret
              exact ⟨by rw [ST.out]; rfl, HB1.out.trans ((HD.out _).mono HB1.out.size)⟩
        · have hlt' : ¬ (t : Int) < (i : Int) := by omega
          have hti : t = i := by omega
          have HZ : Vl (E = 0) := by
            show _ = _
            rw [HE2.out, (take_any (by rw [rts_len, HL.out]; omega)).2 (by rw [← hti]; exact HT.out)]
            rfl
          go_wp2_with fail
          go_ret
          exact ⟨by rw [HZ.out]; rfl, HB1.out.trans (HB.out.mono HB1.out.size)⟩
theorem rroute_any (a : Option Addr) (len cap i : Nat) (L : List Rb) (w : World) (hA : RtArg w a len cap L) (hs : SzL L) (hi : i < len) :
    Calls Tryd.prog 18 #[.slice a len cap, .int .i64 (i : Int)] w fun e w' => e = .returned (.int .i64 (oneE ((rtsOf L).take i) ((rtsOf L).getD i rt0))) ∧ Below w.heap.size w w' := by
  rcases hA with ⟨rfl, rfl⟩ | ⟨g, off, rfl, hr⟩
  · omega
  · exact rroute_row g off len cap i L w hr hs hi
set_option maxHeartbeats 2000000 in
theorem rroutes_any (a : Option Addr) (len cap : Nat) (L : List Rb) (w : World) (hA : RtArg w a len cap L) (hs : SzL L) :
    Calls Tryd.prog 6 #[.slice a len cap] w fun e w' => e = .returned (.int .i64 (chkR (rtsOf L))) ∧ Below w.heap.size w w' := by
  have HL := vl hA.len
  have HRT := vl (fun W (hb : Below w.heap.size w W) i hi => rroute_any a len cap i L W (hA.below hb) hs hi)
  clear hA hs
  by_cases h20 : 20 < len
  · have h20' : (20 : Int) < (len : Int) := by omega
    have e : chkR (rtsOf L) = 4 := by unfold chkR; rw [rts_len, HL.out, if_pos h20]
    rw [e]
    go_enter Tryd.func6, Tryd.ntmps6
    go_wp2_with fail
    go_ret
    exact ⟨rfl, Below.refl _ _⟩
  · have h20' : ¬ (20 : Int) < (len : Int) := by omega
    have e : chkR (rtsOf L) = chkGo [] (rtsOf L) := by unfold chkR; rw [rts_len, HL.out, if_neg h20]
    rw [e]
    clear e
    obtain ⟨E, hE⟩ : ∃ E, chkGo [] (rtsOf L) = E := ⟨_, rfl⟩
    rw [hE]
    have HE := vl hE
    clear hE
    go_enter Tryd.func6, Tryd.ntmps6
    go_wp2_with fail
    go_loopw [3, 4] (fun i _ wr => ∃ k : Nat, i = .int .i64 k ∧ k ≤ len ∧ Vl (chkGo ((rtsOf L).take k) ((rtsOf L).drop k) = E) ∧ Vl (Below w.heap.size w wr)) (fun i _ _ => len - (intOf i).toNat)
    case atStart => exact ⟨0, rfl, by omega, HE.out, Below.refl _ _⟩
    case round =>
      obtain ⟨k, rfl, hk, HK, HB⟩ := hrel
      by_cases hlt : k < len
      · have hlt' : (k : Int) < (len : Int) := by omega
        have HST := vl (HK.out.symm.trans (chkGo_at (rtsOf L) k (by rw [rts_len, HL.out]; exact hlt)))
        have H := vl (HRT.out wr HB.out k hlt)
        obtain ⟨F, hF⟩ : ∃ F, oneE ((rtsOf L).take k) ((rtsOf L).getD k rt0) = F := ⟨_, rfl⟩
        rw [hF] at HST H
        clear hF
        go_wp2_with fail
        refine H.out.mono ?_
        rintro e w1 ⟨rfl, hb1⟩
        have HB1 := vl (HB.out.trans (hb1.mono HB.out.size))
        clear hb1 H
        by_cases e0 : F = 0
        · subst e0
          rw [if_pos rfl] at HST
          go_wp2_with fail
          go_roundw
          case rel => exact ⟨k + 1, by go_num, by omega, HST.out.symm, HB1⟩
          case measure => simp [intOf]; omega
        · rw [if_neg e0] at HST
          have e0' : (F != 0) = true := by simpa using e0
          have hFE := HST.out
          subst hFE
          go_wp2_with fail
          go_ret
          exact ⟨rfl, HB1.out⟩
      · have hke : k = len := by omega
        subst hke
        have hE0 : E = 0 := by
          have h := HK.out
          rw [show k = (rtsOf L).length from by rw [rts_len, HL.out], chkGo_end] at h
          exact h.symm
        have hlt' : ¬ (k : Int) < (k : Int) := by omega
        subst hE0
        go_wp2_with fail
        go_ret
        exact ⟨rfl, HB.out⟩
end Go.Proofs.YtmjdfbbhlbecdaaDoor
