/-
  WHERETO: RouteFinds, over what the document's and the developers' functions do. No claim by itself.
-/
import Derived.Test.YtmjdfbbhlbecdaaDoorWh7
import Derived.Test.YtmjdfbbhlbecdaaDoorWh9
import Derived.Test.YtmjdfbbhlbecdaaDoorWr1
import Derived.Test.YtmjdfbbhlbecdaaDoorWr2
import Derived.Test.YtmjdfbbhlbecdaaDoorWr3
import Derived.Test.YtmjdfbbhlbecdaaDoorTold
namespace Go.Proofs.YtmjdfbbhlbecdaaDoor
open Go Go.RowKit
set_option maxRecDepth 100000
attribute [local go_sem] run_store_func run_store_nilFunc
theorem werr_any (er : Int) (w : World) (hg : Laid w) : Calls Tryd.prog 7 #[errW er, .int .i64 er] w fun e w' => e = .returned (.bool true) ∧ Below w.heap.size w w' := by
  by_cases h : er = 0
  · subst h
    rw [errW_zero]
    refine (error_nil 0 w).mono ?_
    rintro e w' ⟨rfl, rfl⟩
    exact ⟨rfl, Below.refl _ _⟩
  · rw [errW_pos h]
    refine (error_hit er er w hg).mono ?_
    rintro e w' ⟨rfl, hb⟩
    exact ⟨by simp, hb⟩
theorem findR_one {L : List Rt} {host path : List Int} {n er m es : Int} (h : FindR L host path n er) (k : FindR L host path m es) : n = m ∧ er = es := by
  rcases h with ⟨h1, h2, h3⟩ | ⟨h1, h2, h3, h4⟩ | ⟨h1, h2, i, h3, h4⟩ <;> rcases k with ⟨k1, k2, k3⟩ | ⟨k1, k2, k3, k4⟩ | ⟨k1, k2, j, k3, k4⟩
  · exact ⟨by omega, by omega⟩
  · exact absurd k1 h1
  · exact absurd k1 h1
  · exact absurd h1 k1
  · exact ⟨by omega, by omega⟩
  · have := best_one h2 k3; cases this
  · exact absurd h1 k1
  · have := best_one h3 k2; cases this
  · have := best_one h3 k3
    cases this
    exact ⟨by omega, by omega⟩
set_option maxHeartbeats 8000000 in
theorem rfinds_ok (a : Option Addr) (len cap : Nat) (L : List Rb) (host path : ByteArray) (w : World) (hg : Laid w) (hA : RtArg w a len cap L) (hs : SzL L) (_hh : host.size ≤ 140737488351232) (hp : path.size ≤ 140737488351232) :
    Calls Tryd.prog 3 #[.slice a len cap, .string host, .string path] w fun e w' => e = .returned (.bool true) ∧ Below w.heap.size w w' := by
  have HG := vl hg
  have HA := vl hA
  have HLN := vl hA.len
  have HR1 := vl (rroutes_any a len cap L w hA hs)
  have HC1 := vl (fun W (hb : Below w.heap.size w W) => wchk_any a len cap L W (hA.below hb) hs)
  have HP1 := vl (fun W (hb : Below w.heap.size w W) hc => rprint_any a len cap L W (hA.below hb) hc)
  have HP2 := vl (fun W (hb : Below w.heap.size w W) => wprint_any a len cap L W (hA.below hb) hs)
  have HF1 := vl (fun W (hb : Below w.heap.size w W) hc => rfind_any a len cap L host path W (hA.below hb) hc)
  have HF2 := vl (fun W (hb : Below w.heap.size w W) => wfind_any a len cap L host path W (hA.below hb) hs)
  have HF3 := vl (fun W (hb : Below w.heap.size w W) => wrest_any a len cap L host path W (hA.below hb) hs hp)
  clear hg hA hs
  obtain ⟨E, hE⟩ : ∃ E, chkR (rtsOf L) = E := ⟨_, rfl⟩
  rw [hE] at HR1 HC1
  have HE := vl hE
  clear hE
  go_enter Tryd.func3, Tryd.ntmps3
  go_wp2_with fail
  refine HR1.out.mono ?_
  rintro e w1 ⟨rfl, hb1⟩
  have HB1 := vl hb1
  have HC2 := vl (HC1.out w1 HB1.out)
  clear hb1 HR1 HC1
  go_wp2_with fail
  refine HC2.out.mono ?_
  rintro e w2 ⟨rfl, hb2⟩
  have HB2 := vl (HB1.out.trans (hb2.mono HB1.out.size))
  have HX1 := vl (werr_any E w2 (HG.out.below HB2.out))
  clear hb2 HC2
  go_wp2_with fail
  refine HX1.out.mono ?_
  rintro e w3 ⟨rfl, hb3⟩
  have HB3 := vl (HB2.out.trans (hb3.mono HB2.out.size))
  clear hb3 HX1
  by_cases he : E = 0
  · subst he
    have hc := HE.out
    have HQ1 := vl (HP1.out w3 HB3.out hc)
    have HFF := vl (fun W hb => HF1.out W hb hc)
    clear hc
    go_wp2_with fail
    refine HQ1.out.mono ?_
    rintro e w4 ⟨⟨want, rfl, hwant⟩, hb4⟩
    have HB4 := vl (HB3.out.trans (hb4.mono HB3.out.size))
    have HQ2 := vl (HP2.out w4 HB4.out)
    clear hb4 HQ1 HP1
    go_wp2_with fail
    refine HQ2.out.mono ?_
    rintro e w5 ⟨⟨s5, rfl, hs5⟩, hb5⟩
    obtain rfl : s5 = want := by
      rw [if_pos HE.out, ← hwant] at hs5
      exact unums_inj hs5
    rw [HE.out]
    have HB5 := vl (HB4.out.trans (hb5.mono HB4.out.size))
    have HX2 := vl (werr_any 0 w5 (HG.out.below HB5.out))
    clear hb5 HQ2 HP2 hs5 hwant
    go_wp2_with fail
    refine HX2.out.mono ?_
    rintro e w6 ⟨rfl, hb6⟩
    have HB6 := vl (HB5.out.trans (hb6.mono HB5.out.size))
    have HQ3 := vl (HFF.out w6 HB6.out)
    clear hb6 HX2 HFF HF1
    go_wp2_with fail
    refine HQ3.out.mono ?_
    rintro e w7 ⟨⟨o, rfl, ho⟩, hb7⟩
    have HB7 := vl (HB6.out.trans (hb7.mono HB6.out.size))
    clear hb7 HQ3
    cases o with
    | none =>
      have HFND : Vl (FindR (rtsOf L) (unums host) (unums path) 0 5) := Or.inr (Or.inl ⟨HE.out, ho, rfl, rfl⟩)
      have HRST : Vl (∀ t s er, RestR L (unums host) (unums path) t s er → er = 5 ∧ t = ⟨#[]⟩ ∧ s = ⟨#[]⟩) := fun t s er h => by
        rcases h with ⟨h1, h2, h3, h4⟩ | ⟨h1, k, h2, _⟩
        · exact ⟨(findR_one h2 HFND.out).2, h3, h4⟩
        · exact absurd (findR_one h2 HFND.out).2 (by decide)
      have e1 : bestZ none = -1 := rfl
      rw [e1]
      clear ho
      have HG2 := vl (HF2.out w7 HB7.out)
      go_wp2_with fail
      refine HG2.out.mono ?_
      rintro e w10 ⟨⟨n10, e10, rfl, hf10⟩, hb10⟩
      obtain ⟨rfl, he10⟩ : n10 = 0 ∧ e10 = 5 := findR_one hf10 HFND.out
      have he10s := he10.symm
      clear he10
      subst he10s
      have HB10 := vl (HB7.out.trans (hb10.mono HB7.out.size))
      have HX3 := vl (werr_any 5 w10 (HG.out.below HB10.out))
      clear hf10 hb10 HG2
      go_wp2_with fail
      refine HX3.out.mono ?_
      rintro e w11 ⟨rfl, hb11⟩
      have HB11 := vl (HB10.out.trans (hb11.mono HB10.out.size))
      have HG3 := vl (HF3.out w11 HB11.out)
      clear hb11 HX3
      go_wp2_with fail
      refine HG3.out.mono ?_
      rintro e w12 ⟨⟨t12, s12, e12, rfl, hr12⟩, hb12⟩
      obtain ⟨he12, rfl, rfl⟩ : e12 = 5 ∧ t12 = ⟨#[]⟩ ∧ s12 = ⟨#[]⟩ := HRST.out t12 s12 e12 hr12
      have he12s := he12.symm
      clear he12
      subst he12s
      have HB12 := vl (HB11.out.trans (hb12.mono HB11.out.size))
      have HX4 := vl (werr_any 5 w12 (HG.out.below HB12.out))
      clear hr12 hb12 HG3
      go_wp2_with fail
      refine HX4.out.mono ?_
      rintro e w13 ⟨rfl, hb13⟩
      have HB13 := vl (HB12.out.trans (hb13.mono HB12.out.size))
      clear hb13 HX4
      go_wp2_with fail
      go_ret
      exact ⟨by first | rfl | simp, HB13.out⟩
    | some k =>
      have HFND : Vl (FindR (rtsOf L) (unums host) (unums path) (k : Int) 0) := Or.inr (Or.inr ⟨HE.out, rfl, k, ho, rfl⟩)
      have hk : k < len := by have := ho.1; rw [rts_len, HLN.out] at this; exact this
      have hfit := ho.2.1
      rcases HA.out.below HB7.out with ⟨h0, _⟩ | ⟨g, off, rfl, hr⟩
      · omega
      have hk' : (k : Int) < (len : Int) := by omega
      have hk0 : (0 : Int) ≤ (k : Int) := by omega
      have hkn : ¬ (k : Int) < 0 := by omega
      have c0 := hr.h0 k hk
      have c1 := hr.h1 k hk
      have c2 := hr.h2 k hk
      have hcap := hr.hcap
      have hmax := hr.hmax
      unfold maxLen at hmax
      have HRST0 : Vl (∀ t s er, RestR L (unums host) (unums path) t s er → er = 0 ∧ t = (L.getD k rbn).2.2 ∧ unums s = restR (unums (L.getD k rbn).2.1) (unums path)) := fun t s er h => by
        rcases h with ⟨h1, h2, _⟩ | ⟨h1, k2, h2, _, h4, h5⟩
        · exact absurd (findR_one h2 HFND.out).2 h1
        · have h6 := (findR_one h2 HFND.out).1
          obtain rfl : k2 = k := by omega
          exact ⟨h1, h4, h5⟩
      rw [rts_at] at hfit
      have hpre : (unums (L.getD k rbn).2.1).isPrefixOf (unums path) = true := by
        obtain ⟨t, ht⟩ := (fits_pre hfit).2
        exact List.isPrefixOf_iff_prefix.2 ⟨t, ht.symm⟩
      have HRS := vl (rrest_any (L.getD k rbn) path w7 hpre hp)
      have e1 : bestZ (some k) = (k : Int) := rfl
      rw [e1]
      clear ho hfit hpre hr
      generalize L.getD k rbn = f at *
      obtain ⟨x, y, z⟩ := f
      go_wp2_with fail
      refine HRS.out.mono ?_
      rintro e w8 ⟨⟨rs, rfl, hrs⟩, hb8⟩
      have HB8 := vl (HB7.out.trans (hb8.mono HB7.out.size))
      have HRST : Vl (∀ t s er, RestR L (unums host) (unums path) t s er → er = 0 ∧ t = z ∧ s = rs) := fun t s er h => by
        obtain ⟨h1, h2, h3⟩ := HRST0.out t s er h
        exact ⟨h1, h2, unums_inj (by rw [h3, hrs])⟩
      clear hb8 HRS hrs c0 c1 c2 HRST0
      have HG2 := vl (HF2.out w8 HB8.out)
      go_wp2_with fail
      refine HG2.out.mono ?_
      rintro e w10 ⟨⟨n10, e10, rfl, hf10⟩, hb10⟩
      obtain ⟨rfl, he10⟩ : n10 = (k : Int) ∧ e10 = 0 := findR_one hf10 HFND.out
      have he10s := he10.symm
      clear he10
      subst he10s
      have HB10 := vl (HB8.out.trans (hb10.mono HB8.out.size))
      have HX3 := vl (werr_any 0 w10 (HG.out.below HB10.out))
      clear hf10 hb10 HG2
      go_wp2_with fail
      refine HX3.out.mono ?_
      rintro e w11 ⟨rfl, hb11⟩
      have HB11 := vl (HB10.out.trans (hb11.mono HB10.out.size))
      have HG3 := vl (HF3.out w11 HB11.out)
      clear hb11 HX3
      go_wp2_with fail
      refine HG3.out.mono ?_
      rintro e w12 ⟨⟨t12, s12, e12, rfl, hr12⟩, hb12⟩
      obtain ⟨he12, rfl, rfl⟩ : e12 = 0 ∧ t12 = z ∧ s12 = rs := HRST.out t12 s12 e12 hr12
      have he12s := he12.symm
      clear he12
      subst he12s
      have HB12 := vl (HB11.out.trans (hb12.mono HB11.out.size))
      have HX4 := vl (werr_any 0 w12 (HG.out.below HB12.out))
      clear hr12 hb12 HG3
      go_wp2_with fail
      refine HX4.out.mono ?_
      rintro e w13 ⟨rfl, hb13⟩
      have HB13 := vl (HB12.out.trans (hb13.mono HB12.out.size))
      clear hb13 HX4
      go_wp2_with fail
      go_ret
      exact ⟨by first | rfl | simp, HB13.out⟩
  · have hen : (E == 0) = false := by simpa using he
    have HQ2 := vl (HP2.out w3 HB3.out)
    go_wp2_with fail
    refine HQ2.out.mono ?_
    rintro e w5 ⟨⟨s5, rfl, hs5⟩, hb5⟩
    obtain rfl : s5 = ⟨#[]⟩ := by
      rw [HE.out, if_neg he] at hs5
      exact unums_inj hs5
    rw [HE.out]
    have HB5 := vl (HB3.out.trans (hb5.mono HB3.out.size))
    have HX2 := vl (werr_any E w5 (HG.out.below HB5.out))
    clear hb5 HQ2 HP2 hs5
    have HFND : Vl (FindR (rtsOf L) (unums host) (unums path) 0 E) := Or.inl ⟨by rw [HE.out]; exact he, rfl, HE.out.symm⟩
    have HRST : Vl (∀ t s er, RestR L (unums host) (unums path) t s er → er = E ∧ t = ⟨#[]⟩ ∧ s = ⟨#[]⟩) := fun t s er h => by
      rcases h with ⟨h1, h2, h3, h4⟩ | ⟨h1, k, h2, _⟩
      · exact ⟨(findR_one h2 HFND.out).2, h3, h4⟩
      · exact absurd (findR_one h2 HFND.out).2.symm he
    go_wp2_with fail
    refine HX2.out.mono ?_
    rintro e w6 ⟨rfl, hb6⟩
    have HB6 := vl (HB5.out.trans (hb6.mono HB5.out.size))
    clear hb6 HX2
    have HG2 := vl (HF2.out w6 HB6.out)
    go_wp2_with fail
    refine HG2.out.mono ?_
    rintro e w10 ⟨⟨n10, e10, rfl, hf10⟩, hb10⟩
    obtain ⟨rfl, he10⟩ : n10 = 0 ∧ e10 = E := findR_one hf10 HFND.out
    have he10s := he10.symm
    clear he10
    subst he10s
    have HB10 := vl (HB6.out.trans (hb10.mono HB6.out.size))
    have HX3 := vl (werr_any E w10 (HG.out.below HB10.out))
    clear hf10 hb10 HG2
    go_wp2_with fail
    refine HX3.out.mono ?_
    rintro e w11 ⟨rfl, hb11⟩
    have HB11 := vl (HB10.out.trans (hb11.mono HB10.out.size))
    have HG3 := vl (HF3.out w11 HB11.out)
    clear hb11 HX3
    go_wp2_with fail
    refine HG3.out.mono ?_
    rintro e w12 ⟨⟨t12, s12, e12, rfl, hr12⟩, hb12⟩
    obtain ⟨he12, rfl, rfl⟩ : e12 = E ∧ t12 = ⟨#[]⟩ ∧ s12 = ⟨#[]⟩ := HRST.out t12 s12 e12 hr12
    have he12s := he12.symm
    clear he12
    subst he12s
    have HB12 := vl (HB11.out.trans (hb12.mono HB11.out.size))
    have HX4 := vl (werr_any E w12 (HG.out.below HB12.out))
    clear hr12 hb12 HG3
    go_wp2_with fail
    refine HX4.out.mono ?_
    rintro e w13 ⟨rfl, hb13⟩
    have HB13 := vl (HB12.out.trans (hb13.mono HB12.out.size))
    clear hb13 HX4
    go_wp2_with fail
    go_ret
    exact ⟨by first | rfl | simp, HB13.out⟩
end Go.Proofs.YtmjdfbbhlbecdaaDoor
