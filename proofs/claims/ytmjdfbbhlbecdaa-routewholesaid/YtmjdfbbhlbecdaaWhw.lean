/-
  WHERETO: RouteWhole, over what the developers' Find and Rest do. No claim by itself.
-/
import Derived.Test.YtmjdfbbhlbecdaaWh7
import Derived.BigQuiet
import Derived.Deep.QuietTactic
import Derived.Deep.DeepCutAuto
namespace Go.Proofs.Ytmjdfbbhlbecdaa
open Go Go.RowKit
set_option maxRecDepth 100000
attribute [local go_sem] run_store_func run_store_nilFunc
def one1 : List Rb := [(⟨#[]⟩, ⟨#[47, 97]⟩, ⟨#[120]⟩)]
theorem one_chk : chkR (rtsOf one1) = 0 := by decide
theorem one_ab : fitsR [104] [47, 97, 98] ((rtsOf one1).getD 0 rt0) = false := by decide
theorem one_a_b : fitsR [104] [47, 97, 47, 98] ((rtsOf one1).getD 0 rt0) = true := by decide
theorem one_no {n er : Int} (h : FindR (rtsOf one1) [104] [47, 97, 98] n er) : n = 0 ∧ er = 5 := by
  rcases h with ⟨h1, _⟩ | ⟨_, _, h3, h4⟩ | ⟨_, _, k, h3, _⟩
  · exact absurd one_chk h1
  · exact ⟨h3, h4⟩
  · have hk : k = 0 := by have := h3.1; simp [rtsOf, one1] at this; exact this
    have := h3.2.1
    rw [hk, one_ab] at this
    cases this
theorem one_yes {n er : Int} (h : FindR (rtsOf one1) [104] [47, 97, 47, 98] n er) : n = 0 ∧ er = 0 := by
  rcases h with ⟨h1, _⟩ | ⟨_, h2, _⟩ | ⟨_, h2, k, h3, h4⟩
  · exact absurd one_chk h1
  · have := h2 0 (by simp [rtsOf, one1])
    rw [one_a_b] at this
    cases this
  · have hk : k = 0 := by have := h3.1; simp [rtsOf, one1] at this; exact this
    rw [h4, hk]
    exact ⟨rfl, h2⟩
theorem findR_one {L : List Rt} {host path : List Int} {n er m es : Int} (h : FindR L host path n er) (k : FindR L host path m es) : n = m ∧ er = es := by
  rcases h with ⟨h1, h2, h3⟩ | ⟨h1, h2, h3, h4⟩ | ⟨h1, h2, i, h3, h4⟩ <;> rcases k with ⟨k1, k2, k3⟩ | ⟨k1, k2, k3, k4⟩ | ⟨k1, k2, j, k3, k4⟩
  · exact ⟨by omega, by omega⟩
  · exact absurd k1 h1
  · exact absurd k1 h1
  · exact absurd h1 k1
  · exact ⟨by omega, by omega⟩
  · have := best_one h2 k3; cases this
  · exact absurd h1 k1
  · have := best_one h3 k2; cases this
  · have := best_one h3 k3
    cases this
    exact ⟨by omega, by omega⟩
/-- What is known of a route that was found, of its texts. -/
structure Hit (x y : ByteArray) (host path s : ByteArray) : Prop where
  le : y.size ≤ path.size
  pos : 1 ≤ y.size
  pre : (path.extract 0 y.size).toList = y.toList
  host : x.toList = [] ∨ x.toList = host.toList
  rest : s = path.extract y.size path.size ∧ begins 47 (unums s) = true ∨ (s = ⟨#[47]⟩ ++ path.extract y.size path.size ∧ begins 47 (unums (path.extract y.size path.size)) = false)
  ends : y.size = path.size ∨ (unums path).getD y.size 0 = 47 ∨ (unums y).getD (y.size - 1) 0 = 47
theorem hit_of {L : List Rb} {host path s : ByteArray} {k : Nat} (hc : chkR (rtsOf L) = 0) (hb : BestIn (rtsOf L) (unums host) (unums path) (rtsOf L).length (some k)) (hs : unums s = restR (unums (L.getD k rbn).2.1) (unums path)) : Hit (L.getD k rbn).1 (L.getD k rbn).2.1 host path s := by
  obtain ⟨hk, hf, _⟩ := hb
  have hok := (chk_at hc k hk).1
  rw [rts_at] at hok hf
  generalize L.getD k rbn = r at *
  obtain ⟨x, y, z⟩ := r
  have hp := rtOk_path hok
  have hf2 := hf
  obtain ⟨hh, t, ht⟩ := fits_pre hf
  have hp1 : unums y ≠ [] := hp.1
  have htt : unums path = unums y ++ t := ht
  have hlen := congrArg List.length htt
  rw [List.length_append, unums_len, unums_len] at hlen
  have hyl := unums_len y
  have hpos : 1 ≤ y.size := by
    rcases Nat.eq_zero_or_pos y.size with h | h
    · exact absurd (unums_nil.2 h) hp1
    · exact h
  have hdr : unums (path.extract y.size path.size) = t := by rw [un_drop, htt, ← hyl]; simp
  refine ⟨show y.size ≤ path.size by omega, hpos, un_list.2 (by rw [un_take, htt, ← hyl]; simp), ?_, ?_, ?_⟩
  · rcases hh with h | h
    · exact Or.inr (un_list.2 h)
    · exact Or.inl (un_lit.2 h)
  · have hs' : unums s = restR (unums y) (unums path) := hs
    unfold restR at hs'
    rw [htt, List.drop_left] at hs'
    by_cases e : t.headD 0 = 47
    · rw [if_pos e] at hs'
      exact Or.inl ⟨unums_inj (by rw [hs', hdr]), by rw [hs', begins_is]; exact decide_eq_true e⟩
    · rw [if_neg e] at hs'
      exact Or.inr ⟨unums_inj (by rw [hs', unums_app, hdr]; rfl), by rw [hdr, begins_is]; exact decide_eq_false e⟩
  · have hl : leadsL (unums y) (unums path) = true := by
      unfold fitsR at hf2
      simp only [Bool.and_eq_true] at hf2
      exact hf2.2
    unfold leadsL at hl
    simp only [Bool.and_eq_true, Bool.or_eq_true, decide_eq_true_eq] at hl
    rcases hl.2 with (h | h) | h
    · exact Or.inl (by rw [unums_len, unums_len] at h; exact h.symm)
    · exact Or.inr (Or.inl (by rw [unums_len] at h; exact h))
    · refine Or.inr (Or.inr ?_)
      rw [last_at hp1, unums_len] at h
      exact h
set_option maxHeartbeats 8000000 in
theorem rwhole_ok (a : Option Addr) (len cap : Nat) (L : List Rb) (host path : ByteArray) (w : World) (hA : RtArg w a len cap L) (hs : SzL L) (hp : path.size ≤ 140737488351232) :
    Calls Try.prog 3 #[.slice a len cap, .string host, .string path] w fun e w' => e = .returned (.bool true) ∧ Below w.heap.size w w' := by
  obtain ⟨W0, hW0⟩ : ∃ W0, W0 = w.alloc (.cells #[.string ⟨#[]⟩, .string ⟨#[47, 97]⟩, .string ⟨#[120]⟩] 24) := ⟨_, rfl⟩
  have HB0 : Vl (Below w.heap.size w W0) := by rw [hW0]; exact (Below.refl _ w).alloc (Nat.le_refl _) _
  have HR0 : Vl (RtArg W0 (some ⟨w.heap.size, 0, none⟩) 1 1 one1) := by
    rw [hW0]
    obtain ⟨h0, h1, h2⟩ := rtbox_new w ⟨#[]⟩ ⟨#[47, 97]⟩ ⟨#[120]⟩ 24
    refine Or.inr ⟨_, 0, rfl, rfl, Nat.le_refl _, by decide, fun t ht => ?_, fun t ht => ?_, fun t ht => ?_⟩ <;> (obtain rfl : t = 0 := by omega)
    · exact h0
    · exact h1
    · exact h2
  have HZ1 : Vl (SzL one1) := szl_nil.app (r := (⟨#[]⟩, ⟨#[47, 97]⟩, ⟨#[120]⟩)) ⟨by decide, by decide, by decide⟩
  have HF1 := vl (wfind_any (some ⟨w.heap.size, 0, none⟩) 1 1 one1 ⟨#[104]⟩ ⟨#[47, 97, 98]⟩ W0 HR0.out HZ1.out)
  have HF2 := vl (fun W (hb : Below W0.heap.size W0 W) => wfind_any (some ⟨w.heap.size, 0, none⟩) 1 1 one1 ⟨#[104]⟩ ⟨#[47, 97, 47, 98]⟩ W (HR0.out.below hb) HZ1.out)
  have HF3 := vl (fun W (hb : Below w.heap.size w W) => wfind_any a len cap L host path W (hA.below hb) hs)
  have HF4 := vl (fun W (hb : Below w.heap.size w W) => wrest_any a len cap L host path W (hA.below hb) hs hp)
  have HA := vl hA
  have HLN := vl hA.len
  clear hA hs
  go_enter Try.func3, Try.ntmps3
  go_wp2_with fail
  rw [← hW0]
  refine HF1.out.mono ?_
  rintro e w1 ⟨⟨n1, e1, rfl, hf1⟩, hb1⟩
  obtain ⟨rfl, rfl⟩ := one_no hf1
  have HB1 := vl hb1
  have HG2 := vl (HF2.out w1 hb1)
  clear hf1 hb1 hW0 HF1 HF2
  rw [errW_pos (show (5 : Int) ≠ 0 by decide)]
  go_wp2_with fail
  refine HG2.out.mono ?_
  rintro e w2 ⟨⟨n2, e2, rfl, hf2⟩, hb2⟩
  obtain ⟨rfl, rfl⟩ := one_yes hf2
  have HB2 := vl (HB0.out.trans ((HB1.out.trans (hb2.mono HB1.out.size)).mono HB0.out.size))
  have HG3 := vl (HF3.out w2 HB2.out)
  clear hf2 hb2 HG2 HF3
  rw [errW_zero]
  go_wp2_with fail
  refine HG3.out.mono ?_
  rintro e w3 ⟨⟨n3, e3, rfl, hf3⟩, hb3⟩
  have HB3 := vl (HB2.out.trans (hb3.mono HB2.out.size))
  have HG4 := vl (HF4.out w3 HB3.out)
  have HFR := vl hf3
  clear hf3 hb3 HG3 HF4
  go_wp2_with fail
  refine HG4.out.mono ?_
  rintro e w4 ⟨⟨t, s, e4, rfl, hr4⟩, hb4⟩
  have HB4 := vl (HB3.out.trans (hb4.mono HB3.out.size))
  clear hb4 HG4
  by_cases he : e3 = 0
  · subst he
    obtain ⟨k, rfl, hk, hbest, hchk⟩ : ∃ k : Nat, n3 = (k : Int) ∧ k < L.length ∧ BestIn (rtsOf L) (unums host) (unums path) (rtsOf L).length (some k) ∧ chkR (rtsOf L) = 0 := by
      rcases HFR.out with ⟨h1, _, h3⟩ | ⟨_, _, _, h4⟩ | ⟨h1, _, k, h3, h4⟩
      · exact absurd h3.symm h1
      · exact absurd h4 (by decide)
      · exact ⟨k, h4, by have := h3.1; rwa [rts_len] at this, h3, h1⟩
    obtain ⟨rfl, ht, hs4⟩ : e4 = 0 ∧ t = (L.getD k rbn).2.2 ∧ unums s = restR (unums (L.getD k rbn).2.1) (unums path) := by
      rcases hr4 with ⟨h1, h2, _⟩ | ⟨h1, k2, h2, _, h4, h5⟩
      · exact absurd (findR_one HFR.out h2).2.symm h1
      · have := (findR_one HFR.out h2).1
        obtain rfl : k = k2 := by omega
        exact ⟨h1, h4, h5⟩
    have hhit := hit_of hchk hbest hs4
    have hlen := HLN.out
    rcases HA.out.below HB4.out with ⟨h0, _⟩ | ⟨g, off, rfl, hr⟩
    · omega
    have hkl : k < len := by omega
    have hkl' : (k : Int) < (len : Int) := by omega
    have hk0 : (0 : Int) ≤ (k : Int) := by omega
    have c0 := hr.h0 k hkl
    have c1 := hr.h1 k hkl
    have c2 := hr.h2 k hkl
    have hcap := hr.hcap
    have hmax := hr.hmax
    unfold maxLen at hmax
    subst ht
    clear hr4 hbest hchk hs4 hr HA HLN HFR hlen hk
    generalize L.getD k rbn = f at *
    obtain ⟨x, y, z⟩ := f
    have hhit : Hit x y host path s := hhit
    have HH := vl hhit
    clear hhit
    obtain ⟨W5, hW5⟩ : ∃ W5, W5 = w4.alloc (.cells #[.string x, .string y, .string z] 24) := ⟨_, rfl⟩
    have HB5 : Vl (Below w.heap.size w W5) := by rw [hW5]; exact HB4.out.alloc HB4.out.size _
    have HBX : Vl (RtBox W5 w4.heap.size (x, y, z)) := by rw [hW5]; exact rtbox_new w4 x y z _
    obtain ⟨d0, d1, d2⟩ := HBX.out
    rw [errW_zero]
    go_upto_region 12 with fail
    rw [← hW5]
    clear hW5 c0 c1 c2
    have hle := HH.out.le
    have hpos := HH.out.pos
    have hleI : (y.size : Int) ≤ (path.size : Int) := by omega
    have hy0 : (0 : Int) ≤ (y.size : Int) := by omega
    go_cut [111] (fun r wz => r = .bool false ∧ Vl (RtBox wz w4.heap.size (x, y, z)) ∧ Vl (Below w.heap.size w wz))
    case first =>
      as_aux_lemma =>
        have hgt : decide ((path.size : Int) < (y.size : Int)) = false := decide_eq_false (by omega)
        have hpre := HH.out.pre
        have hpre2 : ((path.extract 0 y.size).toList != y.toList) = false := by rw [hpre]; simp
        have hsne : begins 47 (unums s) = true := by
          rcases HH.out.rest with ⟨_, h⟩ | ⟨h, _⟩
          · exact h
          · rw [h, unums_app]; rfl
        have hs0 : 0 < s.size := by
          rcases Nat.eq_zero_or_pos s.size with h | h
          · rw [unums_nil.2 h] at hsne; cases hsne
          · exact h
        have hs0' : (0 : Int) < (s.size : Int) := by omega
        have hse : (s.toList == []) = false := by
          rw [un_beqlit]
          exact decide_eq_false (fun e => by have := unums_nil.1 e; omega)
        have hix := unums_at s 0 hs0
        have h47 : (unums s).getD 0 0 = 47 := by
          rw [begins_is] at hsne
          have := of_decide_eq_true hsne
          rw [head_at (fun e => by have := unums_nil.1 e; omega)] at this
          exact this
        rw [h47] at hix
        have HD : Vl (∀ n, RtBox (W5.drewN n) w4.heap.size (x, y, z) ∧ Below w.heap.size w (W5.drewN n)) := fun n => ⟨HBX.out.below (drewN_below (Below.refl _ _) n) (blk_of_cell d0), drewN_below HB5.out n⟩
        clear hsne h47
        by_cases q : x.toList = []
        · have q' : (x.toList != []) = false := by simpa using q
          go_quiet (fail)
          go_wp2_with fail
          go_meet
          exact ⟨by first | rfl | (simp; omega), (HD.out _).1, (HD.out _).2⟩
        · have q' : (x.toList != []) = true := by simpa using q
          have qh' : x = host := by
            rcases HH.out.host with h | h
            · exact absurd h q
            · exact toL_eq.1 h
          subst qh'
          go_quiet (fail)
          go_wp2_with fail
          go_meet
          exact ⟨by first | rfl | (simp; omega), (HD.out _).1, (HD.out _).2⟩
    case rest =>
      obtain ⟨rfl, HBX2, HB6⟩ := hcut
      obtain ⟨w6, hw6⟩ : ∃ q, q = wc := ⟨_, rfl⟩
      subst hw6
      obtain ⟨f0, f1, f2⟩ := HBX2.out
      clear d0 d1 d2 HBX HB5
      have HREST : Vl (s = path.extract y.size path.size ∨ s = ⟨#[47]⟩ ++ path.extract y.size path.size) := by
        rcases HH.out.rest with ⟨h, _⟩ | ⟨h, _⟩
        · exact Or.inl h
        · exact Or.inr h
      go_upto_region 14 with fail
      go_cut [129] (fun r wz => r = .bool false ∧ wz = w6)
      case first =>
        as_aux_lemma =>
          by_cases hlt : y.size < path.size
          · have hlt' : (y.size : Int) < (path.size : Int) := by omega
            have hip := unums_at path y.size hlt
            have hiy := unums_at y (y.size - 1) (by omega)
            obtain ⟨c, hc⟩ : ∃ c, (unums path).getD y.size 0 = c := ⟨_, rfl⟩
            obtain ⟨d, hd⟩ : ∃ d, (unums y).getD (y.size - 1) 0 = d := ⟨_, rfl⟩
            rw [hc] at hip
            rw [hd] at hiy
            have HC := vl hc
            have HDD := vl hd
            have hp1 : (1 : Int) ≤ (y.size : Int) := by omega
            clear hc hd
            by_cases q : c = 47
            · subst q
              go_wp2_with fail
              go_meet
              exact ⟨by first | rfl | simp, rfl⟩
            · have q' : (c != 47) = true := by simpa using q
              have hd47 : d = 47 := by
                rcases HH.out.ends with h | h | h
                · omega
                · exact absurd (HC.out.symm.trans h) q
                · exact HDD.out.symm.trans h
              subst hd47
              go_wp2_with fail
              go_meet
              exact ⟨by first | rfl | simp, rfl⟩
          · have hlt' : decide ((y.size : Int) < (path.size : Int)) = false := decide_eq_false (by omega)
            have hlt2 : ¬ (y.size : Int) < (path.size : Int) := by omega
            go_wp2_with fail
            go_meet
            exact ⟨by first | rfl | simp, rfl⟩
      case rest =>
        obtain ⟨rfl, rfl⟩ := hcut
        have hadd : ¬ 9223372036854775807 < 1 + (path.size - y.size) := by omega
        rcases HREST.out with h | h
        · have h1 : (s.toList == (path.extract y.size path.size).toList) = true := by rw [h]; simp
          clear h HREST
          go_wp2_with fail
          go_ret
          exact ⟨by first | rfl | simp, HB6.out⟩
        · have h1 : (s.toList == (⟨#[47]⟩ ++ path.extract y.size path.size : ByteArray).toList) = true := by rw [h]; simp
          obtain ⟨b, hb⟩ : ∃ b, (s.toList == (path.extract y.size path.size).toList) = b := ⟨_, rfl⟩
          clear h HREST
          cases b with
          | true =>
            go_wp2_with fail
            go_ret
            exact ⟨by first | rfl | simp, HB6.out⟩
          | false =>
            go_wp2_with fail
            go_ret
            exact ⟨by first | rfl | simp, HB6.out⟩
  · have he4 : e4 ≠ 0 := by
      rcases hr4 with ⟨h1, _⟩ | ⟨h1, k, h2, _⟩
      · exact h1
      · exact absurd (findR_one HFR.out h2).2 he
    rw [errW_pos he, errW_pos he4]
    clear hr4
    go_wp2_with fail
    go_quiet (fail)
    go_wp2_with fail
    go_ret
    refine ⟨?_, drewN_below HB4.out _⟩
    rfl
end Go.Proofs.Ytmjdfbbhlbecdaa
