/-
  WHERETO: the developers' Find and Rest. No claim by itself.
-/
import Derived.Test.YtmjdfbbhlbecdaaDoorWh6
namespace Go.Proofs.YtmjdfbbhlbecdaaDoor
open Go Go.RowKit
set_option maxRecDepth 100000
attribute [local go_sem] run_store_func run_store_nilFunc
/-- Which one is found, and what is wrong. -/
def FindR (L : List Rt) (host path : List Int) (n er : Int) : Prop :=
  (chkR L ≠ 0 ∧ n = 0 ∧ er = chkR L) ∨ (chkR L = 0 ∧ BestIn L host path L.length none ∧ n = 0 ∧ er = 5) ∨ (chkR L = 0 ∧ er = 0 ∧ ∃ k : Nat, BestIn L host path L.length (some k) ∧ n = k)
def FindE (L : List Rt) (host path : List Int) (e : Ending) : Prop := ∃ n er, e = .returned (.tuple #[.int .i64 n, errW er]) ∧ FindR L host path n er
set_option maxHeartbeats 2000000 in
theorem wfind_any (a : Option Addr) (len cap : Nat) (L : List Rb) (host path : ByteArray) (w : World) (hA : RtArg w a len cap L) (hs : SzL L) :
    Calls Tryd.prog 13 #[.slice a len cap, .string host, .string path] w fun e w' => FindE (rtsOf L) (unums host) (unums path) e ∧ Below w.heap.size w w' := by
  obtain ⟨W0, hW0⟩ : ∃ W0, W0 = (w.alloc (.cells #[.string host] 9)).alloc (.cells #[.string path] 9) := ⟨_, rfl⟩
  have HB0 : Vl (Below w.heap.size w W0) := by rw [hW0]; exact ((Below.refl _ w).alloc (Nat.le_refl _) _).alloc (by simp) _
  have HH : Vl (W0.cell? ⟨w.heap.size, 0, none⟩ = some (.string host)) := by
    rw [hW0]
    have k : (w.alloc (.cells #[.string host] 9)).heap[w.heap.size]? = some (.cells #[.string host] 9 (0, 0)) := heap_alloc_new w _
    have k2 := (((Below.refl _ (w.alloc (.cells #[.string host] 9))).alloc (Nat.le_refl _) (.cells #[.string path] 9)).block w.heap.size (by simp)).trans k
    simp only [World.cell?, k2]; rfl
  have HP : Vl (W0.cell? ⟨w.heap.size + 1, 0, none⟩ = some (.string path)) := by
    rw [hW0]
    have k : ((w.alloc (.cells #[.string host] 9)).alloc (.cells #[.string path] 9)).heap[(w.alloc (.cells #[.string host] 9)).heap.size]? = some (.cells #[.string path] 9 (0, 0)) := heap_alloc_new _ _
    rw [World.size_alloc] at k
    simp only [World.cell?, k]; rfl
  have HC := vl (wchk_any a len cap L W0 (hA.below HB0.out) hs)
  have HL := vl (fun W (hb : Below W0.heap.size W0 W) (hc : chkR (rtsOf L) = 0) => wclo_any a len cap L (.func (.func 24) #[] #[.pointer (some ⟨w.heap.size, 0, none⟩), .pointer (some ⟨w.heap.size + 1, 0, none⟩)]) (unums host) (unums path) W (hA.below (HB0.out.trans (hb.mono HB0.out.size))) hs hc
    ((prd_fits HH.out HP.out).later hb))
  have HE : Vl (chkR (rtsOf L) ≠ 0 → FindE (rtsOf L) (unums host) (unums path) (.returned (.tuple #[.int .i64 0, errW (chkR (rtsOf L))]))) := fun h => ⟨0, _, rfl, Or.inl ⟨h, rfl, rfl⟩⟩
  obtain ⟨E, hE⟩ : ∃ E, chkR (rtsOf L) = E := ⟨_, rfl⟩
  rw [hE] at HC HE
  have HCE := vl hE
  clear hE hA hs HH HP
  by_cases e0 : E = 0
  · subst e0
    have HM := vl (fun W hb => HL.out W hb HCE.out)
    clear HE HL
    rw [errW_zero] at HC
    go_enter Tryd.func13, Tryd.ntmps13
    go_wp2_with fail
    rw [← hW0]
    refine HC.out.mono ?_
    rintro e w1 ⟨rfl, hb1⟩
    have HD := vl (HM.out w1 hb1)
    have HB1 := vl (HB0.out.trans (hb1.mono HB0.out.size))
    clear hW0 hb1 HM HC
    go_wp2_with fail
    refine HD.out.mono ?_
    rintro e w2 ⟨⟨o, rfl, ho⟩, hb2⟩
    have HB2 := vl (HB1.out.trans (hb2.mono HB1.out.size))
    clear HD hb2
    cases o with
    | none =>
      have HF : Vl (FindE (rtsOf L) (unums host) (unums path) (.returned (.tuple #[.int .i64 0, errW 5]))) := ⟨0, 5, rfl, Or.inr (Or.inl ⟨HCE.out, ho, rfl, rfl⟩)⟩
      clear ho
      unfold atV
      simp only [Option.isSome]
      go_wp2_with fail
      go_ret2
      exact ⟨HF.out, HB2.out⟩
    | some k =>
      have HF : Vl (FindE (rtsOf L) (unums host) (unums path) (.returned (.tuple #[.int .i64 (k : Int), errW 0]))) := ⟨k, 0, rfl, Or.inr (Or.inr ⟨HCE.out, rfl, k, ho, rfl⟩)⟩
      clear ho
      unfold atV
      simp only [Option.isSome]
      go_wp2_with fail
      go_ret2
      exact ⟨HF.out, HB2.out⟩
  · have HF := vl (HE.out e0)
    rw [errW_pos e0] at HC HF
    clear HE HL
    go_enter Tryd.func13, Tryd.ntmps13
    go_wp2_with fail
    rw [← hW0]
    refine HC.out.mono ?_
    rintro e w1 ⟨rfl, hb1⟩
    have HB1 := vl (HB0.out.trans (hb1.mono HB0.out.size))
    clear hW0 hb1 HC
    go_wp2_with fail
    go_ret2
    exact ⟨HF.out, HB1.out⟩
/-- Whereto, and what is left of the path. -/
def RestR (L : List Rb) (host path : List Int) (t s : ByteArray) (er : Int) : Prop :=
  (er ≠ 0 ∧ FindR (rtsOf L) host path 0 er ∧ t = ⟨#[]⟩ ∧ s = ⟨#[]⟩) ∨ (er = 0 ∧ ∃ k : Nat, FindR (rtsOf L) host path k 0 ∧ k < L.length ∧ t = (L.getD k rbn).2.2 ∧ unums s = restR (unums (L.getD k rbn).2.1) path)
def RestE (L : List Rb) (host path : List Int) (e : Ending) : Prop := ∃ t s er, e = .returned (.tuple #[.string t, .string s, errW er]) ∧ RestR L host path t s er
theorem find_er {L : List Rt} {host path : List Int} {n er : Int} (h : FindR L host path n er) : (er = 0 ∧ ∃ k : Nat, n = k ∧ k < L.length ∧ fitsR host path (L.getD k rt0) = true) ∨ (er ≠ 0 ∧ n = 0) := by
  rcases h with ⟨h1, h2, h3⟩ | ⟨h1, h2, h3, h4⟩ | ⟨h1, h2, k, h3, h4⟩
  · exact Or.inr ⟨by rw [h3]; exact h1, h2⟩
  · exact Or.inr ⟨by rw [h4]; decide, h3⟩
  · exact Or.inl ⟨h2, k, h4, h3.1, h3.2.1⟩
theorem begins_is (s : List Int) : begins 47 s = decide (s.headD 0 = 47) := by
  cases s with
  | nil => rfl
  | cons x r => simp [begins]
set_option maxHeartbeats 2000000 in
theorem wrest_any (a : Option Addr) (len cap : Nat) (L : List Rb) (host path : ByteArray) (w : World) (hA : RtArg w a len cap L) (hs : SzL L) (hp : path.size ≤ 140737488351232) :
    Calls Tryd.prog 14 #[.slice a len cap, .string host, .string path] w fun e w' => RestE L (unums host) (unums path) e ∧ Below w.heap.size w w' := by
  have HF := vl (wfind_any a len cap L host path w hA hs)
  have HA := vl hA
  have HLN := vl hA.len
  clear hA hs
  go_enter Tryd.func14, Tryd.ntmps14
  go_wp2_with fail
  refine HF.out.mono ?_
  rintro e w1 ⟨⟨n, er, rfl, hf⟩, hb1⟩
  have HB1 := vl hb1
  have HFR := vl hf
  rcases find_er hf with ⟨rfl, k, rfl, hk, hfit⟩ | ⟨he, rfl⟩
  · rw [rts_len] at hk
    have hA2 := HA.out.below hb1
    have hlen := HLN.out
    rcases hA2 with ⟨rfl, rfl⟩ | ⟨g, off, rfl, hr⟩
    · simp at hk
    have hkl : k < len := by omega
    have hkl' : (k : Int) < (len : Int) := by omega
    have hk0 : (0 : Int) ≤ (k : Int) := by omega
    have c1 := hr.h1 k hkl
    have c2 := hr.h2 k hkl
    have hcap := hr.hcap
    have hmax := hr.hmax
    unfold maxLen at hmax
    obtain ⟨y, hy⟩ : ∃ y, (L.getD k rbn).2.1 = y := ⟨_, rfl⟩
    obtain ⟨z, hz⟩ : ∃ z, (L.getD k rbn).2.2 = z := ⟨_, rfl⟩
    rw [hy] at c1
    rw [hz] at c2
    have hpre : (unums y).isPrefixOf (unums path) = true := by
      rw [rts_at] at hfit
      have := (fits_pre hfit).2
      obtain ⟨t, ht⟩ := this
      rw [show (rtO (L.getD k rbn)).2.1 = unums y from by unfold rtO; rw [hy]] at ht
      exact List.isPrefixOf_iff_prefix.2 ⟨t, ht.symm⟩
    have HU := vl (un_trimP hpre)
    have HT := vl (strimp_any path y w1)
    have HSZ : Vl ((trimP path y).size ≤ 140737488351232) := by
      show _ ≤ _
      rw [← unums_len, un_trimP hpre, List.length_drop, unums_len]; omega
    obtain ⟨t, ht⟩ : ∃ t, trimP path y = t := ⟨_, rfl⟩
    rw [ht] at HT HU HSZ
    have HG := vl (slash_any t w1)
    have hszt := HSZ.out
    have HQ : Vl (RestE L (unums host) (unums path) (.returned (.tuple #[.string z, .string (if begins 47 (unums t) = true then t else ⟨#[47]⟩ ++ t), errW 0]))) := by
      refine ⟨_, _, 0, rfl, Or.inr ⟨rfl, k, HFR.out, by omega, hz.symm, ?_⟩⟩
      rw [hy]
      unfold restR
      rw [← HU.out]
      by_cases hh : (unums t).headD 0 = 47
      · rw [if_pos (by rw [begins_is]; exact decide_eq_true hh), if_pos hh]
      · rw [if_neg (by rw [begins_is]; simpa using hh), if_neg hh, unums_app]
        rfl
    generalize begins 47 (unums t) = b at *
    clear hf hfit hpre ht hy hz HF HA HLN hr HU HFR hb1
    rw [errW_zero]
    go_wp2_with fail
    refine HT.out.mono ?_
    rintro e w2 ⟨rfl, rfl⟩
    go_wp2_with fail
    refine HG.out.mono ?_
    rintro e w2 ⟨rfl, rfl⟩
    cases b with
    | true =>
      go_wp2_with fail
      go_ret3
      exact ⟨HQ.out, HB1.out⟩
    | false =>
      go_wp2_with fail
      go_ret3
      exact ⟨HQ.out, HB1.out⟩
  · have HQ : Vl (RestE L (unums host) (unums path) (.returned (.tuple #[.string ⟨#[]⟩, .string ⟨#[]⟩, errW er]))) := ⟨_, _, er, rfl, Or.inl ⟨he, hf, rfl, rfl⟩⟩
    rw [errW_pos he] at HQ ⊢
    clear hf HF HA HLN HFR hb1
    go_wp2_with fail
    go_ret3
    exact ⟨HQ.out, HB1.out⟩
end Go.Proofs.YtmjdfbbhlbecdaaDoor
