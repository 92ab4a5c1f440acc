/-
  WHERETO: the developers' checkBehind and Check. No claim by itself.
-/
import Derived.Test.YtmjdfbbhlbecdaaDoorWh2
import Derived.BigQuiet
import Derived.Deep.QuietTactic
import Derived.Deep.RegionHeld3
namespace Go.Proofs.YtmjdfbbhlbecdaaDoor
open Go Go.RowKit
set_option maxRecDepth 100000
attribute [local go_sem] run_store_func run_store_nilFunc
/-- A function value that tells p of each route, as long as what lay in w lies. -/
def PrdR (w : World) (F : Value) (p : Rt → Bool) : Prop :=
  ∃ (g : Nat) (lb : Array Value), F = .func (.func g) #[] lb ∧ (∀ args w, (callFunc g args).run Tryd.prog w = .ok (.enter g args) w) ∧
    ∀ (W : World) (r : Rb), Sz3 r → Below w.heap.size w W → Calls Tryd.prog g (#[.agg #[.string r.1, .string r.2.1, .string r.2.2]] ++ lb) W fun e w' => e = .returned (.bool (p (rtO r))) ∧ Below W.heap.size W w'
theorem PrdR.later {w W : World} {F : Value} {p : Rt → Bool} (h : PrdR w F p) (hb : Below w.heap.size w W) : PrdR W F p := by
  obtain ⟨g, lb, h1, h2, h3⟩ := h
  exact ⟨g, lb, h1, h2, fun W' r hr hb' => h3 W' r hr (hb.trans (hb'.mono hb.size))⟩
def ReIdx (p : Rt → Bool) (L : List Rt) (r : Int) : Prop :=
  (r = -1 ∧ L.any p = false) ∨ ∃ k : Nat, r = k ∧ L.any p = true
theorem reidx_hit {p : Rt → Bool} {L : List Rt} {k : Nat} (h : k < L.length) (hy : p (L.getD k rt0) = true) : ReIdx p L (k : Nat) :=
  Or.inr ⟨k, rfl, List.any_eq_true.2 ⟨L.getD k rt0, by rw [List.getD, List.getElem?_eq_getElem h]; exact List.getElem_mem h, hy⟩⟩
theorem reidx_miss {p : Rt → Bool} {L : List Rt} (hn : ∀ t, t < L.length → p (L.getD t rt0) = false) : ReIdx p L (-1) := by
  refine Or.inl ⟨rfl, List.any_eq_false.2 fun f hf => ?_⟩
  obtain ⟨i, hi, rfl⟩ := List.getElem_of_mem hf
  have := hn i hi
  rw [List.getD, List.getElem?_eq_getElem hi] at this
  simpa using this
set_option maxHeartbeats 2000000 in
theorem widx_row (g off len cap : Nat) (L : List Rb) (F : Value) (p : Rt → Bool) (w : World) (hr : RtRow w g off len cap L) (hl : len ≤ 4294967296) (hs : SzL L) (hF : PrdR w F p) :
    Calls Tryd.prog 59 #[.slice (some ⟨g, off, none⟩) len cap, F] w fun e w' => (∃ r, e = .returned (.int .i64 r) ∧ ReIdx p (rtsOf L) r) ∧ Below w.heap.size w w' := by
  obtain ⟨gf, lb, rfl, eg, HC0⟩ := hF
  have HC := vl HC0
  have HR := vl hr
  have HS := vl hs
  have hcap := hr.hcap
  have hmax := hr.hmax
  unfold maxLen at hmax
  have hLl := hr.hlen
  clear HC0 hr hs
  go_enter Tryd.func59, Tryd.ntmps59
  go_wp2_with fail
  go_loopw [8] (fun i wr => ∃ k : Nat, i = .int .i64 k ∧ k ≤ len ∧ Vl (∀ t, t < k → p ((rtsOf L).getD t rt0) = false) ∧ Vl (Below w.heap.size w wr)) (fun i _ => len - (intOf i).toNat)
  case atStart => exact ⟨0, rfl, by omega, fun t ht => by omega, Below.refl _ _⟩
  case round =>
    obtain ⟨k, rfl, hk, HK, HB⟩ := hrel
    by_cases hlt : k < len
    · have hlt' : (k : Int) < (len : Int) := by omega
      have hr2 := HR.out.below HB.out
      have c0 := hr2.h0 k hlt
      have c1 := hr2.h1 k hlt
      have c2 := hr2.h2 k hlt
      have hsz := HS.out k
      have HIT := vl (fun hy => reidx_hit (p := p) (L := rtsOf L) (k := k) (by rw [rts_len]; omega) hy)
      have HAT := vl (rts_at L k)
      generalize L.getD k rbn = f at *
      have H := vl (HC.out wr f hsz HB.out)
      obtain ⟨x, y, z⟩ := f
      clear hr2 hsz
      have hszr : w.heap.size ≤ wr.heap.size := HB.out.size
      obtain ⟨b, hb⟩ : ∃ b, p (rtO (x, y, z)) = b := ⟨_, rfl⟩
      have HBB := vl hb
      rw [hb] at H
      clear hb
      go_wp2_with fail
      refine H.out.mono ?_
      rintro e w1 ⟨rfl, hb1⟩
      have HB2 : Vl (Below w.heap.size w w1) := HB.out.trans (hb1.mono hszr)
      clear H hb1 HB c0 c1 c2
      cases b with
      | true =>
        have HI := vl (HIT.out (by rw [HAT.out]; exact HBB.out))
        go_wp2_with fail
        go_ret
        exact ⟨⟨_, rfl, HI.out⟩, HB2.out⟩
      | false =>
        go_wp2_with fail
        go_roundw
        case rel => exact ⟨k + 1, by go_num, by omega, vl (fun t ht => by
          by_cases e : t = k
          · rw [e, HAT.out]; exact HBB.out
          · exact HK.out t (by omega)), HB2⟩
        case measure => simp [intOf]; omega
    · have hke : k = len := by omega
      subst hke
      have HI := vl (reidx_miss (p := p) (L := rtsOf L) (by rw [rts_len, hLl]; exact HK.out))
      go_wp2_with fail
      go_ret
      exact ⟨⟨_, rfl, HI.out⟩, HB.out⟩
theorem widx_any (a : Option Addr) (len cap : Nat) (L : List Rb) (F : Value) (p : Rt → Bool) (w : World) (hA : RtArg w a len cap L) (hl : len ≤ 4294967296) (hs : SzL L) (hF : PrdR w F p) :
    Calls Tryd.prog 59 #[.slice a len cap, F] w fun e w' => (∃ r, e = .returned (.int .i64 r) ∧ ReIdx p (rtsOf L) r) ∧ Below w.heap.size w w' := by
  rcases hA with ⟨rfl, rfl⟩ | ⟨g, off, rfl, hr⟩
  · have HI := vl (reidx_miss (p := p) (L := rtsOf []) (fun t ht => by simp [rtsOf] at ht))
    go_enter Tryd.func59, Tryd.ntmps59
    go_wp2_with fail
    go_loopw [8] (fun i wr => i = .int .i64 0 ∧ wr = w) (fun _ _ => 0)
    case atStart => exact ⟨rfl, rfl⟩
    case round =>
      obtain ⟨rfl, rfl⟩ := hrel
      go_wp2_with fail
      go_ret
      exact ⟨⟨_, rfl, HI.out⟩, Below.refl _ _⟩
  · exact widx_row g off len cap L F p w hr hl hs hF
theorem wcont_any (a : Option Addr) (len cap : Nat) (L : List Rb) (F : Value) (p : Rt → Bool) (w : World) (hA : RtArg w a len cap L) (hl : len ≤ 4294967296) (hs : SzL L) (hF : PrdR w F p) :
    Calls Tryd.prog 38 #[.slice a len cap, F] w fun e w' => e = .returned (.bool ((rtsOf L).any p)) ∧ Below w.heap.size w w' := by
  have HI := vl (widx_any a len cap L F p w hA hl hs hF)
  clear hA hs hF
  go_enter Tryd.func38, Tryd.ntmps38
  go_wp2_with fail
  refine HI.out.mono ?_
  rintro e w1 ⟨⟨r, rfl, hr⟩, hb⟩
  rcases hr with ⟨rfl, hr⟩ | ⟨k, rfl, hr⟩
  · have HR := vl hr
    clear hr
    go_wp2_with fail
    go_ret
    exact ⟨by rw [HR.out]; rfl, hb⟩
  · have h0 : (0 : Int) ≤ (k : Int) := by omega
    have HR := vl hr
    clear hr
    go_wp2_with fail
    go_ret
    exact ⟨by rw [HR.out]; simp, hb⟩
/-- Three texts in a block of their own. -/
def RtBox (w : World) (g : Nat) (r : Rb) : Prop := w.cell? ⟨g, 0, none⟩ = some (.string r.1) ∧ w.cell? ⟨g, 1, none⟩ = some (.string r.2.1) ∧ w.cell? ⟨g, 2, none⟩ = some (.string r.2.2)
theorem RtBox.below {w w' : World} {g B : Nat} {r : Rb} (h : RtBox w g r) (hb : Below B w w') (hg : g < B) : RtBox w' g r :=
  ⟨(hb.cell (p := ⟨g, 0, none⟩) hg).trans h.1, (hb.cell (p := ⟨g, 1, none⟩) hg).trans h.2.1, (hb.cell (p := ⟨g, 2, none⟩) hg).trans h.2.2⟩
theorem rtbox_new (w : World) (x y z : ByteArray) (T : TypeId) : RtBox (w.alloc (.cells #[.string x, .string y, .string z] T)) w.heap.size (x, y, z) := by
  have hh : (w.alloc (.cells #[.string x, .string y, .string z] T)).heap[w.heap.size]? = some (.cells #[.string x, .string y, .string z] T (0, 0)) := heap_alloc_new w _
  exact ⟨by simp only [World.cell?, hh]; rfl, by simp only [World.cell?, hh]; rfl, by simp only [World.cell?, hh]; rfl⟩
theorem wcbc_any (r : Rb) (q : Rb) (g : Nat) (w : World) (h : RtBox w g r) :
    Calls Tryd.prog 37 #[.agg #[.string q.1, .string q.2.1, .string q.2.2], .pointer (some ⟨g, 0, none⟩)] w fun e w' => e = .returned (.bool (sameR (rtO r) (rtO q))) ∧ Below w.heap.size w w' := by
  obtain ⟨a, b, c⟩ := r
  obtain ⟨x, y, z⟩ := q
  obtain ⟨c0, c1, c2⟩ := h
  have hg := blk_of_cell c0
  have e : sameR (rtO (a, b, c)) (rtO (x, y, z)) = ((x.toList == a.toList) && (y.toList == b.toList)) := by rw [un_beq, un_beq]; rfl
  rw [e]
  clear e
  have d0 : (w.alloc (.cells #[.string x, .string y, .string z] 33)).cell? ⟨g, 0, none⟩ = some (.string a) := (((Below.refl _ w).alloc (Nat.le_refl _) _).cell (p := ⟨g, 0, none⟩) hg).trans c0
  have d1 : (w.alloc (.cells #[.string x, .string y, .string z] 33)).cell? ⟨g, 1, none⟩ = some (.string b) := (((Below.refl _ w).alloc (Nat.le_refl _) _).cell (p := ⟨g, 1, none⟩) hg).trans c1
  obtain ⟨u, hu⟩ : ∃ u, (x.toList == a.toList) = u := ⟨_, rfl⟩
  obtain ⟨v, hv⟩ : ∃ v, (y.toList == b.toList) = v := ⟨_, rfl⟩
  rw [hu, hv]
  cases u with
  | false =>
    go_enter Tryd.func37, Tryd.ntmps37
    go_wp2
    go_ret
    exact ⟨rfl, (Below.refl _ w).alloc (Nat.le_refl _) _⟩
  | true =>
    go_enter Tryd.func37, Tryd.ntmps37
    go_wp2
    go_ret
    exact ⟨rfl, (Below.refl _ w).alloc (Nat.le_refl _) _⟩
theorem prd_same {w : World} {g : Nat} {r : Rb} (h : RtBox w g r) : PrdR w (.func (.func 37) #[] #[.pointer (some ⟨g, 0, none⟩)]) (sameR (rtO r)) :=
  ⟨37, #[.pointer (some ⟨g, 0, none⟩)], rfl, enters_of Tryd.func37 (by kernel_rfl) rfl, fun W q _ hb => wcbc_any r q g W (h.below hb (blk_of_cell h.1))⟩
set_option maxHeartbeats 2000000 in
theorem wcb_any (a : Option Addr) (len cap : Nat) (A : List Rb) (r : Rb) (w : World) (hA : RtArg w a len cap A) (hl : len ≤ 4294967296) (hs : SzL A) (hr : Sz3 r) :
    Calls Tryd.prog 20 #[.slice a len cap, .agg #[.string r.1, .string r.2.1, .string r.2.2]] w fun e w' => e = .returned (errW (oneE (rtsOf A) (rtO r))) ∧ Below w.heap.size w w' := by
  obtain ⟨x, y, z⟩ := r
  obtain ⟨s1, s2, s3⟩ := hr
  have H1 := vl (fun W => wish_any x W s1)
  have H2 := vl (fun W => wisp_any y W s2)
  have H3 := vl (fun W => ntoken_any z W s3)
  obtain ⟨W0, hW0⟩ : ∃ W0, W0 = w.alloc (.cells #[.string x, .string y, .string z] 33) := ⟨_, rfl⟩
  have HX : Vl (RtBox W0 w.heap.size (x, y, z)) := by rw [hW0]; exact rtbox_new w x y z _
  have HB0 : Vl (Below w.heap.size w W0) := by rw [hW0]; exact (Below.refl _ w).alloc (Nat.le_refl _) _
  have HS0 : Vl (W0.heap.size = w.heap.size + 1) := by rw [hW0]; exact World.size_alloc _ _
  have HC := vl (fun W (hb : Below W0.heap.size W0 W) => wcont_any a len cap A _ _ W (hA.below (HB0.out.trans (hb.mono HB0.out.size))) hl hs (prd_same (HX.out.below hb (by rw [HS0.out]; exact Nat.lt_succ_self _))))
  have HP : Vl (∀ W, Below W0.heap.size W0 W → W.cell? ⟨w.heap.size, 0, none⟩ = some (.string x) ∧ W.cell? ⟨w.heap.size, 1, none⟩ = some (.string y) ∧ W.cell? ⟨w.heap.size, 2, none⟩ = some (.string z)) := fun W hb => HX.out.below hb (by rw [HS0.out]; exact Nat.lt_succ_self _)
  have HE : Vl (oneE (rtsOf A) (rtO (x, y, z)) = if (hostOk (unums x) && pathOk (unums y) && tokL (unums z)) = true then (if (rtsOf A).any (sameR (rtO (x, y, z))) = true then 7 else 0) else 2) := by
    show _ = _
    rw [show (hostOk (unums x) && pathOk (unums y) && tokL (unums z)) = rtOk (rtO (x, y, z)) from rtOk_is (rtO (x, y, z))]
    rfl
  obtain ⟨E, hE⟩ : ∃ E, oneE (rtsOf A) (rtO (x, y, z)) = E := ⟨_, rfl⟩
  rw [hE]
  rw [hE] at HE
  clear hE hA hs
  generalize hostOk (unums x) = b1 at *
  generalize pathOk (unums y) = b2 at *
  generalize tokL (unums z) = b3 at *
  generalize (rtsOf A).any (sameR (rtO (x, y, z))) = b4 at *
  obtain ⟨p0, p1, p2⟩ := HX.out
  cases b1 with
  | false =>
    have hEE : E = 2 := HE.out
    subst hEE
    go_enter Tryd.func20, Tryd.ntmps20
    go_wp2_with fail
    rw [← hW0]
    refine (H1.out _).mono ?_
    rintro e w1 ⟨rfl, hb1⟩
    clear hW0
    have HF := vl (HB0.out.trans (hb1.mono HB0.out.size))
    go_wp2_with fail
    go_ret
    exact ⟨rfl, HF.out⟩
  | true =>
    cases b2 with
    | false =>
      have hEE : E = 2 := HE.out
      subst hEE
      go_enter Tryd.func20, Tryd.ntmps20
      go_wp2_with fail
      rw [← hW0]
      refine (H1.out _).mono ?_
      rintro e w1 ⟨rfl, hb1⟩
      clear hW0
      obtain ⟨q0, q1, q2⟩ := HP.out w1 hb1
      have HB1 := vl hb1
      clear hb1 p0 p1 p2
      go_wp2_with fail
      refine (H2.out _).mono ?_
      rintro e w2 ⟨rfl, hb2⟩
      have HF := vl (HB0.out.trans ((HB1.out.trans (hb2.mono HB1.out.size)).mono HB0.out.size))
      clear hb2
      go_wp2_with fail
      go_ret
      exact ⟨rfl, HF.out⟩
    | true =>
      have hEE : E = if b3 = true then (if b4 = true then 7 else 0) else 2 := HE.out
      go_enter Tryd.func20, Tryd.ntmps20
      go_wp2_with fail
      rw [← hW0]
      refine (H1.out _).mono ?_
      rintro e w1 ⟨rfl, hb1⟩
      clear hW0
      obtain ⟨q0, q1, q2⟩ := HP.out w1 hb1
      have HB1 := vl hb1
      clear hb1 p0 p1 p2
      go_wp2_with fail
      refine (H2.out _).mono ?_
      rintro e w2 ⟨rfl, hb2⟩
      have HB2 := vl (HB1.out.trans (hb2.mono HB1.out.size))
      obtain ⟨q0, q1, q2⟩ := HP.out w2 HB2.out
      clear hb2
      go_wp2_with fail
      refine (H3.out _).mono ?_
      rintro e w3 ⟨rfl, hb3⟩
      have HB3 := vl (HB2.out.trans (hb3.mono HB2.out.size))
      clear hb3
      cases b3 with
      | false =>
        have hE2 : E = 2 := hEE
        clear hEE
        subst hE2
        have HF := vl (HB0.out.trans (HB3.out.mono HB0.out.size))
        go_wp2_with fail
        go_ret
        exact ⟨rfl, HF.out⟩
      | true =>
        have hE2 : E = if b4 = true then 7 else 0 := hEE
        clear hEE
        have HD := vl (HC.out w3 HB3.out)
        go_wp2_with fail
        refine HD.out.mono ?_
        rintro e w4 ⟨rfl, hb4⟩
        have HF := vl (HB0.out.trans ((HB3.out.trans (hb4.mono HB3.out.size)).mono HB0.out.size))
        clear hb4
        cases b4 with
        | false =>
          have hE3 : E = 0 := hE2
          clear hE2
          subst hE3
          go_wp2_with fail
          go_ret
          exact ⟨rfl, HF.out⟩
        | true =>
          have hE3 : E = 7 := hE2
          clear hE2
          subst hE3
          go_wp2_with fail
          go_ret
          exact ⟨rfl, HF.out⟩
end Go.Proofs.YtmjdfbbhlbecdaaDoor
