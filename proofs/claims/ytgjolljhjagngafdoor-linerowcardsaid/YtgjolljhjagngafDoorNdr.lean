/-
  MESSAGES AS LINES: the developers' ReadAsk. No claim by itself.
-/
import Derived.Test.YtgjolljhjagngafDoorNdr0
import Derived.Test.YtgjolljhjagngafDoorNitoa
namespace Go.Proofs.YtgjolljhjagngafDoor
open Go Go.RowKit Go.Shelf
set_option maxRecDepth 100000
/- what is still to be read -/
def askK4 (m p h : List Int) (f : Hd) : Pz Rq := bindP (bodyP f.2.1.toNat) fun x => retP ⟨m, p, h, f.1, x⟩
def askK3 (m p h : List Int) : Pz Rq := bindP (headP 1 false 40 []) (askK4 m p h)
def askK2 (m p : List Int) : Pz Rq := bindP (mtsP edgeHostQ) fun _ => bindP (valP 1) fun h => askK3 m p h
def askK1 (m : List Int) : Pz Rq := bindP (txtP 32 ok2 1) fun p => askK2 m p
theorem askP_eq : askP = bindP (txtP 32 ok0 1) askK1 := rfl
/-- The request and the reader's variable. -/
structure AB (W : World) (n0 lb rb : Nat) (m p h : ByteArray) (fv bv : Value) : Prop where
  q : RB W n0 m p h fv bv
  r : W.heap[rb]? = some (.cells #[rptr lb] 93 (0, 0))
section
variable {W W' : World} {n0 lb rb : Nat} {m p h : ByteArray} {fv bv : Value}
theorem AB.tr (k : AB W n0 lb rb m p h fv bv) (d1 : n0 ≠ lb) (d2 : rb ≠ lb) (ht : Tr lb W W') : AB W' n0 lb rb m p h fv bv := ⟨k.q.tl d1 ht, (ht.block rb (Array.getElem?_eq_some_iff.1 k.r).1 d2).trans k.r⟩
theorem AB.on (k : AB W n0 lb rb m p h fv bv) (hb : Below W.heap.size W W') : AB W' n0 lb rb m p h fv bv := ⟨k.q.on hb, (hb.block rb (Array.getElem?_eq_some_iff.1 k.r).1).trans k.r⟩
theorem AB.s0 (k : AB W n0 lb rb m p h fv bv) (d : n0 ≠ rb) (s : ByteArray) : AB (W.setCell ⟨n0, 0, none⟩ (.string s)) n0 lb rb s p h fv bv := ⟨k.q.s0 s, (Below.heap_setCell _ _ _ _ d.symm).trans k.r⟩
theorem AB.s1 (k : AB W n0 lb rb m p h fv bv) (d : n0 ≠ rb) (s : ByteArray) : AB (W.setCell ⟨n0, 1, none⟩ (.string s)) n0 lb rb m s h fv bv := ⟨k.q.s1 s, (Below.heap_setCell _ _ _ _ d.symm).trans k.r⟩
theorem AB.s2 (k : AB W n0 lb rb m p h fv bv) (d : n0 ≠ rb) (s : ByteArray) : AB (W.setCell ⟨n0, 2, none⟩ (.string s)) n0 lb rb m p s fv bv := ⟨k.q.s2 s, (Below.heap_setCell _ _ _ _ d.symm).trans k.r⟩
theorem AB.s3 (k : AB W n0 lb rb m p h fv bv) (d : n0 ≠ rb) (s : Value) : AB (W.setCell ⟨n0, 3, none⟩ s) n0 lb rb m p h s bv := ⟨k.q.s3 s, (Below.heap_setCell _ _ _ _ d.symm).trans k.r⟩
theorem AB.s4 (k : AB W n0 lb rb m p h fv bv) (d : n0 ≠ rb) (s : Value) : AB (W.setCell ⟨n0, 4, none⟩ s) n0 lb rb m p h fv s := ⟨k.q.s4 s, (Below.heap_setCell _ _ _ _ d.symm).trans k.r⟩
theorem AB.at (k : AB W n0 lb rb m p h fv bv) : W.cell? ⟨rb, 0, none⟩ = some (.pointer (some ⟨lb, 0, none⟩)) := (o1 k.r).1
end
/-- What is told in the end. -/
def DAskAns (Z : List Int) (w : World) (e : Ending) (w' : World) : Prop := ∃ q : RqM, e = .returned (.tuple #[q.val, .int .i64 (endF askP Z).2.2, errW (endF askP Z).1]) ∧ RqIn w' q ∧ q.rq = (endF askP Z).2.1 ∧ Below w.heap.size w w'
set_option maxHeartbeats 8000000 in
theorem nreadask_ans (a : Option Addr) (len cap : Nat) (Z : List Int) (w : World) (hA : Arg w a len cap Z) (hnil : a = none → len = 0) (hl : len ≤ ULim) : Calls Tryd.prog 22 #[.slice a len cap] w (DAskAns Z w) := by
  have hzl := hA.len
  obtain ⟨W3, hW3⟩ : ∃ W3, W3 = ((w.alloc (.cells #[.string ⟨#[]⟩, .string ⟨#[]⟩, .string ⟨#[]⟩, .slice none 0 0, .slice none 0 0] 34)).alloc (.cells #[.slice a len cap, .int .i64 0, .nilIface] 95)).alloc (.cells #[.pointer (some ⟨w.heap.size + 1, 0, none⟩)] 93) := ⟨_, rfl⟩
  obtain ⟨lb, hlb⟩ : ∃ lb, lb = w.heap.size + 1 := ⟨_, rfl⟩
  obtain ⟨rb, hrb⟩ : ∃ rb, rb = w.heap.size + 1 + 1 := ⟨_, rfl⟩
  obtain ⟨n0, hn0⟩ : ∃ n0, n0 = w.heap.size := ⟨_, rfl⟩
  have hsz3 : W3.heap.size = n0 + 3 := by rw [hW3, hn0]; simp
  have X0 : Vl (AB W3 n0 lb rb ⟨#[]⟩ ⟨#[]⟩ ⟨#[]⟩ (.slice none 0 0) (.slice none 0 0)) := by
    constructor
    · unfold RB
      rw [hW3, hn0, Below.heap_alloc _ _ _ (by simp; omega), Below.heap_alloc _ _ _ (by simp)]
      exact heap_alloc_new w _
    · unfold rptr
      rw [hW3, hrb, hlb]
      have := heap_alloc_new ((w.alloc (.cells #[.string ⟨#[]⟩, .string ⟨#[]⟩, .string ⟨#[]⟩, .slice none 0 0, .slice none 0 0] 34)).alloc (.cells #[.slice a len cap, .int .i64 0, .nilIface] 95)) (.cells #[.pointer (some ⟨w.heap.size + 1, 0, none⟩)] 93 (0, 0))
      simpa using this
  have hB3 : Below w.heap.size w W3 := by rw [hW3]; exact (((Below.refl _ w).alloc (Nat.le_refl _) _).alloc (by simp) _).alloc (by simp; omega) _
  have hL3 : W3.heap[lb]? = some (.cells #[.slice a len cap, .int .i64 0, .nilIface] 95 (0, 0)) := by
    rw [hW3, hlb, Below.heap_alloc _ _ _ (by simp)]
    have := heap_alloc_new (w.alloc (.cells #[.string ⟨#[]⟩, .string ⟨#[]⟩, .string ⟨#[]⟩, .slice none 0 0, .slice none 0 0] 34)) (.cells #[.slice a len cap, .int .i64 0, .nilIface] 95 (0, 0))
    simpa using this
  have S0 : Vl (Dst (askP Z) askP w W3 lb a len cap Z) := by
    refine ⟨0, 0, ⟨hB3, by omega, hA, ⟨?_, ?_, ?_, ?_, ?_⟩, Nat.zero_le _, hl⟩, Or.inl ⟨rfl, rfl⟩⟩
    all_goals simp [World.cell?, World.frozen?, hL3, errW_0]
  obtain ⟨G, hG⟩ : ∃ G, G = askP Z := ⟨_, rfl⟩
  rw [← hG] at S0
  have HG : Vl (G = askP Z) := hG
  have HNIL := vl hnil
  have hws : w.heap.size = n0 := hn0.symm
  have hl1 : lb = n0 + 1 := by omega
  have hr1 : rb = n0 + 2 := by omega
  have d1 : n0 ≠ lb := by omega
  have d2 : rb ≠ lb := by omega
  have d3 : n0 ≠ rb := by omega
  have d4 : w.heap.size ≤ rb := by omega
  have d5 : w.heap.size ≤ n0 := by omega
  have HA := vl hA
  have EW3 := vl hW3
  have ELB := vl hlb
  have ERB := vl hrb
  have EN0 := vl hn0
  have D4 := vl d4
  have D5 := vl d5
  have HNUM : Vl (lb = n0 + 1 ∧ rb = n0 + 2 ∧ W3.heap.size = n0 + 3) := ⟨hl1, hr1, hsz3⟩
  clear hnil hG hB3 hL3 hA hW3 hlb hrb hn0 hws d4 d5 hl1 hr1 hsz3
  rw [askP_eq] at S0
  go_enter Tryd.func22, Tryd.ntmps22
  go_upto_region 2 with fail
  rw [← EW3.out, ← ERB.out, ← ELB.out, ← EN0.out]
  clear EW3
  go_cut [] (fun wz => ∃ m : ByteArray, Vl (Dst G (askK1 (unums m)) w wz lb a len cap Z) ∧ Vl (AB wz n0 lb rb m ⟨#[]⟩ ⟨#[]⟩ (.slice none 0 0) (.slice none 0 0)) ∧ m.size ≤ 400)
  case first =>
    as_aux_lemma =>
      have k0 := X0.out.at
      have H1 := vl (ntokf_any W3.drew)
      have hlt := S0.out.lt
      have H2 : Vl (∀ W, Below W3.drew.heap.size W3.drew W → Calls Tryd.prog 54 #[rptr lb, formV 1 (.func (.func 86) #[] #[]), .int .u8 32] W fun e w' => ∃ s : ByteArray, e = .returned (.string s) ∧ Dst G (askK1 (unums s)) w w' lb a len cap Z ∧ Tr lb W w' ∧ s.size ≤ 400) := fun W hb => text_st 32 ok0 1 _ _ (mayf_tok W W.heap.size) (by have := hb.size; have := hlt; show lb < W.heap.size; exact Nat.lt_of_lt_of_le hlt hb.size) ((S0.out.on (Below.refl _ W3).drew).on hb)
      have HX : Vl (∀ W, Below W3.drew.heap.size W3.drew W → AB W n0 lb rb ⟨#[]⟩ ⟨#[]⟩ ⟨#[]⟩ (.slice none 0 0) (.slice none 0 0)) := fun W hb => (X0.out.on (Below.refl _ W3).drew).on hb
      unfold rptr formV at H2
      unfold formV at H1
      go_region_held3 (fun W => W.cell? ⟨rb, 0, none⟩ = some (.pointer (some ⟨lb, 0, none⟩)))
        (first | exact (((HX.out _ hb).tr d1 d2 ht2).s0 d3 s).at | exact ((HX.out _ hb).tr d1 d2 ht2).at | exact k0 | exact (HX.out _ hb).at)
        (first
          | (go_at_call 54; refine (H2.out _ hb).mono ?_; rintro e w2 ⟨s, rfl, hd2, ht2, hs2⟩; have y0 := ((HX.out _ hb).tr d1 d2 ht2).q.cells.1; have y1 := ((HX.out _ hb).tr d1 d2 ht2).q.frozen 0)
          | (go_at_call 45; refine H1.out.mono ?_; rintro e w1 ⟨rfl, hb⟩))
      all_goals
        have HD := vl (hd2.set (y := n0) (i := 0) (v := .string s) D5.out d1)
        have HY := vl (((HX.out _ hb).tr d1 d2 ht2).s0 d3 s)
        clear hd2 ht2 y0 y1 HX H2 H1 hb
        go_wp2
        go_meet
        exact ⟨s, HD.out, HY.out, by omega⟩
  case rest =>
  obtain ⟨m, S1, X1, hm⟩ := hcut
  clear S0 X0 HNUM
  obtain ⟨V1, hV1⟩ : ∃ V1, V1 = wc := ⟨_, rfl⟩
  subst hV1
  go_upto_region 3 with fail
  go_cut [] (fun wz => ∃ p : ByteArray, Vl (Dst G (askK2 (unums m) (unums p)) w wz lb a len cap Z) ∧ Vl (AB wz n0 lb rb m p ⟨#[]⟩ (.slice none 0 0) (.slice none 0 0)) ∧ p.size ≤ 400)
  case first =>
    as_aux_lemma =>
      have k0 := X1.out.at
      have H1 := vl (npathf_any V1.drew)
      have hlt := S1.out.lt
      have H2 : Vl (∀ F W, Below V1.drew.heap.size V1.drew W → MayF W V1.drew.heap.size F ok2 → Calls Tryd.prog 54 #[rptr lb, formV 1 F, .int .u8 32] W fun e w' => ∃ s : ByteArray, e = .returned (.string s) ∧ Dst G (askK2 (unums m) (unums s)) w w' lb a len cap Z ∧ Tr lb W w' ∧ s.size ≤ 400) := fun F W hb hF => text_st 32 ok2 1 _ _ hF hlt ((S1.out.on (Below.refl _ V1).drew).on hb)
      have HX : Vl (∀ W, Below V1.drew.heap.size V1.drew W → AB W n0 lb rb m ⟨#[]⟩ ⟨#[]⟩ (.slice none 0 0) (.slice none 0 0)) := fun W hb => (X1.out.on (Below.refl _ V1).drew).on hb
      unfold rptr formV at H2
      unfold formV at H1
      go_region_held3 (fun W => W.cell? ⟨rb, 0, none⟩ = some (.pointer (some ⟨lb, 0, none⟩)))
        (first | exact (((HX.out _ hb).tr d1 d2 ht2).s1 d3 s).at | exact ((HX.out _ hb).tr d1 d2 ht2).at | exact k0 | exact (HX.out _ hb).at)
        (first
          | (go_at_call 54; refine (H2.out _ _ hb hmf).mono ?_; rintro e w2 ⟨s, rfl, hd2, ht2, hs2⟩; have y0 := ((HX.out _ hb).tr d1 d2 ht2).q.cells.2.1; have y1 := ((HX.out _ hb).tr d1 d2 ht2).q.frozen 1)
          | (go_at_call 36; refine H1.out.mono ?_; rintro e w1 ⟨Gf, rfl, hmf, hb⟩))
      all_goals
        have HD := vl (hd2.set (y := n0) (i := 1) (v := .string s) D5.out d1)
        have HY := vl (((HX.out _ hb).tr d1 d2 ht2).s1 d3 s)
        clear hd2 ht2 y0 y1 HX H2 H1 hb hmf
        go_wp2
        go_meet
        exact ⟨s, HD.out, HY.out, by omega⟩
  case rest =>
  obtain ⟨p, S2, X2, hp⟩ := hcut
  clear S1 X1
  have k2 := X2.out.at
  have H3 := vl (word_st (s := ⟨#[69, 68, 71, 69, 47, 49, 13, 10, 104, 111, 115, 116, 58, 32]⟩) (by decide) (show Dst G (bindP (mtsP (unums ⟨#[69, 68, 71, 69, 47, 49, 13, 10, 104, 111, 115, 116, 58, 32]⟩)) _) w wc lb a len cap Z from S2.out))
  unfold rptr at H3
  go_wp2_with fail
  refine H3.out.mono ?_
  rintro e w3 ⟨rfl, hd3, ht3⟩
  have X3 := vl (X2.out.tr d1 d2 ht3)
  have H4 := vl (value_st 1 hd3)
  have k3 := X3.out.at
  unfold rptr at H4
  clear H3 S2 X2 hd3 ht3 k2
  go_wp2_with fail
  refine H4.out.mono ?_
  rintro e w4 ⟨h, rfl, hd4, ht4, hh⟩
  have X4 := vl (X3.out.tr d1 d2 ht4)
  have y0 := X4.out.q.cells.2.2.1
  have y1 := X4.out.q.frozen 2
  have S4 := vl (hd4.set (y := n0) (i := 2) (v := .string h) D5.out d1)
  have X5 := vl (X4.out.s2 d3 h)
  obtain ⟨V5, hV5⟩ : ∃ V5, V5 = w4.setCell ⟨n0, 2, none⟩ (.string h) := ⟨_, rfl⟩
  rw [← hV5] at S4 X5
  clear H4 X3 hd4 ht4 k3
  go_upto_region 6 with fail
  rw [← hV5]
  clear hV5 y0 y1 X4
  -- REST
  obtain ⟨sb, hsb⟩ : ∃ sb, sb = V5.heap.size := ⟨_, rfl⟩
  obtain ⟨V6, hV6⟩ : ∃ V6, V6 = V5.alloc (.cells #[.int .i64 0] 3) := ⟨_, rfl⟩
  have hb6 : Below V5.heap.size V5 V6 := by rw [hV6]; exact (Below.refl _ _).alloc (Nat.le_refl _) _
  have hs6 : V6.heap[sb]? = some (.cells #[.int .i64 0] 3 (0, 0)) := by rw [hV6, hsb]; exact heap_alloc_new V5 _
  have hn6 : V6.heap.size = sb + 1 := by rw [hV6, hsb]; simp
  have X6 := vl (X5.out.on hb6)
  have S6 := vl (S4.out.on hb6)
  have hlt5 := S4.out.lt
  have hnlt := X5.out.q.lt
  have hrlt := (Array.getElem?_eq_some_iff.1 X5.out.r).1
  have e1 : sb ≠ lb := by omega
  have e2 : rb ≠ sb := by omega
  have e3 : n0 ≠ sb := by omega
  have D6 : Vl (w.heap.size ≤ sb) := by have := D5.out; show w.heap.size ≤ sb; omega
  have DL : Vl (w.heap.size ≤ lb) := S4.out.base
  have HF := vl (fields_st 1 false 58 #[.pointer (some ⟨rb, 0, none⟩), .pointer (some ⟨sb, 0, none⟩)] (CapA lb rb sb) (fun k => k = lb ∨ k = rb ∨ k = sb) (last_ask rb sb d2 e1 e2 D6.out) (S6.out.to (fun b => hd_hdK (G := G) (by omega) b)) ⟨X6.out.r, 0, hs6, by omega, by omega, Or.inr ⟨by omega, rfl⟩⟩ (Or.inl rfl) (by
    have := D4.out
    have := DL.out
    rintro k (rfl | rfl | rfl) <;> omega))
  have k6 := X6.out.at
  have HN6 : Vl (n0 < V6.heap.size ∧ V6.heap.size = sb + 1 ∧ lb < V6.heap.size) := ⟨by omega, hn6, by omega⟩
  have EV6 := vl hV6
  have ESB := vl hsb
  unfold rptr at HF
  clear hb6 hs6 hn6 hlt5 hnlt hrlt hV6 hsb S6 S4 X5
  go_upto_region 7 with fail
  rw [← EV6.out, ← ESB.out]
  clear EV6 ESB
  go_wp2_with fail
  refine HF.out.mono ?_
  rintro e w7 ⟨x, FL, v, rfl, ho7, hf7, hl7, hd7, hc7, ht7⟩
  obtain ⟨fa, fc, rfl⟩ := fown_shape ho7
  have hq7 : RB w7 n0 m p h (.slice none 0 0) (.slice none 0 0) := (ht7.block n0 HN6.out.1 (fun hk => by rcases hk with e | e | e <;> omega)).trans X6.out.q
  have y0 := hq7.cells.2.2.2.1
  have y1 := hq7.frozen 3
  obtain ⟨V8, hV8⟩ : ∃ V8, V8 = w7.setCell ⟨n0, 3, none⟩ (.slice fa FL.length fc) := ⟨_, rfl⟩
  have X8 : Vl (AB V8 n0 lb rb m p h (.slice fa FL.length fc) (.slice none 0 0)) := by
    rw [hV8]
    exact ⟨hq7.s3 _, (Below.heap_setCell _ _ _ _ d3.symm).trans hc7.1⟩
  have S8 : Vl (Dst G (hdK G (askK4 (unums m) (unums p) (unums h)) (fdsOf FL, v.1, v.2)) w V8 lb a len cap Z) := by rw [hV8]; exact hd7.set D5.out d1
  have C8 : Vl (CapA lb rb sb v V8) := by rw [hV8]; exact hc7.kept (Below.heap_setCell _ _ _ _ d3.symm) (Below.heap_setCell _ _ _ _ e3.symm)
  obtain ⟨b6, hb6⟩ : ∃ b6, b6 = V6.heap.size := ⟨_, rfl⟩
  have O8 : Vl (FOwn V8 b6 (.slice fa FL.length fc) FL) := by rw [hV8, hb6]; exact fown_set ho7 HN6.out.1
  have HNB : Vl (n0 < b6 ∧ lb < b6) := by rw [hb6]; exact ⟨HN6.out.1, HN6.out.2.2⟩
  have HFS := vl hf7
  clear HF X6 ho7 hf7 hd7 hc7 ht7 hq7 k6
  go_upto_region 8 with fail
  rw [← hV8]
  clear hV8 y0 y1 hb6 HN6
  obtain ⟨k1, n, k2, k3, k4, k5⟩ := C8.out
  have r8 := (o1 k1).1
  have s8 := (o1 k2).1
  unfold rptr at r8
  have HB8 : Vl (Dst G (bindP (bodyP n.toNat) fun x => retP ⟨unums m, unums p, unums h, fdsOf FL, x⟩) w V8 lb a len cap Z ∧ (0 ≤ n ∨ ∃ q bad, RS w V8 lb a len cap Z q bad ∧ bad ≠ 0)) := by
    by_cases hv2 : v.1 = -2
    · have := S8.out
      unfold hdK at this
      rw [if_pos hv2] at this
      obtain ⟨q, bad, j1, j2, j3⟩ := this.never
      exact ⟨Dst.any j1 j2 j3, Or.inr ⟨q, bad, j1, j2⟩⟩
    · obtain ⟨j1, j2⟩ := k5.resolve_left hv2
      have := S8.out
      unfold hdK at this
      rw [if_neg hv2] at this
      unfold askK4 at this
      rw [← j2]
      exact ⟨this, Or.inl j1⟩
  have HBD := vl (body_st n ⟨k3, by omega⟩ HNIL.out HB8.out.1 HB8.out.2)
  unfold rptr at HBD
  clear k1 k2 k5 C8 S8 HB8
  go_wp2_with fail
  refine HBD.out.mono ?_
  rintro e w9 ⟨bv, B, rfl, ho9, hd9, ht9, hB9, hm9⟩
  obtain ⟨ba, bc, rfl, hbc, _⟩ := ho9.slice
  have X9 := vl (X8.out.tr d1 d2 ht9)
  have y0 := X9.out.q.cells.2.2.2.2
  have y1 := X9.out.q.frozen 4
  have O9 := vl (fown_tn (S := fun k => k = lb) O8.out (fun k hk => by rw [hk]; exact HNB.out.2) (tn_tr rfl ht9))
  obtain ⟨V10, hV10⟩ : ∃ V10, V10 = w9.setCell ⟨n0, 4, none⟩ (.slice ba B.length bc) := ⟨_, rfl⟩
  have X10 : Vl (AB V10 n0 lb rb m p h (.slice fa FL.length fc) (.slice ba B.length bc)) := by rw [hV10]; exact X9.out.s4 d3 _
  have S10 : Vl (Dst G (retP ⟨unums m, unums p, unums h, fdsOf FL, B⟩) w V10 lb a len cap Z) := by rw [hV10]; exact hd9.set D5.out d1
  have O10 : Vl (FOwn V10 b6 (.slice fa FL.length fc) FL) := by rw [hV10]; exact fown_set O9.out HNB.out.1
  have A10 : Vl (UOwn V10 V8.heap.size (.slice ba B.length bc) B ∧ Bytes B ∧ n0 < V8.heap.size ∧ (ba = none → B.length = 0 ∧ bc = 0) ∧ B.length ≤ 140737488351232) := by
    have hby : Bytes B := fun x hx => HA.out.bytes x (hm9 x hx)
    have ho10 : UOwn V10 V8.heap.size (.slice ba B.length bc) B := by
      rw [hV10]
      exact ho9.grown (n_setg _ _ _ _) (fun k hk => fun e => by
        cases e
        have := (ho9.base _ hk).1
        have := X8.out.q.lt
        omega)
    refine ⟨ho10, hby, X8.out.q.lt, ?_, hB9⟩
    rintro rfl
    rcases ho10 with ⟨j1, j2⟩ | ⟨g, cp, j1, _⟩
    · rw [j2] at j1 ⊢; cases j1; exact ⟨rfl, rfl⟩
    · cases j1
  clear HBD X8 O8 X9 O9 ho9 hd9 ht9 hm9 r8 s8
  go_upto_region 9 with fail
  rw [← hV10]
  clear hV10 y0 y1
  obtain ⟨q, bad, hR, hcase⟩ := S10.out
  have HR := vl hR
  have HCASE := vl hcase
  have HFT := vl (fault_any lb a len cap q bad V10 hR.mem)
  have k10 := X10.out.at
  unfold rptr at HFT
  clear hR hcase S10
  go_wp2_with fail
  refine HFT.out.mono ?_
  rintro e w11 ⟨rfl, rfl⟩
  clear HFT
  by_cases hx0 : bad = 0
  · subst hx0
    have HEQ : Vl (G = (0, ⟨unums m, unums p, unums h, fdsOf FL, B⟩, Z.drop q)) := by
      rcases HCASE.out with ⟨_, h1⟩ | ⟨h1, _⟩
      · exact h1
      · exact absurd rfl h1
    rw [if_neg (by omega), errW_0]
    have l0 := HR.out.mem.c1
    have hq1 := HR.out.le
    have l1 : (World.setRow V10.drew n0 #[.string m, .string p, .string h, .slice fa FL.length fc, .slice ba B.length bc]).cell? ⟨lb, 1, none⟩ = some (.int .i64 q) := (cell_setRow_other _ _ _ _ (by show lb ≠ n0; exact d1.symm)).trans l0
    have l0d : V10.drew.cell? ⟨lb, 1, none⟩ = some (.int .i64 q) := l0
    have l2 : (World.setRow V10.drew n0 #[.string m, .string p, .string h, .slice fa FL.length fc, .slice ba B.length bc]).cell? ⟨rb, 0, none⟩ = some (.pointer (some ⟨lb, 0, none⟩)) := (cell_setRow_other _ _ _ _ (by show rb ≠ n0; exact d3.symm)).trans k10
    have l2d : V10.drew.cell? ⟨rb, 0, none⟩ = some (.pointer (some ⟨lb, 0, none⟩)) := k10
    have mixed : Tryd.prog.follows Departure.mixedOrders = true := by kernel_rfl
    have YD : Vl (RB V10.drew n0 m p h (.slice fa FL.length fc) (.slice ba B.length bc)) := X10.out.q
    have HEND : Vl (∀ W, W = World.setRow V10.drew n0 #[.string m, .string p, .string h, .slice fa FL.length fc, .slice ba B.length bc] → RB W n0 m p h (.slice fa FL.length fc) (.slice ba B.length bc) ∧ Below w.heap.size w W ∧ FOwn W b6 (.slice fa FL.length fc) FL ∧ Arg W ba B.length bc B) := by
      rintro W rfl
      refine ⟨rq_row YD.out, u_below_grown (HR.out.below.drew) (row_grown _ _ _) HR.out.below.size (fun k hk => by cases hk; exact D5.out), ?_, ?_⟩
      · have ho : FOwn V10.drew b6 (.slice fa FL.length fc) FL := O10.out.kept (⟨rfl, rfl, rfl, Nat.le_refl _, fun _ _ _ => rfl⟩ : V10.grownBy V10.drew none) (by cases hv : (Value.slice fa FL.length fc).ownBlock <;> simp)
        exact World.ownsRow.kept ho (row_grown _ _ _) (Or.inr (fun e => by have := (ho.lt n0 e).1; have := HNB.out.1; omega))
      · have ho : UOwn V10.drew V8.heap.size (.slice ba B.length bc) B := A10.out.1.block (Nat.le_refl _) (fun _ _ => rfl)
        refine UOwn.arg (base := V8.heap.size) (ho.grown (row_grown _ _ _) (fun k hk e => ?_)) A10.out.2.1
        cases e
        have := (ho.base _ hk).1
        have := A10.out.2.2.1
        omega
    go_upto_region 12 with fail
    refine wp_region_any mixed ?_
    change wpAny _ _ _ _ _ _ _ (World.drew _)
    refine wpAny_cast (l' := #[false, false, false, false, false, false, false, false]) rfl ?_
    refine wpAny_ready (rs := [0, 1]) (by kernel_rfl) (by simp) ?_
    refine AllReady.cons rfl (fun K hK => ?_) (AllReady.cons rfl (fun K hK => ?_) AllReady.nil)
    refine step_rqload rfl (.tmp 2) rfl n0 m p h (.slice fa FL.length fc) (.slice ba B.length bc) rfl YD.out ?_
    go_simp
    refine hK _ _ ?_
    clear hK K
    refine wpAny_cast (l' := #[true, false, false, false, false, false, false, false]) rfl ?S0
    rotate_left
    go_simp
    refine hK _ _ ?_
    clear hK K
    refine wpAny_cast (l' := #[false, true, false, false, false, false, false, false]) rfl ?S1
    rotate_left
    refine wpAny_ready (rs := [1, 5]) (by kernel_rfl) (by simp) ?_
    refine AllReady.cons rfl (fun K hK => ?_) (AllReady.cons rfl (fun K hK => ?_) AllReady.nil)
    go_simp
    refine hK _ _ ?_
    clear hK K
    refine wpAny_cast (l' := #[true, true, false, false, false, false, false, false]) rfl ?S01
    rotate_left
    refine step_rqstore rfl (.tmp 2) (.tmp 38) rfl n0 _ _ _ m p h _ _ (.slice fa FL.length fc) (.slice ba B.length bc) rfl rfl YD.out rfl rfl ?_
    go_simp
    refine hK _ _ ?_
    clear hK K
    refine wpAny_cast (l' := #[true, false, false, false, false, true, false, false]) rfl ?S05
    rotate_left
    refine wpAny_ready (rs := [0, 2]) (by kernel_rfl) (by simp) ?_
    refine AllReady.cons rfl (fun K hK => ?_) (AllReady.cons rfl (fun K hK => ?_) AllReady.nil)
    refine step_rqload rfl (.tmp 2) rfl n0 m p h (.slice fa FL.length fc) (.slice ba B.length bc) rfl YD.out ?_
    go_simp
    refine hK _ _ ?_
    clear hK K
    refine wpAny_cast (l' := #[true, true, false, false, false, false, false, false]) rfl ?_
    exact ?S01
    go_simp
    refine hK _ _ ?_
    clear hK K
    refine wpAny_cast (l' := #[false, true, true, false, false, false, false, false]) rfl ?S12
    rotate_left
    refine wpAny_ready (rs := [2, 5]) (by kernel_rfl) (by simp) ?_
    refine AllReady.cons rfl (fun K hK => ?_) (AllReady.cons rfl (fun K hK => ?_) AllReady.nil)
    go_simp
    refine hK _ _ ?_
    clear hK K
    refine wpAny_cast (l' := #[true, true, true, false, false, false, false, false]) rfl ?S012
    rotate_left
    refine step_rqstore rfl (.tmp 2) (.tmp 38) rfl n0 _ _ _ m p h _ _ (.slice fa FL.length fc) (.slice ba B.length bc) rfl rfl YD.out rfl rfl ?_
    go_simp
    refine hK _ _ ?_
    clear hK K
    refine wpAny_cast (l' := #[true, true, false, false, false, true, false, false]) rfl ?S015
    rotate_left
    refine wpAny_ready (rs := [1]) (by kernel_rfl) (by simp) ?_
    refine AllReady.cons rfl (fun K hK => ?_) AllReady.nil
    go_simp
    refine hK _ _ ?_
    clear hK K
    refine wpAny_cast (l' := #[true, true, false, false, false, true, false, false]) rfl ?_
    exact ?S015
    refine wpAny_ready (rs := [0, 3]) (by kernel_rfl) (by simp) ?_
    refine AllReady.cons rfl (fun K hK => ?_) (AllReady.cons rfl (fun K hK => ?_) AllReady.nil)
    refine step_rqload rfl (.tmp 2) rfl n0 m p h (.slice fa FL.length fc) (.slice ba B.length bc) rfl YD.out ?_
    go_simp
    refine hK _ _ ?_
    clear hK K
    refine wpAny_cast (l' := #[true, true, true, false, false, false, false, false]) rfl ?_
    exact ?S012
    go_simp
    refine hK _ _ ?_
    clear hK K
    refine wpAny_cast (l' := #[false, true, true, true, false, false, false, false]) rfl ?S123
    rotate_left
    refine wpAny_ready (rs := [3, 5]) (by kernel_rfl) (by simp) ?_
    refine AllReady.cons rfl (fun K hK => ?_) (AllReady.cons rfl (fun K hK => ?_) AllReady.nil)
    go_simp
    refine hK _ _ ?_
    clear hK K
    refine wpAny_cast (l' := #[true, true, true, true, false, false, false, false]) rfl ?S0123
    rotate_left
    refine step_rqstore rfl (.tmp 2) (.tmp 38) rfl n0 _ _ _ m p h _ _ (.slice fa FL.length fc) (.slice ba B.length bc) rfl rfl YD.out rfl rfl ?_
    go_simp
    refine hK _ _ ?_
    clear hK K
    refine wpAny_cast (l' := #[true, true, true, false, false, true, false, false]) rfl ?S0125
    rotate_left
    refine wpAny_ready (rs := [2]) (by kernel_rfl) (by simp) ?_
    refine AllReady.cons rfl (fun K hK => ?_) AllReady.nil
    go_simp
    refine hK _ _ ?_
    clear hK K
    refine wpAny_cast (l' := #[true, true, true, false, false, true, false, false]) rfl ?_
    exact ?S0125
    refine wpAny_ready (rs := [0, 4]) (by kernel_rfl) (by simp) ?_
    refine AllReady.cons rfl (fun K hK => ?_) (AllReady.cons rfl (fun K hK => ?_) AllReady.nil)
    refine step_rqload rfl (.tmp 2) rfl n0 m p h (.slice fa FL.length fc) (.slice ba B.length bc) rfl YD.out ?_
    go_simp
    refine hK _ _ ?_
    clear hK K
    refine wpAny_cast (l' := #[true, true, true, true, false, false, false, false]) rfl ?_
    exact ?S0123
    go_simp
    refine hK _ _ ?_
    clear hK K
    refine wpAny_cast (l' := #[false, true, true, true, true, false, false, false]) rfl ?S1234
    rotate_left
    refine wpAny_ready (rs := [4, 5]) (by kernel_rfl) (by simp) ?_
    refine AllReady.cons rfl (fun K hK => ?_) (AllReady.cons rfl (fun K hK => ?_) AllReady.nil)
    go_simp
    refine hK _ _ ?_
    clear hK K
    refine wpAny_cast (l' := #[true, true, true, true, true, false, false, false]) rfl ?S01234
    rotate_left
    refine step_rqstore rfl (.tmp 2) (.tmp 38) rfl n0 _ _ _ m p h _ _ (.slice fa FL.length fc) (.slice ba B.length bc) rfl rfl YD.out rfl rfl ?_
    go_simp
    refine hK _ _ ?_
    clear hK K
    refine wpAny_cast (l' := #[true, true, true, true, false, true, false, false]) rfl ?S01235
    rotate_left
    refine wpAny_ready (rs := [3]) (by kernel_rfl) (by simp) ?_
    refine AllReady.cons rfl (fun K hK => ?_) AllReady.nil
    go_simp
    refine hK _ _ ?_
    clear hK K
    refine wpAny_cast (l' := #[true, true, true, true, false, true, false, false]) rfl ?_
    exact ?S01235
    refine wpAny_ready (rs := [0]) (by kernel_rfl) (by simp) ?_
    refine AllReady.cons rfl (fun K hK => ?_) AllReady.nil
    refine step_rqload rfl (.tmp 2) rfl n0 m p h (.slice fa FL.length fc) (.slice ba B.length bc) rfl YD.out ?_
    go_simp
    refine hK _ _ ?_
    clear hK K
    refine wpAny_cast (l' := #[true, true, true, true, true, false, false, false]) rfl ?_
    exact ?S01234
    refine wpAny_ready (rs := [5]) (by kernel_rfl) (by simp) ?_
    refine AllReady.cons rfl (fun K hK => ?_) AllReady.nil
    refine step_rqstore rfl (.tmp 2) (.tmp 38) rfl n0 _ _ _ m p h _ _ (.slice fa FL.length fc) (.slice ba B.length bc) rfl rfl YD.out rfl rfl ?_
    go_simp
    refine hK _ _ ?_
    clear hK K
    refine wpAny_cast (l' := #[true, true, true, true, true, true, false, false]) rfl ?S012345
    rotate_left
    refine wpAny_ready (rs := [4]) (by kernel_rfl) (by simp) ?_
    refine AllReady.cons rfl (fun K hK => ?_) AllReady.nil
    go_simp
    refine hK _ _ ?_
    clear hK K
    refine wpAny_cast (l' := #[true, true, true, true, true, true, false, false]) rfl ?_
    exact ?S012345
    refine wpAny_ready (rs := [6]) (by kernel_rfl) (by simp) ?_
    refine AllReady.cons rfl (fun K hK => ?_) AllReady.nil
    go_simp
    refine hK _ _ ?_
    clear hK K
    refine wpAny_cast (l' := #[true, true, true, true, true, true, true, false]) rfl ?S0123456
    rotate_left
    refine wpAny_ready (rs := [7]) (by kernel_rfl) (by simp) ?_
    refine AllReady.cons rfl (fun K hK => ?_) AllReady.nil
    go_simp
    refine hK _ _ ?_
    clear hK K
    refine wpAny_cast (l' := #[true, true, true, true, true, true, true, true]) rfl ?S01234567
    rotate_left
    refine wpAny_done (by kernel_rfl) ?_ _
    clear YD mixed l0 l1 l0d l2 l2d X10 O10
    obtain ⟨W, hW⟩ : ∃ W, W = World.setRow V10.drew n0 #[.string m, .string p, .string h, .slice fa FL.length fc, .slice ba B.length bc] := ⟨_, rfl⟩
    obtain ⟨hRW, hBW, hOW, hAW⟩ := HEND.out W hW
    rw [← hW]
    clear hW HEND
    obtain ⟨z0, z1, z2, z3, z4⟩ := hRW.cells
    simp only [Exit.then]
    refine ‹∀ (a : Act) (w : World), Code.wp _ Code.ret _ a w → _› _ _ ?_
    refine wp_ret ?_
    try simp only [Exit.then]
    change bodyPost Tryd.prog Tryd.f22 (DAskAns Z w) Exit.ret _ _
    refine bodyPost_ret (v := .tuple #[.agg #[.string m, .string p, .string h, .slice fa FL.length fc, .slice ba B.length bc], .int .i64 q, .nilIface]) (by simp [results, Tryd.results22, go_sem, z0, z1, z2, z3, z4]; try rfl) rfl ?_
    have hend : endF askP Z = (0, ⟨unums m, unums p, unums h, fdsOf FL, B⟩, (q : Int)) := by
      rw [endF_ok (HG.out.symm.trans HEQ.out), hzl]
      congr 2
      simp
      omega
    unfold DAskAns
    rw [hend]
    obtain ⟨_, hfa⟩ := nfrow_of hOW
    exact ⟨⟨m, p, h, fa, FL.length, fc, ba, B.length, bc, FL, B⟩, rfl, ⟨hfa, hAW, A10.out.2.2.2.1, ⟨by show FL.length ≤ _; omega, A10.out.2.2.2.2⟩, ⟨by show m.size ≤ _; omega, by show p.size ≤ _; omega, by show h.size ≤ _; omega⟩, fsmall_at HFS.out⟩, rfl, hBW⟩
  · obtain ⟨x, hx⟩ : ∃ x, x = if bad = 8 ∧ 20000 < len then 4 else bad := ⟨_, rfl⟩
    have hxn : x ≠ 0 := by
      rw [hx]
      split <;> omega
    have HE : Vl (endF askP Z = (x, default, 0)) := by
      rcases HCASE.out with ⟨h1, _⟩ | ⟨_, h1⟩
      · exact absurd h1 hx0
      · have hg : (askP Z).1 = bad := by rw [← HG.out]; exact h1
        unfold endF
        rw [hg, if_neg hx0, hzl, hx]
        split <;> rfl
    rw [← hx, errW_ne hxn]
    have HXN := vl hxn
    have YQ := vl X10.out.q
    clear hx hx0 hxn HCASE k10 X10
    go_wp2_with (refine wpList_rqstore _ rfl _ _ rfl n0 _ _ _ ⟨#[]⟩ ⟨#[]⟩ ⟨#[]⟩ _ _ (.slice none 0 0) (.slice none 0 0) rfl rfl YQ.out rfl rfl ?_)
    intro w12 hR hg12
    have HB12 : Vl (Below w.heap.size w w12) := u_below_grown HR.out.below hg12 HR.out.below.size (fun k hk => by cases hk; exact D5.out)
    obtain ⟨z0, z1, z2, z3, z4⟩ := hR.cells
    clear hR hg12 YQ O10 HR
    go_simp
    refine wpList_plain rfl fun K hK => ?_
    go_simp
    refine hK _ _ ?_
    clear hK K
    refine wpList_plain rfl fun K hK => ?_
    go_simp
    refine hK _ _ ?_
    clear hK K
    simp only [wpList, Exit.then]
    refine ‹∀ (a : Act) (w : World), Code.wp _ Code.ret _ a w → _› _ _ ?_
    refine wp_ret ?_
    try simp only [Exit.then]
    change bodyPost Tryd.prog Tryd.f22 (DAskAns Z w) Exit.ret _ _
    refine bodyPost_ret (v := .tuple #[.agg #[.string ⟨#[]⟩, .string ⟨#[]⟩, .string ⟨#[]⟩, .slice none 0 0, .slice none 0 0], .int .i64 0, .iface 58 (.int .i64 x)]) (by simp [results, Tryd.results22, go_sem, z0, z1, z2, z3, z4]; try rfl) rfl ?_
    unfold DAskAns
    rw [HE.out]
    exact ⟨⟨⟨#[]⟩, ⟨#[]⟩, ⟨#[]⟩, none, 0, 0, none, 0, 0, [], []⟩, by rw [errW_ne HXN.out]; rfl, ⟨Or.inl ⟨rfl, rfl⟩, Or.inl ⟨rfl, rfl⟩, fun _ => ⟨rfl, rfl⟩, ⟨Nat.zero_le _, Nat.zero_le _⟩, ⟨Nat.zero_le _, Nat.zero_le _, Nat.zero_le _⟩, fun t => ⟨Nat.zero_le _, Nat.zero_le _⟩⟩, rfl, HB12.out⟩
theorem nreadask_any : NReadAskSaid nld := fun a len cap Z w _ hA hnil hl => nreadask_ans a len cap Z w hA hnil hl
end Go.Proofs.YtgjolljhjagngafDoor
