/-
  FROM THE ONE TO THE OTHER: the developers' Reply. No claim by itself.
-/
import Derived.Test.YtglmppadhlkkgagGreatDoorYrcX
import Derived.Test.YtglmppadhlkkgagGreatDoorG11
import Derived.Test.YtglmppadhlkkgagGreatDoorNcloneX
import Derived.Test.YtglmppadhlkkgagGreatDoorYstX
namespace Go.Proofs.YtglmppadhlkkgagGreatDoor
open Go Go.RowKit Go.Maps
set_option maxRecDepth 100000
theorem reply_no {l : List Fd} {B : List Int} (h : ¬ LeadOk [codeP] l) : replyW l B = (3, default) := by
  unfold replyW
  cases l with
  | nil => rfl
  | cons f r =>
    have : f.1 ≠ codeP ∨ r.any (fun g => psdL g.1) = true := by
      by_cases h1 : f.1 = codeP
      · right
        cases h2 : r.any (fun g => psdL g.1) with
        | true => rfl
        | false => exact absurd (lead_one.2 ⟨f, r, rfl, h1, h2⟩) h
      · exact Or.inl h1
    show (if _ then _ else _) = _
    rw [if_pos this]
theorem reply_yes {f : Fd} {r : List Fd} {B : List Int} (h : LeadOk [codeP] (f :: r)) : replyW (f :: r) B = match code3 f.2 with
    | none => (2, default)
    | some c => if tellE ⟨c, r.filter fun g => !isLn g, B⟩ 0 = 0 then (0, ⟨c, r.filter fun g => !isLn g, B⟩) else (tellE ⟨c, r.filter fun g => !isLn g, B⟩ 0, default) := by
  obtain ⟨x, y, he, h1, h2⟩ := lead_one.1 h
  cases he
  unfold replyW
  show (if _ then _ else _) = _
  rw [if_neg (fun e => by
    rcases e with e | e
    · exact e h1
    · rw [h2] at e; cases e)]
  rfl
theorem rp_zero (w : World) : RpIn w ⟨0, none, 0, 0, none, 0, 0, [], []⟩ := ⟨by show I64 0; unfold I64; omega, Or.inl ⟨rfl, rfl⟩, Or.inl ⟨rfl, rfl⟩, fun _ => ⟨rfl, rfl⟩, ⟨Nat.zero_le _, Nat.zero_le _⟩, fun t => ⟨Nat.zero_le _, Nat.zero_le _⟩⟩
theorem farg_tail {w : World} {g off len cap : Nat} {L : List (ByteArray × ByteArray)} (h : FRow w g off len cap L) (k : Nat) (hk : k ≤ len) : FArg w (some ⟨g, off + k * 2, none⟩) (len - k) (cap - k) (L.drop k) := by
  refine Or.inr ⟨g, off + k * 2, rfl, ?_⟩
  have hget : ∀ t, (L.drop k).getD t fnone = L.getD (k + t) fnone := fun t => by simp [List.getD, List.getElem?_drop]
  refine ⟨by rw [List.length_drop, h.hlen], by have := h.hcap; omega, by have := h.hmax; omega, fun t ht => ?_, fun t ht => ?_⟩
  · have := h.hname (k + t) (by omega)
    rw [hget, show off + k * 2 + t * 2 = off + (k + t) * 2 by omega]
    exact this
  · have := h.hvalue (k + t) (by omega)
    rw [hget, show off + k * 2 + t * 2 + 1 = off + (k + t) * 2 + 1 by omega]
    exact this
theorem filt_small {L : List (ByteArray × ByteArray)} {p : ByteArray × ByteArray → Bool} {M : Nat} (h : ∀ t, (L.getD t fnone).1.size ≤ M ∧ (L.getD t fnone).2.size ≤ M) : ∀ t, ((L.filter p).getD t fnone).1.size ≤ M ∧ ((L.filter p).getD t fnone).2.size ≤ M := fun t => by
  by_cases ht : t < (L.filter p).length
  · have hm : (L.filter p).getD t fnone ∈ L := by
      rw [List.getD, List.getElem?_eq_getElem ht]
      exact (List.mem_filter.1 (List.getElem_mem _)).1
    obtain ⟨i, hi, he⟩ := List.getElem_of_mem hm
    have := h i
    rwa [List.getD, List.getElem?_eq_getElem hi, Option.getD_some, he] at this
  · rw [List.getD, List.getElem?_eq_none (by omega)]
    simp [fnone]
theorem uown_none {w : World} {base xc : Nat} {xa : Option Addr} {L : List Int} (h : UOwn w base (.slice xa L.length xc) L) (e : xa = none) : L.length = 0 ∧ xc = 0 := by
  rcases h with ⟨hv, hl⟩ | ⟨g, cap, hv, _⟩
  · injection hv with _ _ h3
    exact ⟨by rw [hl]; rfl, h3⟩
  · injection hv with h1
    rw [e] at h1
    cases h1
theorem farg_grown {w w' : World} {a : Option Addr} {len cap x : Nat} {L : List (ByteArray × ByteArray)} (h : FArg w a len cap L) (hg : w.grownBy w' (some x)) (hx : ∀ g off, a = some ⟨g, off, none⟩ → g ≠ x) : FArg w' a len cap L := by
  rcases h with h | ⟨g, off, ha, hr⟩
  · exact Or.inl h
  · have hne := hx g off ha
    have hc : ∀ o v, w.cell? ⟨g, o, none⟩ = some v → w'.cell? ⟨g, o, none⟩ = some v := fun o v hv => by
      have hlt : g < w.heap.size := by
        rcases Nat.lt_or_ge g w.heap.size with h1 | h1
        · exact h1
        · simp [World.cell?, Array.getElem?_eq_none h1] at hv
      exact (World.cell?_of_block (a := ⟨g, o, none⟩) (hg.block g hlt (fun e => hne (Option.some.inj e)))).trans hv
    exact Or.inr ⟨g, off, ha, hr.hlen, hr.hcap, hr.hmax, fun t ht => hc _ _ (hr.hname t ht), fun t ht => hc _ _ (hr.hvalue t ht)⟩
theorem arg_grown {w w' : World} {a : Option Addr} {len cap x : Nat} {Z : List Int} (h : Arg w a len cap Z) (hg : w.grownBy w' (some x)) (hx : ∀ g off, a = some ⟨g, off, none⟩ → g ≠ x) : Arg w' a len cap Z := by
  rcases h with h | ⟨g, off, ha, hr⟩
  · exact Or.inl h
  · have hne := hx g off ha
    refine Or.inr ⟨g, off, ha, hr.hlen, hr.hcap, hr.hmax, fun t ht => ?_, hr.hbyte⟩
    have hv := hr.hcell t ht
    have hlt : g < w.heap.size := by
      rcases Nat.lt_or_ge g w.heap.size with h1 | h1
      · exact h1
      · simp [World.cell?, Array.getElem?_eq_none h1] at hv
    exact (World.cell?_of_block (a := ⟨g, off + t, none⟩) (hg.block g hlt (fun e => hne (Option.some.inj e)))).trans hv
theorem rp_grown {w w' : World} {q : RpM} {x : Nat} (h : RpIn w q) (hg : w.grownBy w' (some x)) (h1 : ∀ g off, q.fa = some ⟨g, off, none⟩ → g ≠ x) (h2 : ∀ g off, q.ba = some ⟨g, off, none⟩ → g ≠ x) : RpIn w' q :=
  ⟨h.code, farg_grown h.fields hg h1, arg_grown h.body hg h2, h.nil, h.most, h.each⟩
def ReplyE (L : List (ByteArray × ByteArray)) (B : List Int) (w : World) (e : Ending) (w' : World) : Prop :=
  ∃ q : RpM, e = .returned (.tuple #[q.val, errW (replyW (fdsOf L) B).1]) ∧ RpIn w' q ∧ q.rp = (replyW (fdsOf L) B).2 ∧ Below w.heap.size w w'
set_option maxHeartbeats 4000000 in
theorem xreply_any (a : Option Addr) (len cap : Nat) (L : List (ByteArray × ByteArray)) (ba : Option Addr) (bn bc : Nat) (B : List Int) (w : World) (hd : xld.P w) (he : erP w) (hA : FArg w a len cap L) (hl : len ≤ 4194304) (hs : ∀ t, (L.getD t fnone).1.size ≤ 140737488351232 ∧ (L.getD t fnone).2.size ≤ 140737488351232)
    (hB : Arg w ba bn bc B) (hnil : ba = none → bn = 0 ∧ bc = 0) (hbn : bn ≤ 140737488351232) :
    Calls Tryz.prog 18 #[.slice a len cap, .slice ba bn bc] w fun e w' => ReplyE L B w e w' := by
  have HD := vl hd
  have HE := vl he
  have HA := vl hA
  have HS := vl hs
  have HBB := vl hB
  clear hd he hA hs hB
  obtain ⟨W0, hW0⟩ : ∃ x, w.alloc (.cells #[.int .i64 0, .slice none 0 0, .slice none 0 0] 27) = x := ⟨_, rfl⟩
  obtain ⟨W1, hW1⟩ : ∃ x, W0.alloc (.cells #[.string ⟨#[58, 99, 111, 100, 101]⟩] 9) = x := ⟨_, rfl⟩
  have HP0 : Vl (RPB W0 w.heap.size 0 (.slice none 0 0) (.slice none 0 0)) := vl (by rw [← hW0]; exact heap_alloc_new w _)
  have hs0 : W0.heap.size = w.heap.size + 1 := by rw [← hW0]; simp
  have hb1 : Below W0.heap.size W0 W1 := by rw [← hW1]; exact (Below.refl _ W0).alloc (Nat.le_refl _) _
  have hs1 : W1.heap.size = W0.heap.size + 1 := by rw [← hW1]; simp
  have HP1 := vl (HP0.out.on hb1)
  have hbw0 : Below w.heap.size w W0 := by rw [← hW0]; exact (Below.refl _ w).alloc (Nat.le_refl _) _
  have HBW1 : Vl (Below w.heap.size w W1) := vl (hbw0.trans (hb1.mono (by omega)))
  have HN1 : Vl (Pcs W1 W0.heap.size [⟨#[58, 99, 111, 100, 101]⟩]) := vl (by rw [← hW1]; exact Pcs.made W0 [⟨#[58, 99, 111, 100, 101]⟩])
  have HL := vl (xlead_any a len cap L W0.heap.size [⟨#[58, 99, 111, 100, 101]⟩] W1 (HA.out.below HBW1.out) HN1.out (by simp) (by intro x hx; simp at hx; rw [hx]; decide) (by simp) (by omega) (fun t => (HS.out t).1))
  have hsL : w.heap.size < W1.heap.size := by omega
  clear hbw0 hb1 hs0 hs1
  go_enter Tryz.func18, Tryz.ntmps18
  go_wp2_with fail
  refine HL.out.mono ?_
  rintro e w2 hE
  rcases hE with ⟨mb, c, D, rfl, hok, _, _, _, hb2⟩ | ⟨v, rfl, hno, hb2⟩
  · have HOK : Vl (LeadOk [codeP] (fdsOf L)) := vl hok
    have HB2 := vl (HBW1.out.trans (hb2.mono (Nat.le_of_lt hsL)))
    have HPP := vl (HP1.out.on hb2)
    have hsw : w.heap.size ≤ w2.heap.size := HB2.out.size
    have hswl : w.heap.size < w2.heap.size := Nat.lt_of_lt_of_le hsL hb2.size
    have hlen := HA.out.len
    have hpos : 0 < len := by
      obtain ⟨x, y, he, _⟩ := lead_one.1 HOK.out
      have := congrArg List.length he
      rw [fds_len] at this
      simp at this
      omega
    have hpos' : (0 : Int) < (len : Int) := by omega
    rcases HA.out.below HB2.out with ⟨h0, _⟩ | ⟨g, off, ea, hr⟩
    · omega
    subst ea
    have hcap := hr.hcap
    have hmax := hr.hmax
    unfold maxLen at hmax
    have c2 := hr.hvalue 0 hpos
    simp only [Nat.zero_mul, Nat.add_zero] at c2
    have HRC := vl (xrc_any (L.getD 0 fnone).2 (HS.out 0).2 w2 (HE.out.below HB2.out))
    have HY := vl (fun f r (e : fdsOf L = f :: r) => reply_yes (B := B) (e ▸ HOK.out))
    have HLE : Vl (fdsOf L = (unums (L.getD 0 fnone).1, unums (L.getD 0 fnone).2) :: fdsOf (L.drop 1)) := vl (by
      cases L with
      | nil => simp at hlen; omega
      | cons x y => rfl)
    have HYE := vl (HY.out _ _ HLE.out)
    rw [← HLE.out] at HYE
    have HTL : Vl (FArg w2 (some ⟨g, off + 2, none⟩) (len - 1) (cap - 1) (L.drop 1)) := vl (farg_tail hr 1 hpos)
    have HSD : Vl (∀ t, ((L.drop 1).getD t fnone).1.size ≤ 140737488351232 ∧ ((L.drop 1).getD t fnone).2.size ≤ 140737488351232) := vl (fun t => by
      have : (L.drop 1).getD t fnone = L.getD (1 + t) fnone := by simp [List.getD, Nat.add_comm]
      rw [this]
      exact HS.out (1 + t))
    generalize (L.getD 0 fnone).2 = s0 at *
    clear hok hb2 hW0 hW1 HL HP1 HP0 HN1 HBW1 HY hr
    go_wp2_with fail
    refine HRC.out.mono ?_
    rintro e w3 ⟨v, b, rfl, hb3, hcase⟩
    have HB3 := vl (HB2.out.trans (hb3.mono hsw))
    have HPP3 := vl (HPP.out.on hb3)
    have hsw3 : w.heap.size ≤ w3.heap.size := HB3.out.size
    have hswm : w.heap.size < w3.heap.size := Nat.lt_of_lt_of_le hswl hb3.size
    have HTL3 := vl (HTL.out.below hb3)
    have HLN0 : Vl (len ≤ 1 → FArg w3 (some ⟨g, off, none⟩) (len - 1) 0 (L.drop 1)) := vl (fun h => Or.inl ⟨by omega, List.eq_nil_of_length_eq_zero (by rw [List.length_drop]; omega)⟩)
    clear HRC hb3 HPP HB2 c2 HTL
    rcases hcase with ⟨rfl, hc3⟩ | ⟨rfl, hc3⟩
    · have hone : ¬ (len : Int) < 1 := by omega
      have hone' : (1 : Int) ≤ (len : Int) := by omega
      rw [hc3] at HYE
      have HYW : Vl (replyW (fdsOf L) B = if tellE ⟨v, (fdsOf (L.drop 1)).filter fun g => !isLn g, B⟩ 0 = 0 then (0, ⟨v, (fdsOf (L.drop 1)).filter fun g => !isLn g, B⟩) else (tellE ⟨v, (fdsOf (L.drop 1)).filter fun g => !isLn g, B⟩ 0, default)) := vl HYE.out
      have HFF := vl (fds_filter (L.drop 1) isLn)
      have hfl : ((L.drop 1).filter (kpF isLn)).length ≤ 4194304 := Nat.le_trans (List.length_filter_le _ _) (by rw [List.length_drop]; omega)
      have HFE : Vl (∀ t, (((L.drop 1).filter (kpF isLn)).getD t fnone).1.size ≤ 140737488351232 ∧ (((L.drop 1).filter (kpF isLn)).getD t fnone).2.size ≤ 140737488351232) := vl (filt_small HSD.out)
      have hcb : I64 v := by
        obtain ⟨_, h1, h2, _⟩ := code_yes (l := s0.data.toList) hc3
        unfold I64
        omega
      have HCB := vl hcb
      rw [← HFF.out] at HYW
      clear hc3 HYE hcb HFF
      go_wp2_with fail
      all_goals
        refine (xwo_any _ _ _ (L.drop 1) _ isLn w3 (by first | exact HTL3.out | exact HLN0.out (by omega)) (by omega) (fun t => (HSD.out t).1) (prd_len _)).mono ?_
        rintro e w4 ⟨vf, rfl, ho4, hb4⟩
        generalize (L.drop 1).filter (kpF isLn) = GL at *
        obtain ⟨fa, fc, rfl⟩ := fown_shape ho4
        have HB4 := vl (HB3.out.trans (hb4.mono hsw3))
        have HO4 := vl ho4
        have HPP4 := vl (HPP3.out.on hb4)
        have hsw4 : w3.heap.size ≤ w4.heap.size := hb4.size
        have HCLN := vl (clone_arg ba bn bc B w4 (HBB.out.below HB4.out) (fun e => (hnil e).1) (by omega))
        clear ho4 hb4
        go_wp2_with fail
        refine HCLN.out.mono ?_
        rintro e w5 ⟨vb, rfl, ho5, hb5⟩
        obtain ⟨xa, xc, rfl, _⟩ := ho5.slice
        have HBY := vl (HBB.out.bytes)
        have HLB := vl (HBB.out.len)
        have hbl : B.length ≤ 140737488351232 := by have := HLB.out; omega
        have HXN : Vl (xa = none → B.length = 0 ∧ xc = 0) := vl (uown_none ho5)
        have HB5 := vl (HB4.out.trans (hb5.mono (by omega)))
        have HPP5 := vl (HPP4.out.on hb5)
        have hsw5 : w4.heap.size ≤ w5.heap.size := hb5.size
        have HO5 := vl (fown_below HO4.out hb5)
        have HU5 := vl ho5
        have HFN : Vl (∀ g off, fa = some ⟨g, off, none⟩ → g ≠ w.heap.size) := vl (fun g off e => by
          have := (HO5.out.lt g (by rw [e]; rfl)).1
          omega)
        have HBN : Vl (∀ g off, xa = some ⟨g, off, none⟩ → g ≠ w.heap.size) := vl (fun g off e => by
          have := (HU5.out.base g (by rw [e]; rfl)).1
          omega)
        obtain ⟨W6, hW6⟩ : ∃ x, w5.alloc (.cells #[.int .i64 v, .slice fa GL.length fc, .slice xa B.length xc] 27) = x := ⟨_, rfl⟩
        have hb6 : Below w5.heap.size w5 W6 := by rw [← hW6]; exact (Below.refl _ w5).alloc (Nat.le_refl _) _
        have HQ6 : Vl (RPB W6 w5.heap.size v (.slice fa GL.length fc) (.slice xa B.length xc)) := vl (by rw [← hW6]; exact heap_alloc_new w5 _)
        have HB6 := vl (HB5.out.trans (hb6.mono (by omega)))
        have HPP6 := vl (HPP5.out.on hb6)
        have hsw6 : w5.heap.size ≤ W6.heap.size := hb6.size
        have hsx : w5.heap.size < W6.heap.size := HQ6.out.lt
        have HIN : Vl (RpIn W6 ⟨v, fa, GL.length, fc, xa, B.length, xc, GL, B⟩) := vl ⟨HCB.out, (nfrow_of (fown_below HO5.out hb6)).2, UOwn.arg (HU5.out.below hb6) HBY.out, HXN.out, ⟨by show GL.length ≤ _; omega, hbl⟩, HFE.out⟩
        have HTE := vl (ntell_any ⟨v, fa, GL.length, fc, xa, B.length, xc, GL, B⟩ 0 W6 (HD.out.1.below HB6.out) HIN.out (by unfold I64; omega))
        obtain ⟨te, hte⟩ : ∃ x, tellE ⟨v, fdsOf GL, B⟩ 0 = x := ⟨_, rfl⟩
        have HTE' : Vl (Calls Tryz.prog 54 #[.agg #[.int .i64 v, .slice fa GL.length fc, .slice xa B.length xc], .int .i64 0] W6 fun e w' => ∃ v', e = .returned (.tuple #[v', errW te]) ∧ UOwn w' W6.heap.size v' (tellOut ⟨v, fdsOf GL, B⟩ 0) ∧ Below W6.heap.size W6 w') := vl (by rw [← hte]; exact HTE.out)
        rw [hte] at HYW
        obtain ⟨x0, x1, x2⟩ := HQ6.out.cells
        clear HTE hte ho5 hb5 hb6 HCLN HB4 HB5 HPP4 HPP5 HO4 HU5 HB3 HPP3
        go_wp2_with fail
        refine HTE'.out.mono ?_
        rintro e w7 ⟨v7, rfl, _, hb7⟩
        have HB7 := vl (HB6.out.trans (hb7.mono (by omega)))
        have HPP7 := vl (HPP6.out.on hb7)
        have HQ7 := vl (HQ6.out.on hb7)
        have HIN7 := vl (HIN.out.below hb7)
        have hsw7 : w.heap.size ≤ w7.heap.size := HB7.out.size
        clear HTE' hb7 HB6 HPP6 HQ6 HIN hW6 x0 x1 x2
        by_cases ht0 : te = 0
        · subst ht0
          rw [errW_zero]
          rw [if_pos rfl] at HYW
          obtain ⟨y0, y1, y2⟩ := HQ7.out.cells
          go_wp2_with (refine wpList_rpstore _ rfl _ _ rfl w.heap.size _ v _ _ (.slice fa GL.length fc) (.slice xa B.length xc) rfl rfl HPP7.out rfl rfl ?_)
          intro w8 hR hg8
          have HB8 : Vl (Below w.heap.size w w8) := vl (below_grown HB7.out hg8 hsw7 (fun k hk => by cases hk; exact Nat.le_refl _))
          obtain ⟨z0, z1, z2⟩ := hR.cells
          have HIN8 : Vl (RpIn w8 ⟨v, fa, GL.length, fc, xa, B.length, xc, GL, B⟩) := vl (rp_grown HIN7.out hg8 HFN.out HBN.out)
          clear hR hg8 HPP7 HB7
          go_wp2_with fail
          refine bodyPost_ret (v := .tuple #[.agg #[.int .i64 v, .slice fa GL.length fc, .slice xa B.length xc], .nilIface]) (by simp [results, Tryz.results18, go_sem, z0, z1, z2]; try rfl) rfl ?_
          unfold ReplyE
          rw [HYW.out]
          exact ⟨⟨v, fa, GL.length, fc, xa, B.length, xc, GL, B⟩, rfl, HIN8.out, rfl, HB8.out⟩
        · have HEW : Vl (errW te = .iface 88 (.int .i64 te)) := vl (if_neg ht0)
          rw [HEW.out]
          rw [if_neg ht0] at HYW
          go_wp2_with (refine wpList_rpstore _ rfl _ _ rfl w.heap.size _ 0 _ _ (.slice none 0 0) (.slice none 0 0) rfl rfl HPP7.out rfl rfl ?_)
          intro w8 hR hg8
          have HB8 : Vl (Below w.heap.size w w8) := vl (below_grown HB7.out hg8 hsw7 (fun k hk => by cases hk; exact Nat.le_refl _))
          obtain ⟨z0, z1, z2⟩ := hR.cells
          clear hR hg8 HPP7 HB7
          go_wp2_with fail
          refine bodyPost_ret (v := .tuple #[.agg #[.int .i64 0, .slice none 0 0, .slice none 0 0], .iface 88 (.int .i64 te)]) (by simp [results, Tryz.results18, go_sem, z0, z1, z2]; try rfl) rfl ?_
          unfold ReplyE
          rw [HYW.out]
          exact ⟨⟨0, none, 0, 0, none, 0, 0, [], []⟩, by rw [HEW.out]; rfl, rp_zero _, rfl, HB8.out⟩
    · rw [hc3] at HYE
      have HW : Vl (replyW (fdsOf L) B = (2, default)) := vl HYE.out
      clear hc3 HYE
      go_wp2_with (refine wpList_rpstore _ rfl _ _ rfl w.heap.size _ 0 _ _ (.slice none 0 0) (.slice none 0 0) rfl rfl HPP3.out rfl rfl ?_)
      intro w4 hR hg4
      have HB4 : Vl (Below w.heap.size w w4) := vl (below_grown HB3.out hg4 hsw3 (fun k hk => by cases hk; exact Nat.le_refl _))
      obtain ⟨z0, z1, z2⟩ := hR.cells
      clear hR hg4 HPP3 HB3
      go_wp2_with fail
      refine bodyPost_ret (v := .tuple #[.agg #[.int .i64 0, .slice none 0 0, .slice none 0 0], .iface 88 (.int .i64 2)]) (by simp [results, Tryz.results18, go_sem, z0, z1, z2]; try rfl) rfl ?_
      unfold ReplyE
      rw [HW.out]
      exact ⟨⟨0, none, 0, 0, none, 0, 0, [], []⟩, rfl, rp_zero _, rfl, HB4.out⟩
  · have HNO := vl hno
    have HB2 := vl (HBW1.out.trans (hb2.mono (by omega)))
    have HPP := vl (HP1.out.on hb2)
    have hsw : w.heap.size ≤ w2.heap.size := HB2.out.size
    clear hno hb2 hW0 hW1 HL HP1 HP0 HN1 HBW1
    go_wp2_with (refine wpList_rpstore _ rfl _ _ rfl w.heap.size _ 0 _ _ (.slice none 0 0) (.slice none 0 0) rfl rfl HPP.out rfl rfl ?_)
    intro w3 hR hg3
    have HB3 : Vl (Below w.heap.size w w3) := vl (below_grown HB2.out hg3 hsw (fun k hk => by cases hk; exact Nat.le_refl _))
    obtain ⟨z0, z1, z2⟩ := hR.cells
    clear hR hg3 HPP HB2
    go_wp2_with fail
    refine bodyPost_ret (v := .tuple #[.agg #[.int .i64 0, .slice none 0 0, .slice none 0 0], .iface 88 (.int .i64 3)]) (by simp [results, Tryz.results18, go_sem, z0, z1, z2]; try rfl) rfl ?_
    have HW : replyW (fdsOf L) B = (3, default) := reply_no HNO.out
    unfold ReplyE
    rw [HW]
    exact ⟨⟨0, none, 0, 0, none, 0, 0, [], []⟩, rfl, rp_zero _, rfl, HB3.out⟩
end Go.Proofs.YtglmppadhlkkgagGreatDoor
