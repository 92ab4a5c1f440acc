/-
  FROM THE ONE TO THE OTHER: FieldsBack, over what the developers' functions do. No claim by itself.
-/
import Derived.Deep.DeepCutAuto
import Derived.Deep.CutBlock
import Derived.Test.YtdlaaollamgplagGreatDoorYjcX
import Derived.Test.YtdlaaollamgplagGreatDoorYreX
import Derived.Test.YtdlaaollamgplagGreatDoorYteX
namespace Go.Proofs.YtdlaaollamgplagGreatDoor
open Go Go.RowKit Go.Maps
set_option maxRecDepth 100000
def AskE' (L : List (ByteArray × ByteArray)) (B : List Int) (w : World) (e : Ending) (w' : World) : Prop :=
  ∃ q : RqM, e = .returned (.tuple #[q.val, errW (askW (fdsOf L) B).1]) ∧ RqIn w' q ∧ q.rq = (askW (fdsOf L) B).2 ∧ Below w.heap.size w w'
/-- What is asked of the developers' Ask. -/
def XAskSaid : Prop := ∀ (a : Option Addr) (len cap : Nat) (L : List (ByteArray × ByteArray)) (ba : Option Addr) (bn bc : Nat) (B : List Int) (w : World), xld.P w → FArg w a len cap L → len ≤ 4194304 → VOk L →
    Arg w ba bn bc B → (ba = none → bn = 0 ∧ bc = 0) → bn ≤ 100000 → Calls Tryz.prog 13 #[.slice a len cap, .slice ba bn bc] w fun e w' => AskE' L B w e w'
def factQ (g : Nat) : RqM := ⟨⟨#[71, 69, 84]⟩, ⟨#[47]⟩, ⟨#[104]⟩, some ⟨g, 0, none⟩, 1, 1, none, 0, 0, [(⟨#[99, 111, 111, 107, 105, 101]⟩, ⟨#[97, 59, 32, 98]⟩)], []⟩
theorem factQ_list (g : Nat) : listW (factQ g).rq = (0, [(methodP, [71, 69, 84]), (pathP, [47]), (hostP, [104]), (cookieN, [97]), (cookieN, [98])]) := by
  have : (factQ g).rq = ⟨[71, 69, 84], [47], [104], [(cookieN, [97, 59, 32, 98])], []⟩ := rfl
  rw [this]
  decide
theorem RqIn.big {w w' : World} {q : RqM} (h : RqIn w q) (hb : Below w.heap.size w w') : RqIn w' q := h.below hb
theorem list_len {q : RqM} {w : World} (h : RqIn w q) (he : askE q.rq = 0) : q.fn ≤ 40 ∧ q.bn ≤ 8000 ∧ (∀ t, (q.FL.getD t fnone).1.size ≤ 400 ∧ (q.FL.getD t fnone).2.size ≤ 400) := by
  obtain ⟨h1, h2, _⟩ := ask_ok he
  refine ⟨?_, ?_, flds_small (ask_flds he)⟩
  · have h3 : (fdsOf q.FL).length ≤ 40 := h1
    rw [fds_len, h.fields.len] at h3
    exact h3
  · have h3 : q.B.length ≤ 8000 := h2
    rw [h.body.len] at h3
    exact h3
theorem unums_b {x : ByteArray} (h : unums x = [98]) : x.toList = [98] := toL_lit.2 h
theorem dec_len (n : Nat) : (decL n).length ≤ n + 1 := by
  induction n using Nat.strongRecOn with
  | _ n ih =>
    rw [decL]
    split
    · simp
    · have := ih (n / 10) (by omega)
      rw [List.length_append, List.length_singleton]
      omega
theorem tell_small {p : RpM} {F : List (ByteArray × ByteArray)} (h : tellE p.rp 0 = 0) (hf : fdsOf F = (tellW p.rp).2) : F.length ≤ 4194304 ∧ ∀ t, (F.getD t fnone).1.size ≤ 140737488351232 ∧ (F.getD t fnone).2.size ≤ 140737488351232 := by
  obtain ⟨h1, h2, h3, h4, h5⟩ := tell_ok' h
  have hw : (tellW p.rp).2 = (codeP, decL p.rp.code.toNat) :: (cleanL p.rp.fields ++ if noBody false p.rp.code = true then [] else [(lengthN, decL p.rp.body.length)]) := by unfold tellW; rw [if_pos h]
  have hcl : (cleanL p.rp.fields).length ≤ 40 := Nat.le_trans (List.length_filter_le _ _) h1
  have hlen : F.length ≤ 42 := by
    rw [← fds_len, hf, hw]
    simp only [List.length_cons, List.length_append]
    split <;> simp <;> omega
  refine ⟨by omega, fun t => ?_⟩
  by_cases ht : t < F.length
  · have hm : (unums (F.getD t fnone).1, unums (F.getD t fnone).2) ∈ fdsOf F := List.mem_of_getElem? (fds_get ht)
    rw [hf, hw] at hm
    have key : (unums (F.getD t fnone).1).length ≤ 140737488351232 ∧ (unums (F.getD t fnone).2).length ≤ 140737488351232 := by
      rcases List.mem_cons.1 hm with hm | hm
      · injection hm with a b
        rw [a, b]
        have := dec_len p.rp.code.toNat
        exact ⟨by decide, by omega⟩
      · rcases List.mem_append.1 hm with hm | hm
        · have hmf := (List.mem_filter.1 hm).1
          have h0 := flds_each h5 _ hmf
          unfold fldE at h0
          split at h0
          · rename_i hx
            have a := (name_small hx.1).2.1
            have b := (plain_ok hx.2).1
            exact ⟨Nat.le_trans a (by decide), Nat.le_trans b (by decide)⟩
          · cases h0
        · split at hm
          · cases hm
          · rw [List.mem_singleton] at hm
            injection hm with a b
            rw [a, b]
            have := dec_len p.rp.body.length
            exact ⟨by decide, by omega⟩
    rw [unums_len, unums_len] at key
    exact key
  · rw [List.getD, List.getElem?_eq_none (by omega)]
    simp [fnone]
theorem ask_texts {r : Rq} (h : askE r = 0) : r.method.length ≤ 400 ∧ r.path.length ≤ 400 ∧ r.host.length ≤ 400 := by
  obtain ⟨_, _, h3, h4, h5, _⟩ := ask_ok h
  refine ⟨(tok_ok h3).2.1, ?_, (plain_ok h5).1⟩
  unfold wordL at h4
  simp only [Bool.and_eq_true] at h4
  exact (plain_ok h4.1.2).1
theorem list_small {q : RqM} {F : List (ByteArray × ByteArray)} (hf : fdsOf F = listL q.rq) (hn : q.fn ≤ 40) (hs : ∀ t, (q.FL.getD t fnone).1.size ≤ 400 ∧ (q.FL.getD t fnone).2.size ≤ 400) (hl : q.FL.length = q.fn) (ht : q.rq.method.length ≤ 400 ∧ q.rq.path.length ≤ 400 ∧ q.rq.host.length ≤ 400) : F.length ≤ 4194304 ∧ VOk F := by
  have hv : ∀ f ∈ fdsOf q.FL, f.1.length ≤ 400 ∧ f.2.length ≤ 400 := fun f hf => by
    obtain ⟨x, hx, rfl⟩ := List.mem_map.1 hf
    obtain ⟨i, hi, rfl⟩ := List.getElem_of_mem hx
    have := hs i
    rw [List.getD, List.getElem?_eq_getElem hi] at this
    show (unums _).length ≤ _ ∧ (unums _).length ≤ _
    rw [unums_len, unums_len]
    exact this
  have hpl := pcs_len (fdsOf q.FL) 400 (fun f hf => (hv f hf).2)
  have hll : (fdsOf q.FL).length ≤ 40 := by rw [fds_len, hl]; exact hn
  have hp2 : (fdsOf q.FL).length * (400 + 1) ≤ 40 * 401 := Nat.mul_le_mul_right _ hll
  have hlen : F.length ≤ 16043 := by
    rw [← fds_len, hf]
    show ([(methodP, q.rq.method), (pathP, q.rq.path), (hostP, q.rq.host)] ++ (fdsOf q.FL).flatMap pcsL).length ≤ _
    rw [List.length_append]
    have : [(methodP, q.rq.method), (pathP, q.rq.path), (hostP, q.rq.host)].length = 3 := rfl
    omega
  refine ⟨by omega, fun t => ?_⟩
  by_cases h : t < F.length
  · have hm : (unums (F.getD t fnone).1, unums (F.getD t fnone).2) ∈ fdsOf F := List.mem_of_getElem? (fds_get h)
    rw [hf] at hm
    have key : (unums (F.getD t fnone).1).length ≤ 400 ∧ (unums (F.getD t fnone).2).length ≤ 400 := by
      rcases List.mem_append.1 hm with hm | hm
      · simp only [List.mem_cons, List.not_mem_nil, or_false] at hm
        rcases hm with hm | hm | hm
        · injection hm with a b
          rw [a, b]
          exact ⟨by decide, ht.1⟩
        · injection hm with a b
          rw [a, b]
          exact ⟨by decide, ht.2.1⟩
        · injection hm with a b
          rw [a, b]
          exact ⟨by decide, ht.2.2⟩
      · obtain ⟨f, hf1, hf2⟩ := List.mem_flatMap.1 hm
        have hvf := hv f hf1
        unfold pcsL at hf2
        split at hf2
        · obtain ⟨x, hx, he⟩ := List.mem_map.1 hf2
          injection he with a b
          rw [← a, ← b]
          exact ⟨by decide, Nat.le_trans (pc_size hx) hvf.2⟩
        · rw [List.mem_singleton] at hf2
          rw [← hf2] at hvf
          exact hvf
    rw [unums_len, unums_len] at key
    exact ⟨by omega, by omega⟩
  · rw [List.getD, List.getElem?_eq_none (by omega)]
    simp [fnone]
theorem fds_tk (L : List (ByteArray × ByteArray)) (k : Nat) : fdsOf (L.take k) = (fdsOf L).take k := by simp [fdsOf]
theorem cks_step {L : List (ByteArray × ByteArray)} {k : Nat} (h : k < L.length) : cksL (fdsOf (L.take (k + 1))) = cksL (fdsOf (L.take k)) + if unums (L.getD k fnone).1 = cookieN then 1 else 0 := by
  rw [fds_tk, fds_tk, fds_take h]
  unfold cksL
  rw [List.filter_append, List.length_append]
  by_cases hc : unums (L.getD k fnone).1 = cookieN
  · rw [if_pos hc, List.filter_cons_of_pos (by simpa using hc)]
    rfl
  · rw [if_neg hc, List.filter_cons_of_neg (by simpa using hc)]
    rfl
theorem any_step {L : List (ByteArray × ByteArray)} {k : Nat} (h : k < L.length) : (fdsOf (L.take (k + 1))).any (fun f => btwL f.1) = ((fdsOf (L.take k)).any (fun f => btwL f.1) || btwL (unums (L.getD k fnone).1)) := by
  rw [fds_tk, fds_tk, fds_take h, List.any_append]
  simp
set_option maxHeartbeats 8000000 in
theorem xback_ok (hask : XAskSaid) (q : RqM) (p : RpM) (w : World) (hd : xld.P w) (he : erP w) (hq : RqIn w q) (hp : RpIn w p) : Calls Tryz.prog 4 #[q.val, p.val] w fun e w' => e = .returned (.bool true) ∧ Below w.heap.size w w' := by
  have HD := vl hd
  have HE := vl he
  have HQ := vl hq
  have HP := vl hp
  have HASK := vl hask
  clear hd he hq hp hask
  unfold RqM.val RpM.val
  obtain ⟨W1, hW1⟩ : ∃ x, w.alloc (.cells #[.string q.m, .string q.p, .string q.h, .slice q.fa q.fn q.fc, .slice q.ba q.bn q.bc] 25) = x := ⟨_, rfl⟩
  obtain ⟨W2, hW2⟩ : ∃ x, W1.alloc (.cells #[.int .i64 p.code, .slice p.fa p.fn p.fc, .slice p.ba p.bn p.bc] 27) = x := ⟨_, rfl⟩
  obtain ⟨W3, hW3⟩ : ∃ x, W2.alloc (.cells #[.string ⟨#[99, 111, 111, 107, 105, 101]⟩, .string ⟨#[97, 59, 32, 98]⟩] 51) = x := ⟨_, rfl⟩
  have k1 : RB W1 w.heap.size q.m q.p q.h (.slice q.fa q.fn q.fc) (.slice q.ba q.bn q.bc) := by rw [← hW1]; exact heap_alloc_new w _
  have k2 : RPB W2 W1.heap.size p.code (.slice p.fa p.fn p.fc) (.slice p.ba p.bn p.bc) := by rw [← hW2]; exact heap_alloc_new W1 _
  have b1 : Below w.heap.size w W1 := by rw [← hW1]; exact (Below.refl _ w).alloc (Nat.le_refl _) _
  have b2 : Below W1.heap.size W1 W2 := by rw [← hW2]; exact (Below.refl _ W1).alloc (Nat.le_refl _) _
  have b3 : Below W2.heap.size W2 W3 := by rw [← hW3]; exact (Below.refl _ W2).alloc (Nat.le_refl _) _
  have HR3 := vl ((k1.on b2).on b3)
  have HT3 := vl (k2.on b3)
  have HB3 : Vl (Below w.heap.size w W3) := vl ((b1.trans (b2.mono b1.size)).trans (b3.mono (Nat.le_trans b1.size b2.size)))
  have HFA : Vl (RqIn W3 (factQ W2.heap.size)) := vl ⟨by
      refine Or.inr ⟨W2.heap.size, 0, rfl, rfl, Nat.le_refl _, by show 1 ≤ maxLen; decide, ?_, ?_⟩
      · intro t ht
        obtain rfl : t = 0 := by have : t < 1 := ht; omega
        have hh : W3.heap[W2.heap.size]? = some (.cells #[.string ⟨#[99, 111, 111, 107, 105, 101]⟩, .string ⟨#[97, 59, 32, 98]⟩] 51 (0, 0)) := by rw [← hW3]; exact heap_alloc_new W2 _
        simp only [World.cell?, hh]
        rfl
      · intro t ht
        obtain rfl : t = 0 := by have : t < 1 := ht; omega
        have hh : W3.heap[W2.heap.size]? = some (.cells #[.string ⟨#[99, 111, 111, 107, 105, 101]⟩, .string ⟨#[97, 59, 32, 98]⟩] 51 (0, 0)) := by rw [← hW3]; exact heap_alloc_new W2 _
        simp only [World.cell?, hh]
        rfl, Or.inl ⟨rfl, rfl⟩, fun _ => ⟨rfl, rfl⟩, ⟨by show (1 : Nat) ≤ _; omega, Nat.zero_le _⟩, ⟨by show (3 : Nat) ≤ _; omega, by show (1 : Nat) ≤ _; omega, by show (1 : Nat) ≤ _; omega⟩, fun t => by
      match t with
      | 0 => exact ⟨by show (6 : Nat) ≤ _; omega, by show (4 : Nat) ≤ _; omega⟩
      | t + 1 => simp [factQ, fnone]⟩
  have HL1 := vl (xlist_any (factQ W2.heap.size) W3 (xld.below HD.out HB3.out) HFA.out)
  rw [factQ_list] at HL1
  obtain ⟨b0, hb0⟩ : ∃ x, W1.heap.size = x := ⟨_, rfl⟩
  have hlt0 : w.heap.size < b0 := by rw [← hb0]; exact k1.lt
  rw [hb0] at HT3
  unfold factQ RqM.val at HL1
  clear k1 k2 b1 b2 b3
  go_enter Tryz.func4, Tryz.ntmps4
  go_wp2_with fail
  refine HL1.out.mono ?_
  rintro e w1 ⟨v1, F1, rfl, ho1, hf1, hb1⟩
  have hlf : F1.length = 5 := by
    have := congrArg List.length hf1
    rw [fds_len] at this
    exact this
  obtain ⟨sa, sc, rfl⟩ := fown_shape ho1
  have hx4 : (F1.getD 4 fnone).2.toList = [98] := unums_b (by
    have h4 := fds_get (L := F1) (k := 4) (by omega)
    rw [hf1] at h4
    have h5 := Option.some.inj h4
    injection h5 with _ h6
    exact h6.symm)
  obtain ⟨_, hfr⟩ := nfrow_of ho1
  rcases hfr with ⟨h0, _⟩ | ⟨g1, off1, ea, hr1⟩
  · omega
  subst ea
  have c4 := hr1.hvalue 4 (by omega)
  have hcp := hr1.hcap
  generalize (F1.getD 4 fnone).2 = x4 at *
  have HR1 := vl (HR3.out.on hb1)
  have HT1 := vl (HT3.out.on hb1)
  have hsw1 : W3.heap.size ≤ w1.heap.size := hb1.size
  have HB1 := vl (HB3.out.trans (hb1.mono HB3.out.size))
  have hsw : w.heap.size ≤ w1.heap.size := HB1.out.size
  rw [hlf] at hcp ⊢
  rw [errW_zero]
  obtain ⟨r0, r1, r2, r3, r4⟩ := HR1.out.cells
  have HL2 := vl (xlist_any q w1 (xld.below HD.out HB1.out) (HQ.out.below HB1.out))
  unfold RqM.val at HL2
  clear ho1 hf1 hb1 hr1 HL1 HR3 HT3 HB3 HFA hW1 hW2 hW3 hlf hb0
  go_wp2_with fail
  refine HL2.out.mono ?_
  rintro e w2 ⟨v2, F2, rfl, ho2, hf2, hb2⟩
  have HR2 := vl (HR1.out.on hb2)
  have HT2 := vl (HT1.out.on hb2)
  have HB2 := vl (HB1.out.trans (hb2.mono hsw))
  have hsw2 : w1.heap.size ≤ w2.heap.size := hb2.size
  obtain ⟨la, lc, rfl⟩ := fown_shape ho2
  have HF2 : Vl (FArg w2 la F2.length lc F2) := vl (nfrow_of ho2).2
  have HE2 := vl hf2
  obtain ⟨eq, heq⟩ : ∃ x, (listW q.rq).1 = x := ⟨_, rfl⟩
  have HEQ := vl heq
  rw [heq]
  clear ho2 hf2 hb2 HL2 HR1 HT1 HB1 r0 r1 r2 r3 r4 c4 hx4 heq
  go_upto_region 5 with fail
  go_cut [50, 8] (fun b _ wx => ∃ bb : Bool, b = .bool bb ∧ Vl (wx = w2) ∧ Vl (bb = true → eq = 0))
  case first =>
    as_aux_lemma =>
      by_cases h0 : eq = 0
      · subst h0
        rw [errW_zero]
        go_wp2_with fail
        go_meet
        exact ⟨true, rfl, rfl, fun _ => by first | rfl | trivial⟩
      · have HEW : Vl (errW eq = .iface 88 (.int .i64 eq)) := vl (if_neg h0)
        rw [HEW.out]
        go_wp2_with fail
        go_meet
        exact ⟨false, rfl, rfl, fun h => by cases h⟩
  case rest =>
  obtain ⟨bb, rfl, hwx, HBB⟩ := hcut
  rw [hwx.out]
  clear hwx
  go_upto_if 50 with fail
  go_cut [] (fun wx => Vl (Below w.heap.size w wx) ∧ Vl (RB wx w.heap.size q.m q.p q.h (.slice q.fa q.fn q.fc) (.slice q.ba q.bn q.bc)) ∧ Vl (RPB wx b0 p.code (.slice p.fa p.fn p.fc) (.slice p.ba p.bn p.bc)))
  case first =>
    as_aux_lemma =>
      cases bb with
      | false =>
        go_wp2_with fail
        go_meet
        exact ⟨HB2, HR2, HT2⟩
      | true =>
        have h0 := HBB.out rfl
        have HA0 : Vl (askE q.rq = 0) := vl (by
          have := HEQ.out
          rw [h0] at this
          unfold listW at this
          split at this
          · assumption
          · exact this)
        have HLL : Vl (fdsOf F2 = listL q.rq) := vl (by
          rw [HE2.out]
          unfold listW
          rw [if_pos HA0.out])
        obtain ⟨hqf, hqb, hq4⟩ := list_len HQ.out HA0.out
        have HQ4 := vl hq4
        have HF := vl (HQ.out.fields.below HB2.out)
        have HSL := vl (list_small HLL.out hqf hq4 HQ.out.fields.len (ask_texts HA0.out))
        obtain ⟨r0, r1, r2, r3, r4⟩ := HR2.out.cells
        have hfl := HQ.out.fields.len
        clear hq4 h0 HBB HEQ HE2
        go_wp2_with fail
        go_loopw [11, 9, 10] (fun i c b wr => ∃ (k cn : Nat) (bt : Bool), i = .int .i64 k ∧ k ≤ q.fn ∧ c = .int .i64 cn ∧ b = .bool bt ∧ cn ≤ k ∧ wr = w2 ∧ Vl (cn = cksL (fdsOf (q.FL.take k))) ∧ Vl (bt = (fdsOf (q.FL.take k)).any (fun f => btwL f.1))) (fun i _ _ _ => q.fn - (intOf i).toNat)
        case atStart => exact ⟨0, 0, false, rfl, by omega, rfl, rfl, by omega, rfl, vl (by rw [List.take_zero]; rfl), vl (by rw [List.take_zero]; rfl)⟩
        case round =>
          obtain ⟨k, cn, bt, rfl, hk, rfl, rfl, hcn, rfl, HCN, HBT⟩ := hrel
          by_cases hlt : k < q.fn
          · rcases HF.out with ⟨h0, _⟩ | ⟨g, off, ea, hr⟩
            · omega
            rw [ea] at r3
            have c1 := hr.hname k hlt
            have hcap := hr.hcap
            have hk0 : (0 : Int) ≤ (k : Int) := by omega
            have hk1 : (k : Int) < (q.fn : Int) := by omega
            have HC1 := vl (cks_step (L := q.FL) (k := k) (by omega))
            have HB1 := vl (any_step (L := q.FL) (k := k) (by omega))
            generalize (q.FL.getD k fnone).1 = n at *
            clear hr
            by_cases q0 : n.toList = [99, 111, 111, 107, 105, 101]
            · have q1' : (n.toList == [99, 111, 110, 110, 101, 99, 116, 105, 111, 110]) = false := by rw [q0]; decide
              have q2' : (n.toList == [99, 111, 100, 105, 110, 103]) = false := by rw [q0]; decide
              have q3' : (n.toList == [107, 101, 101, 112]) = false := by rw [q0]; decide
              have q4' : (n.toList == [117, 112, 103, 114, 97, 100, 101]) = false := by rw [q0]; decide
              have hn : unums n = cookieN := yL_cookie.1 q0
              have hbn : btwL (unums n) = false := by rw [hn]; decide
              cases bt <;>
                (go_wp2_with fail
                 go_roundw
                 case rel => exact ⟨k + 1, cn + 1, _, by go_num, by omega, by go_num, by first | rfl | trivial, by omega, by first | rfl | trivial, vl (by rw [HC1.out, ← HCN.out, if_pos hn]), vl (by rw [HB1.out, ← HBT.out, hbn]; rfl)⟩
                 case measure => simp [intOf]; omega)
            · have q0' : (n.toList == [99, 111, 111, 107, 105, 101]) = false := by simpa using q0
              by_cases q1 : n.toList = [99, 111, 110, 110, 101, 99, 116, 105, 111, 110]
              · have q2' : (n.toList == [99, 111, 100, 105, 110, 103]) = false := by rw [q1]; decide
                have q3' : (n.toList == [107, 101, 101, 112]) = false := by rw [q1]; decide
                have q4' : (n.toList == [117, 112, 103, 114, 97, 100, 101]) = false := by rw [q1]; decide
                have hn : unums n = connN := yL_conn.1 q1
                have hbn : btwL (unums n) = true := by rw [hn]; decide
                have hnc : ¬ unums n = cookieN := by rw [hn]; decide
                cases bt <;>
                  (go_wp2_with fail
                   go_roundw
                   case rel => exact ⟨k + 1, cn, _, by go_num, by omega, by go_num, by first | rfl | trivial, by omega, by first | rfl | trivial, vl (by rw [HC1.out, ← HCN.out, if_neg hnc, Nat.add_zero]), vl (by rw [HB1.out, ← HBT.out, hbn]; rfl)⟩
                   case measure => simp [intOf]; omega)
              · have q1' : (n.toList == [99, 111, 110, 110, 101, 99, 116, 105, 111, 110]) = false := by simpa using q1
                by_cases q2 : n.toList = [99, 111, 100, 105, 110, 103]
                · have q3' : (n.toList == [107, 101, 101, 112]) = false := by rw [q2]; decide
                  have q4' : (n.toList == [117, 112, 103, 114, 97, 100, 101]) = false := by rw [q2]; decide
                  have hn : unums n = codingN := yL_coding.1 q2
                  have hbn : btwL (unums n) = true := by rw [hn]; decide
                  have hnc : ¬ unums n = cookieN := by rw [hn]; decide
                  cases bt <;>
                    (go_wp2_with fail
                     go_roundw
                     case rel => exact ⟨k + 1, cn, _, by go_num, by omega, by go_num, by first | rfl | trivial, by omega, by first | rfl | trivial, vl (by rw [HC1.out, ← HCN.out, if_neg hnc, Nat.add_zero]), vl (by rw [HB1.out, ← HBT.out, hbn]; rfl)⟩
                     case measure => simp [intOf]; omega)
                · have q2' : (n.toList == [99, 111, 100, 105, 110, 103]) = false := by simpa using q2
                  by_cases q3 : n.toList = [107, 101, 101, 112]
                  · have q4' : (n.toList == [117, 112, 103, 114, 97, 100, 101]) = false := by rw [q3]; decide
                    have hn : unums n = keepX := yL_keep.1 q3
                    have hbn : btwL (unums n) = true := by rw [hn]; decide
                    have hnc : ¬ unums n = cookieN := by rw [hn]; decide
                    cases bt <;>
                      (go_wp2_with fail
                       go_roundw
                       case rel => exact ⟨k + 1, cn, _, by go_num, by omega, by go_num, by first | rfl | trivial, by omega, by first | rfl | trivial, vl (by rw [HC1.out, ← HCN.out, if_neg hnc, Nat.add_zero]), vl (by rw [HB1.out, ← HBT.out, hbn]; rfl)⟩
                       case measure => simp [intOf]; omega)
                  · have q3' : (n.toList == [107, 101, 101, 112]) = false := by simpa using q3
                    by_cases q4 : n.toList = [117, 112, 103, 114, 97, 100, 101]
                    · have hn : unums n = upgradeN := yL_upgrade.1 q4
                      have hbn : btwL (unums n) = true := by rw [hn]; decide
                      have hnc : ¬ unums n = cookieN := by rw [hn]; decide
                      cases bt <;>
                        (go_wp2_with fail
                         go_roundw
                         case rel => exact ⟨k + 1, cn, _, by go_num, by omega, by go_num, by first | rfl | trivial, by omega, by first | rfl | trivial, vl (by rw [HC1.out, ← HCN.out, if_neg hnc, Nat.add_zero]), vl (by rw [HB1.out, ← HBT.out, hbn]; rfl)⟩
                         case measure => simp [intOf]; omega)
                    · have q4' : (n.toList == [117, 112, 103, 114, 97, 100, 101]) = false := by simpa using q4
                      have hnc : ¬ unums n = cookieN := fun e => q0 (yL_cookie.2 e)
                      have hbn : btwL (unums n) = false := decide_eq_false (fun h => h.elim (fun e => q1 (yL_conn.2 e)) fun h => h.elim (fun e => q2 (yL_coding.2 e)) fun h => h.elim (fun e => q3 (yL_keep.2 e)) fun e => q4 (yL_upgrade.2 e))
                      cases bt <;>
                        (go_wp2_with fail
                         go_roundw
                         case rel => exact ⟨k + 1, cn, _, by go_num, by omega, by go_num, by first | rfl | trivial, by omega, by first | rfl | trivial, vl (by rw [HC1.out, ← HCN.out, if_neg hnc, Nat.add_zero]), vl (by rw [HB1.out, ← HBT.out, hbn]; rfl)⟩
                         case measure => simp [intOf]; omega)
          · have hge : ¬ (k : Int) < (q.fn : Int) := by omega
            have hkk : k = q.FL.length := by omega
            rw [hkk, List.take_length] at HCN HBT
            have HAS := vl (HASK.out la F2.length lc F2 q.ba q.bn q.bc q.B wr (xld.below HD.out HB2.out) HF2.out HSL.out.1 HSL.out.2 (HQ.out.body.below HB2.out) HQ.out.nil (by omega))
            clear hkk
            cases bt with
            | true =>
              have HAW : Vl (askW (listL q.rq) q.B = (3, default)) := vl (ask_btw (r := q.rq) HA0.out (List.any_eq_true.1 HBT.out.symm))
              go_wp2_with fail
              refine HAS.out.mono ?_
              rintro e w3 ⟨q5, rfl, hin5, hq5, hb5⟩
              have HB5 := vl (HB2.out.trans (hb5.mono HB2.out.size))
              have HR5 := vl (HR2.out.on hb5)
              have HT5 := vl (HT2.out.on hb5)
              rw [HLL.out, HAW.out]
              have hew : errW ((3 : Int), (default : Rq)).1 = .iface 88 (.int .i64 3) := rfl
              rw [hew]
              unfold RqM.val
              clear hin5 hq5 hb5
              go_wp2_with fail
              all_goals go_meet
              all_goals exact ⟨vl (HB5.out.alloc HB5.out.size _), vl (HR5.out.on ((Below.refl _ w3).alloc (Nat.le_refl _) _)), vl (HT5.out.on ((Below.refl _ w3).alloc (Nat.le_refl _) _))⟩
            | false =>
              by_cases hc : cn < 2
              · have HAW : Vl (askW (listL q.rq) q.B = (0, q.rq)) := vl (ask_list (r := q.rq) HA0.out (by have := HCN.out; show cksL (fdsOf q.FL) ≤ 1; omega) (fun f hf => by have h3 := List.any_eq_false.1 HBT.out.symm f hf; simpa using h3))
                have hc' : (cn : Int) < 2 := by omega
                go_wp2_with fail
                refine HAS.out.mono ?_
                rintro e w3 ⟨q5, rfl, hin5, hq5, hb5⟩
                have HB5 := vl (HB2.out.trans (hb5.mono HB2.out.size))
                have HR5 := vl (HR2.out.on hb5)
                have HT5 := vl (HT2.out.on hb5)
                rw [HLL.out, HAW.out] at hq5
                rw [HLL.out, HAW.out]
                obtain ⟨m5, p5, h5, fa5, fn5, fc5, ba5, bn5, bc5, FL5, B5⟩ := q5
                have e1 : m5 = q.m := unums_inj (congrArg Rq.method hq5)
                have e2 : p5 = q.p := unums_inj (congrArg Rq.path hq5)
                have e3 : h5 = q.h := unums_inj (congrArg Rq.host hq5)
                have e4 : FL5 = q.FL := fds_inj (congrArg Rq.fields hq5)
                have e5 : B5 = q.B := congrArg Rq.body hq5
                subst e1 e2 e3 e4 e5
                have e6 : q.FL.length = fn5 := hin5.fields.len
                have e7 : q.B.length = bn5 := hin5.body.len
                have e8 : q.B.length = q.bn := HQ.out.body.len
                obtain rfl : q.fn = fn5 := by omega
                obtain rfl : q.bn = bn5 := by omega
                have hs5 : w.heap.size ≤ w3.heap.size := HB5.out.size
                obtain ⟨w5, hw5⟩ : ∃ x, w3.alloc (.cells #[.string q.m, .string q.p, .string q.h, .slice fa5 q.fn fc5, .slice ba5 q.bn bc5] 25) = x := ⟨_, rfl⟩
                have hba : Below w3.heap.size w3 w5 := by rw [← hw5]; exact (Below.refl _ w3).alloc (Nat.le_refl _) _
                have HQ7 : Vl (RB w5 w3.heap.size q.m q.p q.h (.slice fa5 q.fn fc5) (.slice ba5 q.bn bc5)) := vl (by rw [← hw5]; exact heap_alloc_new w3 _)
                have HB7 := vl (HB5.out.trans (hba.mono hs5))
                have HR7 := vl (HR5.out.on hba)
                have HT7 := vl (HT5.out.on hba)
                have hs7 : w.heap.size ≤ w5.heap.size := HB7.out.size
                have HSQ := vl (srequest_any q.m q.p q.h fa5 q.fn fc5 ba5 q.bn bc5 q.fa q.fc q.ba q.bc q.FL q.B w5 (hin5.fields.below hba) (HQ.out.fields.below HB7.out) (hin5.body.below hba) (HQ.out.body.below HB7.out) (by omega))
                have hew : errW ((0 : Int), q.rq).1 = .nilIface := errW_zero
                rw [hew]
                unfold RqM.val
                clear hin5 hq5 hb5 r0 r1 r2 r3 r4 hba HB5 HR5 HT5
                obtain ⟨r0, r1, r2, r3, r4⟩ := HR7.out.cells
                obtain ⟨s0, s1, s2, s3, s4⟩ := HQ7.out.cells
                go_wp2_with fail
                refine HSQ.out.mono ?_
                rintro e w4 ⟨rfl, hb6⟩
                have HB6 := vl (HB7.out.trans (hb6.mono hs7))
                have HR6 := vl (HR7.out.on hb6)
                have HT6 := vl (HT7.out.on hb6)
                clear hb6
                go_wp2_with fail
                go_meet
                exact ⟨HB6, HR6, HT6⟩
              · have hc' : ¬ (cn : Int) < 2 := by omega
                go_wp2_with fail
                refine HAS.out.mono ?_
                rintro e w3 ⟨q5, rfl, hin5, hq5, hb5⟩
                have HB5 := vl (HB2.out.trans (hb5.mono HB2.out.size))
                have HR5 := vl (HR2.out.on hb5)
                have HT5 := vl (HT2.out.on hb5)
                generalize errW (askW (fdsOf F2) q.B).1 = ev
                unfold RqM.val
                clear hin5 hq5 hb5
                go_wp2_with fail
                go_meet
                exact ⟨vl (HB5.out.alloc HB5.out.size _), vl (HR5.out.on ((Below.refl _ w3).alloc (Nat.le_refl _) _)), vl (HT5.out.on ((Below.refl _ w3).alloc (Nat.le_refl _) _))⟩
  case rest =>
  obtain ⟨HBx, HRx, HTx⟩ := hcut
  clear HB2 HR2 HT2 HF2 HE2 HEQ HBB
  obtain ⟨wx, hwx⟩ : ∃ x, wc = x := ⟨_, rfl⟩
  rw [hwx] at HBx HRx HTx ⊢
  clear hwx
  obtain ⟨t0, t1, t2⟩ := HTx.out.cells
  have HTL := vl (xtell_any p wx (xld.below HD.out HBx.out) (HP.out.below HBx.out))
  unfold RpM.val at HTL
  have hswx : w.heap.size ≤ wx.heap.size := HBx.out.size
  go_wp2_with fail
  refine HTL.out.mono ?_
  rintro e w3 ⟨v3, F3, rfl, ho3, hf3, hb3⟩
  have HT3 := vl (HTx.out.on hb3)
  have HB3 := vl (HBx.out.trans (hb3.mono hswx))
  have hsw3 : w.heap.size ≤ w3.heap.size := HB3.out.size
  obtain ⟨ma, mc, rfl⟩ := fown_shape ho3
  have HF3 : Vl (FArg w3 ma F3.length mc F3) := vl (nfrow_of ho3).2
  have HE3 := vl hf3
  have HTW : Vl (tellW p.rp = if tellE p.rp 0 = 0 then (0, (tellW p.rp).2) else (tellE p.rp 0, [])) := vl (by
    unfold tellW
    split <;> rfl)
  clear ho3 hf3 hb3 HTL t0 t1 t2 HTx HRx
  by_cases h0 : tellE p.rp 0 = 0
  · rw [if_pos h0] at HTW
    have HT0 : Vl ((tellW p.rp).1 = 0) := vl (by rw [HTW.out])
    rw [HT0.out, errW_zero]
    obtain ⟨hf40, hb8, hc1, hc2, hfe⟩ := tell_ok' h0
    have hsm := flds_small hfe
    have hpn : p.fn ≤ 40 := by
      have h3 : (fdsOf p.FL).length ≤ 40 := hf40
      rw [fds_len, HP.out.fields.len] at h3
      exact h3
    have HSM := vl hsm
    have HRT := vl (reply_tell h0)
    rw [← HE3.out] at HRT
    have HSZ := vl (tell_small h0 HE3.out)
    clear hf40 hb8 hc1 hc2 hfe hsm HTW HT0 h0
    obtain ⟨t0, t1, t2⟩ := HT3.out.cells
    have HRP := vl (xreply_any ma F3.length mc F3 p.ba p.bn p.bc p.B w3 (xld.below HD.out HB3.out) (HE.out.below HB3.out) HF3.out HSZ.out.1 HSZ.out.2 (HP.out.body.below HB3.out) HP.out.nil HP.out.most.2)
    go_wp2_with fail
    refine HRP.out.mono ?_
    rintro e w4 ⟨q5, rfl, hin5, hq5, hb4⟩
    have HRW : Vl (replyW (fdsOf F3) p.B = (0, ⟨p.code, cleanL (fdsOf p.FL), p.B⟩)) := vl HRT.out
    rw [HRW.out] at hq5
    rw [HRW.out, errW_zero]
    have e1 : q5.code = p.code := congrArg Rp.code hq5
    have e2 : fdsOf q5.FL = cleanL (fdsOf p.FL) := congrArg Rp.fields hq5
    have e3 : q5.B = p.B := congrArg Rp.body hq5
    have e4 : q5.FL = cleanB p.FL := fds_inj (by rw [e2, fds_clean])
    obtain ⟨qc, qa, qn, qcap, ya, yn, yc, QL, QB⟩ := q5
    simp only at e1 e2 e3 e4
    subst e1 e3 e4
    have hqn : (cleanB p.FL).length = qn := hin5.fields.len
    subst hqn
    have HB4 := vl (HB3.out.trans (hb4.mono hsw3))
    have HT4 := vl (HT3.out.on hb4)
    have hsw4 : w.heap.size ≤ w4.heap.size := HB4.out.size
    unfold RpM.val
    obtain ⟨w5, hw5⟩ : ∃ x, w4.alloc (.cells #[.int .i64 p.code, .slice qa (cleanB p.FL).length qcap, .slice ya yn yc] 27) = x := ⟨_, rfl⟩
    have hb5 : Below w4.heap.size w4 w5 := by rw [← hw5]; exact (Below.refl _ w4).alloc (Nat.le_refl _) _
    have HQ5 : Vl (RPB w5 w4.heap.size p.code (.slice qa (cleanB p.FL).length qcap) (.slice ya yn yc)) := vl (by rw [← hw5]; exact heap_alloc_new w4 _)
    have HB5 := vl (HB4.out.trans (hb5.mono hsw4))
    have HT5 := vl (HT4.out.on hb5)
    have HIN5 := vl (hin5.below hb5)
    have hsw5 : w.heap.size ≤ w5.heap.size := HB5.out.size
    clear hin5 hq5 hb4 HRP HRT HRW HT3 HB3 HT4 HB4 t0 t1 t2 e2 hb5
    obtain ⟨t0, t1, t2⟩ := HT5.out.cells
    have HC1 := vl (xclean_any p.fa p.fn p.fc p.FL w5 (HP.out.fields.below HB5.out) (by omega) (VSm.of400 HSM.out).vok (HD.out.2.below HB5.out))
    go_wp2_with fail
    refine HC1.out.mono ?_
    rintro e w6 ⟨vc, rfl, ho6, hb6⟩
    obtain ⟨ca, cc, rfl⟩ := fown_shape ho6
    have HF6 : Vl (FArg w6 ca (cleanB p.FL).length cc (cleanB p.FL)) := vl (nfrow_of ho6).2
    have HB6 := vl (HB5.out.trans (hb6.mono hsw5))
    have HT6 := vl (HT5.out.on hb6)
    have HQ6 := vl (HQ5.out.on hb6)
    have HIN6 := vl (HIN5.out.below hb6)
    have hsw6 : w.heap.size ≤ w6.heap.size := HB6.out.size
    have hcl : (cleanB p.FL).length ≤ 40 := by have := cleanB_len p.FL; have := HP.out.fields.len; omega
    have HCC : Vl (cleanB (cleanB p.FL) = cleanB p.FL) := vl (fds_inj (by rw [fds_clean, fds_clean, clean_clean]))
    have HC2 := vl (xclean_any ca (cleanB p.FL).length cc (cleanB p.FL) w6 HF6.out (by omega) (VSm.of400 (filt_small HSM.out)).vok (HD.out.2.below HB6.out))
    rw [HCC.out] at HC2
    clear ho6 hb6 HC1 HT5 HQ5 HIN5 HB5 t0 t1 t2 hw5
    generalize cleanB p.FL = CL at *
    go_wp2_with fail
    refine HC2.out.mono ?_
    rintro e w7 ⟨vd, rfl, ho7, hb7⟩
    obtain ⟨da, dc, rfl⟩ := fown_shape ho7
    have HG7 : Vl (FArg w7 da CL.length dc CL) := vl (nfrow_of ho7).2
    have HF7 := vl (HF6.out.below hb7)
    have HB7 := vl (HB6.out.trans (hb7.mono hsw6))
    have HT7 := vl (HT6.out.on hb7)
    have HQ7 := vl (HQ6.out.on hb7)
    have HIN7 := vl (HIN6.out.below hb7)
    have hsw7 : w.heap.size ≤ w7.heap.size := HB7.out.size
    obtain ⟨s0, s1, s2⟩ := HQ7.out.cells
    have HS1 := vl (sfields_any qa ca CL.length qcap cc CL w7 HIN7.out.fields HF7.out (by omega))
    clear ho7 hb7 HC2 HF6 HB6 HT6 HQ6 HIN6 HCC
    go_wp2_with fail
    refine HS1.out.mono ?_
    rintro e w8 ⟨rfl, hb8⟩
    have HB8 := vl (HB7.out.trans (hb8.mono hsw7))
    have HT8 := vl (HT7.out.on hb8)
    have HQ8 := vl (HQ7.out.on hb8)
    have HIN8 := vl (HIN7.out.below hb8)
    have hsw8 : w.heap.size ≤ w8.heap.size := HB8.out.size
    have HS2 := vl (sfields_any ca da CL.length cc dc CL w8 (HF7.out.below hb8) (HG7.out.below hb8) (by omega))
    clear hb8 HS1 HF7 HG7 HB7 HT7 HQ7 HIN7 s0 s1 s2
    go_wp2_with fail
    refine HS2.out.mono ?_
    rintro e w9 ⟨rfl, hb9⟩
    have HB9 := vl (HB8.out.trans (hb9.mono hsw8))
    obtain ⟨u0, u1, u2⟩ := (HT8.out.on hb9).cells
    obtain ⟨s0, s1, s2⟩ := (HQ8.out.on hb9).cells
    have cv1 := (HIN8.out.below hb9).body.conv
    have cv2 := (HP.out.body.below HB9.out).conv
    clear hb9 HS2 HB8 HT8 HQ8 HIN8
    go_wp2_with fail
    go_ret
    exact ⟨by simp, HB9.out⟩
  · rw [if_neg h0] at HTW
    have HT0 : Vl ((tellW p.rp).1 = tellE p.rp 0) := vl (by rw [HTW.out])
    have HEW : Vl (errW (tellE p.rp 0) = .iface 88 (.int .i64 (tellE p.rp 0))) := vl (if_neg h0)
    rw [HT0.out, HEW.out]
    generalize tellE p.rp 0 = te at *
    go_wp2_with fail
    go_ret
    exact ⟨rfl, HB3.out⟩
end Go.Proofs.YtdlaaollamgplagGreatDoor
