/-
  MESSAGES AS LINES: the document's Fields, Ask, Tell (what is wrong with them). No claim by itself.
-/
import Derived.Test.YtgjolljhjagngafDoorNtok
namespace Go.Proofs.YtgjolljhjagngafDoor
open Go.RowKit
set_option maxRecDepth 100000
theorem fds_len (L : List (ByteArray × ByteArray)) : (fdsOf L).length = L.length := by simp [fdsOf]
theorem fds_drop {L : List (ByteArray × ByteArray)} {k : Nat} (h : k < L.length) : (fdsOf L).drop k = (unums (L.getD k fnone).1, unums (L.getD k fnone).2) :: (fdsOf L).drop (k + 1) := by
  have h' : k < (fdsOf L).length := by rw [fds_len]; exact h
  rw [List.drop_eq_getElem_cons h']
  simp [fdsOf, List.getD, List.getElem?_eq_getElem h]
theorem toL_lit {s : ByteArray} {l : List UInt8} : s.toList = l ↔ unums s = l.map fun c => (c.toNat : Int) := by
  rw [ByteArray.toList_eq]
  unfold unums
  constructor
  · intro h; rw [h]
  · intro h
    exact (List.map_inj_right (fun a b e => by apply UInt8.toNat_inj.1; have e' : ((a.toNat : Int)) = ((b.toNat : Int)) := e; omega)).1 h
theorem toL_host {s : ByteArray} : s.toList = [104, 111, 115, 116] ↔ unums s = hostN := toL_lit
theorem toL_length {s : ByteArray} : s.toList = [108, 101, 110, 103, 116, 104] ↔ unums s = lengthN := toL_lit
theorem toL_coding {s : ByteArray} : s.toList = [99, 111, 100, 105, 110, 103] ↔ unums s = codingN := toL_lit
set_option maxHeartbeats 4000000 in
theorem rfields_any (a : Option Addr) (len cap : Nat) (FL : List (ByteArray × ByteArray)) (w : World) (hA : FArg w a len cap FL) (hm : len ≤ 4611686018427387904) (he : ∀ t, (FL.getD t fnone).1.size ≤ 140737488351232 ∧ (FL.getD t fnone).2.size ≤ 140737488351232) :
    Calls Tryd.prog 32 #[.slice a len cap] w fun e w' => e = .returned (.int .i64 (fldsE (fdsOf FL))) ∧ w = w' := by
  have hlen := hA.len
  have HA := vl hA
  have HE := vl he
  clear hA he
  go_enter Tryd.func32, Tryd.ntmps32
  go_wp2_with fail
  go_loopw [3] (fun i wr => ∃ k : Nat, i = .int .i64 k ∧ k ≤ len ∧ Vl (fldsE (fdsOf FL) = fldsE ((fdsOf FL).drop k)) ∧ w = wr) (fun i _ => len - (intOf i).toNat)
  case atStart => exact ⟨0, rfl, by omega, rfl, rfl⟩
  case round =>
    obtain ⟨k, rfl, hk, HK, rfl⟩ := hrel
    by_cases hlt : k < len
    · rcases HA.out with ⟨h0, _⟩ | ⟨g, off, rfl, hr⟩
      · omega
      have c1 := hr.hname k hlt
      have c2 := hr.hvalue k hlt
      have hcap := hr.hcap
      have hlt' : (k : Int) < (len : Int) := by omega
      have HD := vl (fds_drop (L := FL) (k := k) (by omega))
      have hsz := HE.out k
      obtain ⟨⟨n, v⟩, hf⟩ : ∃ f, FL.getD k fnone = f := ⟨_, rfl⟩
      rw [hf] at c1 c2 HD hsz
      clear hf hr
      have H1 := vl (rname_any n w hsz.1)
      have H2 := vl (rplain_any v w hsz.2)
      obtain ⟨b1, hb1⟩ : ∃ b, nameL (unums n) = b := ⟨_, rfl⟩
      obtain ⟨b2, hb2⟩ : ∃ b, plainL (unums v) = b := ⟨_, rfl⟩
      rw [hb1] at H1
      rw [hb2] at H2
      have HF : Vl (fldsE (fdsOf FL) = fldsE ((unums n, unums v) :: (fdsOf FL).drop (k + 1))) := by
        show fldsE _ = _
        rw [HK.out, HD.out]
      have HB1 := vl hb1
      have HB2 := vl hb2
      clear hb1 hb2 HD hsz
      go_wp2_with fail
      refine H1.out.mono ?_
      rintro e w' ⟨rfl, rfl⟩
      go_wp2_with fail
      refine H2.out.mono ?_
      rintro e w' ⟨rfl, rfl⟩
      have bad : Vl ((b1 && b2) = false → fldsE (fdsOf FL) = 2) := fun hb => by
        rw [HF.out]
        have : fldE (unums n, unums v) = 2 := by
          unfold fldE
          rw [if_neg]
          rintro ⟨x, y⟩
          simp only at x y
          rw [HB1.out] at x
          rw [HB2.out] at y
          rw [x, y] at hb
          cases hb
        show (if fldE (unums n, unums v) = 0 then _ else fldE (unums n, unums v)) = 2
        rw [this]
        rfl
      cases b1 with
      | false =>
        go_wp2
        go_ret
        exact ⟨by rw [bad.out rfl]; rfl, rfl⟩
      | true =>
        cases b2 with
        | false =>
          go_wp2
          go_ret
          exact ⟨by rw [bad.out rfl]; rfl, rfl⟩
        | true =>
          have three : Vl ((unums n = hostN ∨ unums n = lengthN ∨ unums n = codingN) → fldsE (fdsOf FL) = 3) := fun hx => by
            rw [HF.out]
            have : fldE (unums n, unums v) = 3 := by
              unfold fldE
              rw [if_pos ⟨HB1.out, HB2.out⟩, if_pos hx]
            show (if fldE (unums n, unums v) = 0 then _ else fldE (unums n, unums v)) = 3
            rw [this]
            rfl
          by_cases q1 : n.toList = [104, 111, 115, 116]
          · have HX := vl (three.out (Or.inl (toL_host.1 q1)))
            go_wp2
            go_ret
            exact ⟨by rw [HX.out]; rfl, rfl⟩
          by_cases q2 : n.toList = [108, 101, 110, 103, 116, 104]
          · have HX := vl (three.out (Or.inr (Or.inl (toL_length.1 q2))))
            go_wp2
            go_ret
            exact ⟨by rw [HX.out]; rfl, rfl⟩
          by_cases q3 : n.toList = [99, 111, 100, 105, 110, 103]
          · have HX := vl (three.out (Or.inr (Or.inr (toL_coding.1 q3))))
            go_wp2
            go_ret
            exact ⟨by rw [HX.out]; rfl, rfl⟩
          have HX : Vl (fldsE (fdsOf FL) = fldsE ((fdsOf FL).drop (k + 1))) := by
            show fldsE _ = _
            rw [HF.out]
            have : fldE (unums n, unums v) = 0 := fld_of HB1.out HB2.out (fun e => q1 (toL_host.2 e)) (fun e => q2 (toL_length.2 e)) (fun e => q3 (toL_coding.2 e))
            show (if fldE (unums n, unums v) = 0 then _ else fldE (unums n, unums v)) = _
            rw [if_pos this]
          have q1' : (n.toList == [104, 111, 115, 116]) = false := by simpa using q1
          have q2' : (n.toList == [108, 101, 110, 103, 116, 104]) = false := by simpa using q2
          have q3' : (n.toList == [99, 111, 100, 105, 110, 103]) = false := by simpa using q3
          go_wp2
          exact ⟨⟨k + 1, by go_num, by omega, HX.out, by first | rfl | trivial⟩, by simp [intOf]; omega⟩
    · have hlt' : ¬ ((k : Int) < (len : Int)) := by omega
      have HX : Vl (fldsE (fdsOf FL) = 0) := by
        show fldsE _ = 0
        rw [HK.out, List.drop_eq_nil_of_le (by rw [fds_len]; omega)]
        rfl
      go_wp2
      go_ret
      exact ⟨by rw [HX.out]; rfl, rfl⟩
set_option maxHeartbeats 4000000 in
theorem rask_any (q : RqM) (w : World) (h : RqIn w q) : Calls Tryd.prog 11 #[q.val] w fun e w' => e = .returned (.int .i64 (askE q.rq)) ∧ Below w.heap.size w w' := by
  obtain ⟨m, p, ho, fa, fn, fc, ba, bn, bc, FL, B⟩ := q
  obtain ⟨h1, h2, h3, ⟨h4, h5⟩, ⟨h6, h7, h8⟩, h9⟩ := h
  simp only at h1 h2 h3 h4 h5 h6 h7 h8 h9
  have hfl := h1.len
  have hbl := h2.len
  have HW : Vl (Below w.heap.size w (w.alloc (.cells #[.string m, .string p, .string ho, .slice fa fn fc, .slice ba bn bc] 34))) := (Below.refl _ _).alloc (Nat.le_refl _) _
  have HF := vl (rfields_any fa fn fc FL _ (h1.below HW.out) h4 h9)
  have HT := vl (fun W => rtoken_any m W h6)
  have HP := vl (fun W => rword_any p W h7)
  have HH := vl (fun W => rplain_any ho W h8)
  unfold RqM.val RqM.rq
  simp only
  have EA : Vl (askE ⟨unums m, unums p, unums ho, fdsOf FL, B⟩ = if 40 < fn ∨ 8000 < bn then 4 else if tokL (unums m) = true ∧ wordL (unums p) = true ∧ plainL (unums ho) = true ∧ ¬ ho.toList = [] then fldsE (fdsOf FL) else 2) := by
    show askE _ = _
    unfold askE
    simp only [fds_len, hfl, hbl, toL_nil, ne_eq]
  obtain ⟨b1, hb1⟩ : ∃ b, tokL (unums m) = b := ⟨_, rfl⟩
  obtain ⟨b2, hb2⟩ : ∃ b, wordL (unums p) = b := ⟨_, rfl⟩
  obtain ⟨b3, hb3⟩ : ∃ b, plainL (unums ho) = b := ⟨_, rfl⟩
  obtain ⟨ef, hef⟩ : ∃ e, fldsE (fdsOf FL) = e := ⟨_, rfl⟩
  rw [hb1] at HT EA
  rw [hb2] at HP EA
  rw [hb3] at HH EA
  rw [hef] at HF EA
  generalize askE ⟨unums m, unums p, unums ho, fdsOf FL, B⟩ = ea at *
  clear h1 h2 h3 h6 h7 h8 h9 hb1 hb2 hb3 hef
  by_cases c1 : 40 < fn
  · have c1' : (40 : Int) < (fn : Int) := by omega
    have E : Vl (ea = 4) := by show ea = 4; rw [EA.out, if_pos (Or.inl c1)]
    go_enter Tryd.func11, Tryd.ntmps11
    go_wp2
    go_ret
    exact ⟨by rw [E.out]; rfl, HW.out⟩
  have c1' : ¬ ((40 : Int) < (fn : Int)) := by omega
  by_cases c2 : 8000 < bn
  · have c2' : (8000 : Int) < (bn : Int) := by omega
    have E : Vl (ea = 4) := by show ea = 4; rw [EA.out, if_pos (Or.inr c2)]
    go_enter Tryd.func11, Tryd.ntmps11
    go_wp2
    go_ret
    exact ⟨by rw [E.out]; rfl, HW.out⟩
  have c2' : ¬ ((8000 : Int) < (bn : Int)) := by omega
  rw [if_neg (by omega)] at EA
  go_enter Tryd.func11, Tryd.ntmps11
  go_wp2_with fail
  refine (HT.out _).mono ?_
  rintro e w' ⟨rfl, rfl⟩
  go_wp2_with fail
  refine (HP.out _).mono ?_
  rintro e w' ⟨rfl, rfl⟩
  go_wp2_with fail
  refine (HH.out _).mono ?_
  rintro e w' ⟨rfl, rfl⟩
  cases b1 with
  | false =>
    have E : Vl (ea = 2) := by show ea = 2; rw [EA.out, if_neg (by simp)]
    go_wp2
    go_ret
    exact ⟨by rw [E.out]; rfl, HW.out⟩
  | true =>
    cases b2 with
    | false =>
      have E : Vl (ea = 2) := by show ea = 2; rw [EA.out, if_neg (by simp)]
      go_wp2
      go_ret
      exact ⟨by rw [E.out]; rfl, HW.out⟩
    | true =>
      cases b3 with
      | false =>
        have E : Vl (ea = 2) := by show ea = 2; rw [EA.out, if_neg (by simp)]
        go_wp2
        go_ret
        exact ⟨by rw [E.out]; rfl, HW.out⟩
      | true =>
        by_cases he : ho.toList = []
        · have E : Vl (ea = 2) := by show ea = 2; rw [EA.out, if_neg (by simp [he])]
          go_wp2
          go_ret
          exact ⟨by rw [E.out]; rfl, HW.out⟩
        · have E : Vl (ea = ef) := by show ea = ef; rw [EA.out, if_pos ⟨rfl, rfl, rfl, he⟩]
          have he' : ho.toList.isEmpty = false := by simpa using he
          go_wp2_with fail
          refine HF.out.mono ?_
          rintro e w' ⟨rfl, rfl⟩
          go_wp2
          go_ret
          exact ⟨by rw [E.out]; rfl, HW.out⟩
set_option maxHeartbeats 4000000 in
theorem rtell_any (q : RpM) (size : Int) (w : World) (h : RpIn w q) : Calls Tryd.prog 14 #[q.val, .int .i64 size] w fun e w' => e = .returned (.int .i64 (tellE q.rp size)) ∧ Below w.heap.size w w' := by
  obtain ⟨code, fa, fn, fc, ba, bn, bc, FL, B⟩ := q
  obtain ⟨_, h1, h2, h3, ⟨h4, h5⟩, h9⟩ := h
  simp only at h1 h2 h3 h4 h5 h9
  have hfl := h1.len
  have hbl := h2.len
  have HW : Vl (Below w.heap.size w (w.alloc (.cells #[.int .i64 code, .slice fa fn fc, .slice ba bn bc] 36))) := (Below.refl _ _).alloc (Nat.le_refl _) _
  have HF := vl (rfields_any fa fn fc FL _ (h1.below HW.out) h4 h9)
  unfold RpM.val RpM.rp
  simp only
  have EA : Vl (tellE ⟨code, fdsOf FL, B⟩ size = if 40 < fn ∨ 8000 < bn then 4 else if code < 100 ∨ 599 < code ∨ size < 0 then 1 else fldsE (fdsOf FL)) := by
    show tellE _ _ = _
    unfold tellE
    simp only [fds_len, hfl, hbl]
  obtain ⟨ef, hef⟩ : ∃ e, fldsE (fdsOf FL) = e := ⟨_, rfl⟩
  rw [hef] at HF EA
  generalize tellE ⟨code, fdsOf FL, B⟩ size = ea at *
  clear h1 h2 h3 h9 hef
  by_cases c1 : 40 < fn
  · have c1' : (40 : Int) < (fn : Int) := by omega
    have E : Vl (ea = 4) := by show ea = 4; rw [EA.out, if_pos (Or.inl c1)]
    go_enter Tryd.func14, Tryd.ntmps14
    go_wp2
    go_ret
    exact ⟨by rw [E.out]; rfl, HW.out⟩
  have c1' : ¬ ((40 : Int) < (fn : Int)) := by omega
  by_cases c2 : 8000 < bn
  · have c2' : (8000 : Int) < (bn : Int) := by omega
    have E : Vl (ea = 4) := by show ea = 4; rw [EA.out, if_pos (Or.inr c2)]
    go_enter Tryd.func14, Tryd.ntmps14
    go_wp2
    go_ret
    exact ⟨by rw [E.out]; rfl, HW.out⟩
  have c2' : ¬ ((8000 : Int) < (bn : Int)) := by omega
  rw [if_neg (by omega)] at EA
  by_cases d1 : code < 100
  · have E : Vl (ea = 1) := by show ea = 1; rw [EA.out, if_pos (Or.inl d1)]
    go_enter Tryd.func14, Tryd.ntmps14
    go_wp2
    go_ret
    exact ⟨by rw [E.out]; rfl, HW.out⟩
  by_cases d2 : 599 < code
  · have E : Vl (ea = 1) := by show ea = 1; rw [EA.out, if_pos (Or.inr (Or.inl d2))]
    go_enter Tryd.func14, Tryd.ntmps14
    go_wp2
    go_ret
    exact ⟨by rw [E.out]; rfl, HW.out⟩
  by_cases d3 : size < 0
  · have E : Vl (ea = 1) := by show ea = 1; rw [EA.out, if_pos (Or.inr (Or.inr d3))]
    go_enter Tryd.func14, Tryd.ntmps14
    go_wp2
    go_ret
    exact ⟨by rw [E.out]; rfl, HW.out⟩
  have E : Vl (ea = ef) := by show ea = ef; rw [EA.out, if_neg (by omega)]
  go_enter Tryd.func14, Tryd.ntmps14
  go_wp2_with fail
  refine HF.out.mono ?_
  rintro e w' ⟨rfl, rfl⟩
  go_wp2
  go_ret
  exact ⟨by rw [E.out]; rfl, HW.out⟩
end Go.Proofs.YtgjolljhjagngafDoor
