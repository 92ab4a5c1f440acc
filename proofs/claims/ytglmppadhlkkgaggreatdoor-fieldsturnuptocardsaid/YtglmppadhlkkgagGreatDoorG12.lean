/-
  MESSAGES AS LINES: the developers' writer: isTaken, tooMuch, appendField, appendFields, appendLength, checkFields. No claim by itself.
-/
import Derived.Shelf.RegionOpenPlain
import Derived.Deep.DeepCutAuto
import Derived.Test.YtglmppadhlkkgagGreatDoorNdv4X
import Derived.Test.YtglmppadhlkkgagGreatDoorG10
import Derived.Test.YtglmppadhlkkgagGreatDoorNitoaX
import Derived.Test.YtglmppadhlkkgagGreatDoorG2
namespace Go.Proofs.YtglmppadhlkkgagGreatDoor
open Go Go.RowKit Go.Shelf
set_option maxRecDepth 100000
def takenB (n : ByteArray) : Bool := decide (unums n = hostN ∨ unums n = lengthN ∨ unums n = codingN)
theorem ntaken_any (n : ByteArray) (w : World) : Calls Tryz.prog 168 #[.string n] w fun e w' => e = .returned (.bool (takenB n)) ∧ w = w' := by
  by_cases q1 : n.toList = [104, 111, 115, 116]
  · have e : takenB n = true := decide_eq_true (Or.inl (toL_host.1 q1))
    rw [e]
    go_enter Tryz.func168, Tryz.ntmps168
    go_wp2
    go_ret
    exact ⟨rfl, rfl⟩
  · have q1' : (n.toList == [104, 111, 115, 116]) = false := by simpa using q1
    by_cases q2 : n.toList = [108, 101, 110, 103, 116, 104]
    · have e : takenB n = true := decide_eq_true (Or.inr (Or.inl (toL_length.1 q2)))
      rw [e]
      go_enter Tryz.func168, Tryz.ntmps168
      go_wp2
      go_ret
      exact ⟨rfl, rfl⟩
    · have q2' : (n.toList == [108, 101, 110, 103, 116, 104]) = false := by simpa using q2
      by_cases q3 : n.toList = [99, 111, 100, 105, 110, 103]
      · have e : takenB n = true := decide_eq_true (Or.inr (Or.inr (toL_coding.1 q3)))
        rw [e]
        go_enter Tryz.func168, Tryz.ntmps168
        go_wp2
        go_ret
        exact ⟨rfl, rfl⟩
      · have q3' : (n.toList == [99, 111, 100, 105, 110, 103]) = false := by simpa using q3
        have e : takenB n = false := decide_eq_false (by
          rintro (h | h | h)
          · exact q1 (toL_host.2 h)
          · exact q2 (toL_length.2 h)
          · exact q3 (toL_coding.2 h))
        rw [e]
        go_enter Tryz.func168, Tryz.ntmps168
        go_wp2
        go_ret
        exact ⟨rfl, rfl⟩
def muchB (fn bn : Nat) : Bool := decide (40 < fn ∨ 8000 < bn)
theorem ntoo_any (fa ba : Option Addr) (fn fc bn bc : Nat) (w : World) : Calls Tryz.prog 99 #[.slice fa fn fc, .slice ba bn bc] w fun e w' => e = .returned (.bool (muchB fn bn)) ∧ w = w' := by
  by_cases h1 : 40 < fn
  · have e : muchB fn bn = true := decide_eq_true (Or.inl h1)
    have h1' : (40 : Int) < (fn : Int) := by omega
    rw [e]
    go_enter Tryz.func99, Tryz.ntmps99
    go_wp2
    go_ret
    exact ⟨rfl, rfl⟩
  · have h1' : ¬ (40 : Int) < (fn : Int) := by omega
    by_cases h2 : 8000 < bn
    · have e : muchB fn bn = true := decide_eq_true (Or.inr h2)
      have h2' : (8000 : Int) < (bn : Int) := by omega
      rw [e]
      go_enter Tryz.func99, Tryz.ntmps99
      go_wp2
      go_ret
      exact ⟨rfl, rfl⟩
    · have e : muchB fn bn = false := decide_eq_false (by omega)
      have h2' : ¬ (8000 : Int) < (bn : Int) := by omega
      rw [e]
      go_enter Tryz.func99, Tryz.ntmps99
      go_wp2
      go_ret
      exact ⟨rfl, rfl⟩
theorem napf_grown (base : Nat) (v : Value) (L : List Int) (n s : ByteArray) (w : World) (ho : UOwn w base v L) (hL : L.length ≤ 1000000) (hn : n.size ≤ 10000) (hs : s.size ≤ 10000) (hb : base ≤ w.heap.size) :
    Calls Tryz.prog 105 #[v, .string n, .string s] w fun e w' => ∃ v', e = .returned v' ∧ UOwn w' base v' (L ++ lineOf (unums n, unums s)) ∧ Below base w w' ∧ w.grownBy w' v.ownBlock := by
  have HO := vl ho
  have HN : Vl (unums (n ++ ⟨#[58, 32]⟩ ++ s ++ ⟨#[13, 10]⟩) = lineOf (unums n, unums s)) := by
    show unums _ = _
    simp only [unums_app]
    rw [show unums ⟨#[58, 32]⟩ = [58, 32] from rfl, show unums ⟨#[13, 10]⟩ = [13, 10] from rfl]
    simp [lineOf]
  have hsz : (lineOf (unums n, unums s)).length ≤ 20004 := by
    unfold lineOf
    simp [unums_len]
    omega
  clear ho
  go_enter Tryz.func105, Tryz.ntmps105
  go_wp2_with (at_builtin; refine wpList_uapps _ rfl _ _ rfl base _ _ rfl HO.out _ rfl _ HN.out (by omega) hb ?_)
  intro v2 w2 ho2 hg2
  have HO2 := vl ho2
  have HB2 := vl (u_below_grown (Below.refl base w) hg2 hb (fun k hk => (HO.out.base k hk).1))
  have HG2 := vl hg2
  clear ho2 hg2
  go_wp2
  go_ret
  exact ⟨_, rfl, HO2.out, HB2.out, HG2.out⟩
theorem napf_any (base : Nat) (v : Value) (L : List Int) (n s : ByteArray) (w : World) (ho : UOwn w base v L) (hL : L.length ≤ 1000000) (hn : n.size ≤ 10000) (hs : s.size ≤ 10000) (hb : base ≤ w.heap.size) :
    Calls Tryz.prog 105 #[v, .string n, .string s] w fun e w' => ∃ v', e = .returned v' ∧ UOwn w' base v' (L ++ lineOf (unums n, unums s)) ∧ Below base w w' := by
  refine (napf_grown base v L n s w ho hL hn hs hb).mono ?_
  rintro e w' ⟨v', rfl, h1, h2, _⟩
  exact ⟨v', rfl, h1, h2⟩
theorem napl_any (base : Nat) (v : Value) (L : List Int) (ba : Option Addr) (bn bc : Nat) (w : World) (ho : UOwn w base v L) (hL : L.length ≤ 1000000) (hn : bn ≤ 8000) (hb : base ≤ w.heap.size) (hT : NLaid w) :
    Calls Tryz.prog 107 #[v, .slice ba bn bc] w fun e w' => ∃ v', e = .returned v' ∧ UOwn w' base v' (L ++ lineOf (lengthN, decL bn)) ∧ Below base w w' := by
  have H1 := vl (nitoa_any bn (by omega) w hT)
  have HO := vl ho
  clear ho hT
  go_enter Tryz.func107, Tryz.ntmps107
  go_wp2_with fail
  refine H1.out.mono ?_
  rintro e w1 ⟨s, rfl, hs, hb1⟩
  have hss : s.size ≤ 10000 := by rw [← unums_len, hs]; have := decL_le bn; omega
  have H2 := vl (napf_any base v L ⟨#[108, 101, 110, 103, 116, 104]⟩ s w1 (HO.out.below hb1) hL (by decide) hss (Nat.le_trans hb hb1.size))
  have HB1 := vl hb1
  have HS := vl hs
  clear H1 hb1 hs
  go_wp2_with fail
  refine H2.out.mono ?_
  rintro e w2 ⟨v2, rfl, ho2, hb2⟩
  have HO2 := vl ho2
  have HB2 := vl hb2
  clear H2 ho2 hb2
  go_wp2
  go_ret
  refine ⟨_, rfl, ?_, (HB1.out.mono hb).trans HB2.out⟩
  have := HO2.out
  rw [HS.out] at this
  exact this
set_option maxHeartbeats 2000000 in
theorem napfs_any (w0 : World) (base : Nat) (v : Value) (L : List Int) (fa : Option Addr) (fn fc : Nat) (FL : List (ByteArray × ByteArray)) (w : World) (hA : FArg w0 fa fn fc FL) (hw0 : w0.heap.size ≤ base) (hbel : Below w0.heap.size w0 w) (ho : UOwn w base v L) (hL : L.length ≤ 10000) (hm : fn ≤ 40) (he : fldsE (fdsOf FL) = 0) (hb : base ≤ w.heap.size) :
    Calls Tryz.prog 106 #[v, .slice fa fn fc] w fun e w' => ∃ v', e = .returned v' ∧ UOwn w' base v' (L ++ linesL (fdsOf FL)) ∧ Below base w w' := by
  have hlen := hA.len
  have HA := vl hA
  have HE := vl he
  have HO := vl ho
  have HBL := vl hbel
  clear hA he ho hbel
  go_enter Tryz.func106, Tryz.ntmps106
  go_wp2_with fail
  go_loopw [0, 9] (fun x i wr => ∃ (k : Nat), i = .int .i64 k ∧ k ≤ fn ∧ Vl (UOwn wr base x (L ++ linesL ((fdsOf FL).take k))) ∧ Vl (Below base w wr)) (fun _ i _ => fn - (intOf i).toNat)
  case atStart => exact ⟨0, rfl, by omega, by show UOwn _ _ _ _; simpa [linesL] using HO.out, Below.refl _ _⟩
  case round =>
    obtain ⟨k, rfl, hk, HU, HB⟩ := hrel
    by_cases hlt : k < fn
    · rcases (HA.out.below (HBL.out.trans (HB.out.mono hw0))) with ⟨h0, _⟩ | ⟨g, off, rfl, hr⟩
      · omega
      have c1 := hr.hname k hlt
      have c2 := hr.hvalue k hlt
      have hcap := hr.hcap
      have hlt' : (k : Int) < (fn : Int) := by omega
      have HT := vl (fds_take (L := FL) (k := k) (by omega))
      obtain ⟨⟨n, s⟩, hf⟩ : ∃ f, FL.getD k fnone = f := ⟨_, rfl⟩
      rw [hf] at c1 c2 HT
      have hgood : fldE (unums n, unums s) = 0 ∧ fldsE ((fdsOf FL).take k) = 0 := by
        have h9 := HE.out
        rw [← List.take_append_drop (k + 1) (fdsOf FL), flds_app, HT.out, flds_app] at h9
        exact ⟨(flds_cons.1 h9.1.2).1, h9.1.1⟩
      have hn1 : n.size ≤ 10000 := by
        have := (name_small (fld_ok hgood.1).1).2.1
        rw [unums_len] at this
        omega
      have hv1 : s.size ≤ 10000 := by
        have := (plain_ok (fld_ok hgood.1).2.1).1
        rw [unums_len] at this
        omega
      have hll := lines_le hgood.2
      rw [List.length_take] at hll
      have hsz : (L ++ linesL ((fdsOf FL).take k)).length ≤ 1000000 := by
        rw [List.length_append]
        omega
      have hbw : Below wr.heap.size wr (wr.alloc (.cells #[.string n, .string s] 51)) := (Below.refl _ _).alloc (Nat.le_refl _) _
      have hbs : base ≤ wr.heap.size := Nat.le_trans hb HB.out.size
      have H1 := vl (napf_any base _ _ n s _ (HU.out.below hbw) hsz hn1 hv1 (Nat.le_trans hbs hbw.size))
      have HB1 : Vl (Below base w (wr.alloc (.cells #[.string n, .string s] 51))) := HB.out.trans (hbw.mono hbs)
      obtain ⟨d0, d1, _, _⟩ := f2_cell (heap_alloc_new wr (.cells #[.string n, .string s] 51 (0, 0)))
      clear hf hr hgood hll hsz hbw
      go_wp2_with fail
      refine H1.out.mono ?_
      rintro e w1 ⟨v1, rfl, ho1, hb1⟩
      have HO1 : Vl (UOwn w1 base v1 (L ++ linesL ((fdsOf FL).take (k + 1)))) := by
        show UOwn _ _ _ _
        rw [HT.out, lines_snoc, ← List.append_assoc]
        exact ho1
      have HB2 : Vl (Below base w w1) := HB1.out.trans hb1
      clear ho1 hb1 H1 HB1 d0 d1
      go_wp2
      go_roundw
      case rel => exact ⟨k + 1, by go_num, by omega, HO1.out, HB2.out⟩
      case measure => simp [intOf]; omega
    · have hlt' : ¬ ((k : Int) < (fn : Int)) := by omega
      have HX : Vl ((fdsOf FL).take k = fdsOf FL) := List.take_of_length_le (by rw [fds_len]; omega)
      go_wp2
      go_ret
      refine ⟨_, rfl, ?_, HB.out⟩
      have := HU.out
      rw [HX.out] at this
      exact this
end Go.Proofs.YtglmppadhlkkgagGreatDoor
/-
  MESSAGES AS LINES: the developers' writer: checkFields. No claim by itself.
-/
namespace Go.Proofs.YtglmppadhlkkgagGreatDoor
open Go Go.RowKit Go.Shelf
set_option maxRecDepth 100000
/-- What is known of one field. -/
def FdT (FL : List (ByteArray × ByteArray)) (k : Nat) (n s : ByteArray) : Prop := fldsE (fdsOf FL) = fldsE ((unums n, unums s) :: (fdsOf FL).drop (k + 1))
theorem fd_bad {FL : List (ByteArray × ByteArray)} {k : Nat} {n s : ByteArray} (h : FdT FL k n s) (hb : (nameL (unums n) && plainL (unums s)) = false) : fldsE (fdsOf FL) = 2 := by
  rw [h]
  have : fldE (unums n, unums s) = 2 := by
    unfold fldE
    rw [if_neg]
    rintro ⟨x, y⟩
    simp only at x y
    rw [x, y] at hb
    cases hb
  show (if fldE (unums n, unums s) = 0 then _ else fldE (unums n, unums s)) = 2
  rw [this]
  rfl
theorem fd_three {FL : List (ByteArray × ByteArray)} {k : Nat} {n s : ByteArray} (h : FdT FL k n s) (h1 : nameL (unums n) = true) (h2 : plainL (unums s) = true) (h3 : takenB n = true) : fldsE (fdsOf FL) = 3 := by
  rw [h]
  have : fldE (unums n, unums s) = 3 := by
    unfold fldE
    rw [if_pos ⟨h1, h2⟩, if_pos (of_decide_eq_true h3)]
  show (if fldE (unums n, unums s) = 0 then _ else fldE (unums n, unums s)) = 3
  rw [this]
  rfl
theorem fd_next {FL : List (ByteArray × ByteArray)} {k : Nat} {n s : ByteArray} (h : FdT FL k n s) (h1 : nameL (unums n) = true) (h2 : plainL (unums s) = true) (h3 : takenB n = false) : fldsE (fdsOf FL) = fldsE ((fdsOf FL).drop (k + 1)) := by
  rw [h]
  have hn := of_decide_eq_false h3
  have : fldE (unums n, unums s) = 0 := fld_of h1 h2 (fun e => hn (Or.inl e)) (fun e => hn (Or.inr (Or.inl e))) (fun e => hn (Or.inr (Or.inr e)))
  show (if fldE (unums n, unums s) = 0 then _ else fldE (unums n, unums s)) = _
  rw [if_pos this]
set_option maxHeartbeats 4000000 in
theorem ncheckf_any (fa : Option Addr) (fn fc : Nat) (FL : List (ByteArray × ByteArray)) (w : World) (hA : FArg w fa fn fc FL) (hm : fn ≤ 4611686018427387904) (he : ∀ t, (FL.getD t fnone).1.size ≤ 140737488351232 ∧ (FL.getD t fnone).2.size ≤ 140737488351232) :
    Calls Tryz.prog 104 #[.slice fa fn fc] w fun e w' => e = .returned (errW (fldsE (fdsOf FL))) ∧ Below w.heap.size w w' := by
  have hlen := hA.len
  have HA := vl hA
  have HE := vl he
  clear hA he
  go_enter Tryz.func104, Tryz.ntmps104
  go_wp2_with fail
  go_loopw [7] (fun i wr => ∃ k : Nat, i = .int .i64 k ∧ k ≤ fn ∧ Vl (fldsE (fdsOf FL) = fldsE ((fdsOf FL).drop k)) ∧ Vl (Below w.heap.size w wr)) (fun i _ => fn - (intOf i).toNat)
  case atStart => exact ⟨0, rfl, by omega, rfl, Below.refl _ _⟩
  case round =>
    obtain ⟨k, rfl, hk, HK, HB⟩ := hrel
    by_cases hlt : k < fn
    · rcases (HA.out.below HB.out) with ⟨h0, _⟩ | ⟨g, off, rfl, hr⟩
      · omega
      have c1 := hr.hname k hlt
      have c2 := hr.hvalue k hlt
      have hcap := hr.hcap
      have hlt' : (k : Int) < (fn : Int) := by omega
      have HD := fds_drop (L := FL) (k := k) (by omega)
      have hsz := HE.out k
      obtain ⟨⟨n, s⟩, hf⟩ : ∃ f, FL.getD k fnone = f := ⟨_, rfl⟩
      rw [hf] at c1 c2 HD hsz
      have HF : Vl (FdT FL k n s) := by
        show fldsE _ = _
        rw [HK.out, HD]
      obtain ⟨W1, hW1⟩ : ∃ W1, wr.alloc (.cells #[.string n, .string s] 51) = W1 := ⟨_, rfl⟩
      have hbw : Below wr.heap.size wr W1 := by rw [← hW1]; exact (Below.refl _ _).alloc (Nat.le_refl _) _
      have hx1 : W1.heap[wr.heap.size]? = some (.cells #[.string n, .string s] 51 (0, 0)) := by rw [← hW1]; exact heap_alloc_new wr _
      have HB1 : Vl (Below w.heap.size w W1) := HB.out.trans (hbw.mono HB.out.size)
      obtain ⟨d0, d1, _, _⟩ := f2_cell hx1
      have hlt1 : wr.heap.size < W1.heap.size := (Array.getElem?_eq_some_iff.1 hx1).1
      have HZ : Vl (∀ w1, Below W1.drew.heap.size W1.drew w1 → w1.cell? ⟨wr.heap.size, 0, none⟩ = some (.string n) ∧ w1.cell? ⟨wr.heap.size, 1, none⟩ = some (.string s) ∧ Below w.heap.size w w1) := fun w1 hb => ⟨(hb.cell (p := ⟨wr.heap.size, 0, none⟩) hlt1).trans d0, (hb.cell (p := ⟨wr.heap.size, 1, none⟩) hlt1).trans d1, HB1.out.trans (((Below.refl _ W1).drew.trans hb).mono HB1.out.size)⟩
      have HN := vl (nnamef_any W1.drew)
      have HH : Vl (∀ (G : Value) (B : Nat) (W : World), MayF W B G isSmall → Calls Tryz.prog 102 #[formV 1 G, .string n] W fun e w' => e = .returned (.bool (nameL (unums n))) ∧ Below W.heap.size W w') := fun G B W hG => by
        have := nholds_any 1 G isSmall B n W hG hsz.1
        rw [form_name] at this
        exact this
      have HP : Vl (∀ W, Calls Tryz.prog 167 #[.string s] W fun e w' => e = .returned (.bool (plainL (unums s))) ∧ Below W.heap.size W w') := fun W => nplain_any0 s W hsz.2
      obtain ⟨b1, hb1⟩ : ∃ b, nameL (unums n) = b := ⟨_, rfl⟩
      obtain ⟨b2, hb2⟩ : ∃ b, plainL (unums s) = b := ⟨_, rfl⟩
      rw [hb1] at HH
      rw [hb2] at HP
      have HQ1 := vl hb1
      have HQ2 := vl hb2
      unfold formV at HN HH
      have HW1 := vl hW1
      clear hf hr hb1 hb2 HD hsz hbw hx1 hlt1 hW1
      cases b1 with
      | true =>
        go_wp2_with fail
        rw [HW1.out]
        clear HW1
        go_region_held3 (fun w1 => w1.cell? ⟨wr.heap.size, 0, none⟩ = some (.string n) ∧ w1.cell? ⟨wr.heap.size, 1, none⟩ = some (.string s))
          (first
            | go_keep
            | (exact ⟨(HZ.out _ hbc).1, (HZ.out _ hbc).2.1⟩)
            | (exact ⟨(HZ.out _ hbb).1, (HZ.out _ hbb).2.1⟩)
            | (exact ⟨(HZ.out _ hba).1, (HZ.out _ hba).2.1⟩))
          (first
            | (go_at_call 166; refine HN.out.mono ?_; rintro e wa ⟨G, rfl, hG, hba⟩)
            | (go_at_call 102; refine (HH.out G _ _ hG).mono ?_; rintro e wb ⟨rfl, hb0⟩; have hbb := hba.trans (hb0.mono hba.size))
            | (go_at_call 167; refine (HP.out _).mono ?_; rintro e wc ⟨rfl, hc0⟩; have hbc := hbb.trans (hc0.mono hbb.size)))
        obtain ⟨e0, e1, hbw⟩ := HZ.out _ hbc
        have HBW := vl hbw
        have HT := vl (ntaken_any n wc)
        clear HZ HN HH HP hba hbb hbc hb0 hc0 hG d0 d1 hbw
        cases b2 with
        | false =>
          have HX := vl (fd_bad HF.out (by rw [HQ1.out, HQ2.out]; rfl))
          go_wp2
          go_ret
          refine ⟨?_, HBW.out⟩
          rw [HX.out, errW_ne (by omega)]
          rfl
        | true =>
          obtain ⟨b3, hb3⟩ : ∃ b, takenB n = b := ⟨_, rfl⟩
          rw [hb3] at HT
          have HQ3 := vl hb3
          clear hb3
          cases b3 with
          | true =>
            have HX := vl (fd_three HF.out HQ1.out HQ2.out HQ3.out)
            go_wp2_with (go_at_call 168; refine HT.out.mono ?_; rintro e w' ⟨rfl, rfl⟩)
            go_ret
            refine ⟨?_, HBW.out⟩
            rw [HX.out, errW_ne (by omega)]
            rfl
          | false =>
            have HX := vl (fd_next HF.out HQ1.out HQ2.out HQ3.out)
            go_wp2_with (go_at_call 168; refine HT.out.mono ?_; rintro e w' ⟨rfl, rfl⟩)
            go_roundw
            case rel => exact ⟨k + 1, by go_num, by omega, HX.out, HBW.out⟩
            case measure => simp [intOf]; omega
      | false =>
        have HX := vl (fd_bad HF.out (by rw [HQ1.out]; rfl))
        go_wp2_with fail
        rw [HW1.out]
        clear HW1
        refine wp_region_any (by kernel_rfl) ?_
        change wpAny _ _ _ _ _ _ _ (World.drew _)
        refine wpAny_ready (rs := [0, 1]) (by kernel_rfl) (by simp) ?_
        refine AllReady.cons rfl (fun K hK => ?_) ?_
        · go_simp
          go_wp2_with (go_at_call 166; refine HN.out.mono ?_; rintro e wa ⟨G, rfl, hG, hba⟩; obtain ⟨ea0, ea1, hwa⟩ := HZ.out _ hba)
          refine wpAny_ready (rs := [1]) (by kernel_rfl) (by simp) ?_
          refine AllReady.cons rfl (fun K hK => ?_) ?_
          · go_simp
            refine hK _ _ ?_
            clear hK K
            refine wpAny_ready (rs := [2]) (by kernel_rfl) (by simp) ?_
            refine AllReady.cons rfl (fun K hK => ?_) ?_
            · go_simp
              refine hK _ _ ?_
              clear hK K
              refine wpAny_ready (rs := [3]) (by kernel_rfl) (by simp) ?_
              refine AllReady.cons rfl (fun K hK => ?_) ?_
              · go_simp
                go_wp2_with (go_at_call 102; refine (HH.out G _ _ hG).mono ?_; rintro e wb ⟨rfl, hb0⟩; obtain ⟨_, _, hwb⟩ := HZ.out _ (hba.trans (hb0.mono hba.size)))
                refine wpAny_ready (rs := [4]) (by kernel_rfl) (by simp) ?_
                refine AllReady.cons rfl (fun K hK => ?_) ?_
                · go_simp
                  refine hK _ _ ?_
                  clear hK K
                  refine wpAny_ready (rs := [5]) (by kernel_rfl) (by simp) ?_
                  refine AllReady.cons rfl (fun K hK => ?_) ?_
                  · go_simp
                    refine hK _ _ ?_
                    clear hK K
                    refine wpAny_ready (rs := [6]) (by kernel_rfl) (by simp) ?_
                    refine AllReady.cons rfl (fun K hK => ?_) ?_
                    · go_simp
                      refine hK _ _ ?_
                      clear hK K
                      refine wpAny_ready (rs := [7]) (by kernel_rfl) (by simp) ?_
                      refine AllReady.cons rfl (fun K hK => ?_) ?_
                      · go_simp
                        refine hK _ _ ?_
                        clear hK K
                        refine wpAny_ready (rs := [8]) (by kernel_rfl) (by simp) ?_
                        refine AllReady.cons rfl (fun K hK => ?_) ?_
                        · go_simp
                          refine hK _ _ ?_
                          clear hK K
                          refine wpAny_ready (rs := [9]) (by kernel_rfl) (by simp) ?_
                          refine AllReady.cons rfl (fun K hK => ?_) ?_
                          · go_simp
                            refine hK _ _ ?_
                            clear hK K
                            refine wpAny_ready (rs := [10]) (by kernel_rfl) (by simp) ?_
                            refine AllReady.cons rfl (fun K hK => ?_) ?_
                            · go_simp
                              refine hK _ _ ?_
                              clear hK K
                              refine wpAny_done (by kernel_rfl) ?_ _
                              have HBW := vl hwb
                              clear HZ HN HH HP hba hb0 hG d0 d1 hwb hwa
                              go_wp2
                              go_ret
                              refine ⟨?_, HBW.out⟩
                              rw [HX.out, errW_ne (by omega)]
                              rfl
                            exact AllReady.nil
                          exact AllReady.nil
                        exact AllReady.nil
                      exact AllReady.nil
                    exact AllReady.nil
                  exact AllReady.nil
                exact AllReady.nil
              exact AllReady.nil
            exact AllReady.nil
          exact AllReady.nil
        refine AllReady.cons rfl (fun K hK => ?_) ?_
        · go_simp
          refine hK _ _ ?_
          clear hK K
          refine wpAny_ready (rs := [0, 2]) (by kernel_rfl) (by simp) ?_
          refine AllReady.cons rfl (fun K hK => ?_) ?_
          · go_simp
            go_wp2_with (go_at_call 166; refine HN.out.mono ?_; rintro e wa ⟨G, rfl, hG, hba⟩; obtain ⟨ea0, ea1, hwa⟩ := HZ.out _ hba)
            refine wpAny_ready (rs := [2]) (by kernel_rfl) (by simp) ?_
            refine AllReady.cons rfl (fun K hK => ?_) ?_
            · go_simp
              refine hK _ _ ?_
              clear hK K
              refine wpAny_ready (rs := [3]) (by kernel_rfl) (by simp) ?_
              refine AllReady.cons rfl (fun K hK => ?_) ?_
              · go_simp
                go_wp2_with (go_at_call 102; refine (HH.out G _ _ hG).mono ?_; rintro e wb ⟨rfl, hb0⟩; obtain ⟨_, _, hwb⟩ := HZ.out _ (hba.trans (hb0.mono hba.size)))
                refine wpAny_ready (rs := [4]) (by kernel_rfl) (by simp) ?_
                refine AllReady.cons rfl (fun K hK => ?_) ?_
                · go_simp
                  refine hK _ _ ?_
                  clear hK K
                  refine wpAny_ready (rs := [5]) (by kernel_rfl) (by simp) ?_
                  refine AllReady.cons rfl (fun K hK => ?_) ?_
                  · go_simp
                    refine hK _ _ ?_
                    clear hK K
                    refine wpAny_ready (rs := [6]) (by kernel_rfl) (by simp) ?_
                    refine AllReady.cons rfl (fun K hK => ?_) ?_
                    · go_simp
                      refine hK _ _ ?_
                      clear hK K
                      refine wpAny_ready (rs := [7]) (by kernel_rfl) (by simp) ?_
                      refine AllReady.cons rfl (fun K hK => ?_) ?_
                      · go_simp
                        refine hK _ _ ?_
                        clear hK K
                        refine wpAny_ready (rs := [8]) (by kernel_rfl) (by simp) ?_
                        refine AllReady.cons rfl (fun K hK => ?_) ?_
                        · go_simp
                          refine hK _ _ ?_
                          clear hK K
                          refine wpAny_ready (rs := [9]) (by kernel_rfl) (by simp) ?_
                          refine AllReady.cons rfl (fun K hK => ?_) ?_
                          · go_simp
                            refine hK _ _ ?_
                            clear hK K
                            refine wpAny_ready (rs := [10]) (by kernel_rfl) (by simp) ?_
                            refine AllReady.cons rfl (fun K hK => ?_) ?_
                            · go_simp
                              refine hK _ _ ?_
                              clear hK K
                              refine wpAny_done (by kernel_rfl) ?_ _
                              have HBW := vl hwb
                              clear HZ HN HH HP hba hb0 hG d0 d1 hwb hwa
                              go_wp2
                              go_ret
                              refine ⟨?_, HBW.out⟩
                              rw [HX.out, errW_ne (by omega)]
                              rfl
                            exact AllReady.nil
                          exact AllReady.nil
                        exact AllReady.nil
                      exact AllReady.nil
                    exact AllReady.nil
                  exact AllReady.nil
                exact AllReady.nil
              exact AllReady.nil
            exact AllReady.nil
          refine AllReady.cons rfl (fun K hK => ?_) ?_
          · go_simp
            refine hK _ _ ?_
            clear hK K
            refine wpAny_ready (rs := [0]) (by kernel_rfl) (by simp) ?_
            refine AllReady.cons rfl (fun K hK => ?_) ?_
            · go_simp
              go_wp2_with (go_at_call 166; refine HN.out.mono ?_; rintro e wa ⟨G, rfl, hG, hba⟩; obtain ⟨ea0, ea1, hwa⟩ := HZ.out _ hba)
              refine wpAny_ready (rs := [3]) (by kernel_rfl) (by simp) ?_
              refine AllReady.cons rfl (fun K hK => ?_) ?_
              · go_simp
                go_wp2_with (go_at_call 102; refine (HH.out G _ _ hG).mono ?_; rintro e wb ⟨rfl, hb0⟩; obtain ⟨_, _, hwb⟩ := HZ.out _ (hba.trans (hb0.mono hba.size)))
                refine wpAny_ready (rs := [4]) (by kernel_rfl) (by simp) ?_
                refine AllReady.cons rfl (fun K hK => ?_) ?_
                · go_simp
                  refine hK _ _ ?_
                  clear hK K
                  refine wpAny_ready (rs := [5]) (by kernel_rfl) (by simp) ?_
                  refine AllReady.cons rfl (fun K hK => ?_) ?_
                  · go_simp
                    refine hK _ _ ?_
                    clear hK K
                    refine wpAny_ready (rs := [6]) (by kernel_rfl) (by simp) ?_
                    refine AllReady.cons rfl (fun K hK => ?_) ?_
                    · go_simp
                      refine hK _ _ ?_
                      clear hK K
                      refine wpAny_ready (rs := [7]) (by kernel_rfl) (by simp) ?_
                      refine AllReady.cons rfl (fun K hK => ?_) ?_
                      · go_simp
                        refine hK _ _ ?_
                        clear hK K
                        refine wpAny_ready (rs := [8]) (by kernel_rfl) (by simp) ?_
                        refine AllReady.cons rfl (fun K hK => ?_) ?_
                        · go_simp
                          refine hK _ _ ?_
                          clear hK K
                          refine wpAny_ready (rs := [9]) (by kernel_rfl) (by simp) ?_
                          refine AllReady.cons rfl (fun K hK => ?_) ?_
                          · go_simp
                            refine hK _ _ ?_
                            clear hK K
                            refine wpAny_ready (rs := [10]) (by kernel_rfl) (by simp) ?_
                            refine AllReady.cons rfl (fun K hK => ?_) ?_
                            · go_simp
                              refine hK _ _ ?_
                              clear hK K
                              refine wpAny_done (by kernel_rfl) ?_ _
                              have HBW := vl hwb
                              clear HZ HN HH HP hba hb0 hG d0 d1 hwb hwa
                              go_wp2
                              go_ret
                              refine ⟨?_, HBW.out⟩
                              rw [HX.out, errW_ne (by omega)]
                              rfl
                            exact AllReady.nil
                          exact AllReady.nil
                        exact AllReady.nil
                      exact AllReady.nil
                    exact AllReady.nil
                  exact AllReady.nil
                exact AllReady.nil
              exact AllReady.nil
            exact AllReady.nil
          exact AllReady.nil
        exact AllReady.nil
    · have hlt' : ¬ ((k : Int) < (fn : Int)) := by omega
      have HX : Vl (fldsE (fdsOf FL) = 0) := by
        show fldsE _ = 0
        rw [HK.out, List.drop_eq_nil_of_le (by rw [fds_len]; omega)]
        rfl
      go_wp2
      go_ret
      refine ⟨?_, HB.out⟩
      rw [HX.out]
      rfl
end Go.Proofs.YtglmppadhlkkgagGreatDoor
/-
  MESSAGES AS LINES: the developers' writer: Ask. No claim by itself.
-/
namespace Go.Proofs.YtglmppadhlkkgagGreatDoor
open Go Go.RowKit Go.Shelf
set_option maxRecDepth 100000
theorem q5_cell {w : World} {B : Nat} {a b c d e : Value} {T : TypeId} (h : w.heap[B]? = some (.cells #[a, b, c, d, e] T (0, 0))) : w.cell? ⟨B, 0, none⟩ = some a ∧ w.cell? ⟨B, 1, none⟩ = some b ∧ w.cell? ⟨B, 2, none⟩ = some c ∧ w.cell? ⟨B, 3, none⟩ = some d ∧ w.cell? ⟨B, 4, none⟩ = some e := by simp [World.cell?, h]
theorem ask_parts {q : RqM} {w : World} (h : RqIn w q) : askE q.rq = if muchB q.fn q.bn = true then 4 else if tokL (unums q.m) = true ∧ wordL (unums q.p) = true ∧ formL ok3 1 (unums q.h) = true then fldsE (fdsOf q.FL) else 2 := by
  unfold askE RqM.rq muchB
  simp only
  rw [fds_len, h.fields.len, h.body.len]
  have e1 : (plainL (unums q.h) = true ∧ unums q.h ≠ []) ↔ formL ok3 1 (unums q.h) = true := by
    rw [form_plain, Bool.and_eq_true, decide_eq_true_eq]
    constructor
    · rintro ⟨a, b⟩; exact ⟨a, pos_of b⟩
    · rintro ⟨a, b⟩; exact ⟨a, fun e => by rw [e] at b; simp at b⟩
  by_cases hm : 40 < q.fn ∨ 8000 < q.bn
  · rw [if_pos hm, decide_eq_true hm, if_pos rfl]
  · rw [if_neg hm, decide_eq_false hm]
    simp only [Bool.false_eq_true, if_false, e1]
set_option maxHeartbeats 4000000 in
theorem nask_bad (q : RqM) (w : World) (h : RqIn w q) (hbad : muchB q.fn q.bn = true ∨ tokL (unums q.m) = false ∨ wordL (unums q.p) = false) :
    Calls Tryz.prog 42 #[q.val] w fun e w' => ∃ v, e = .returned (.tuple #[v, errW (askE q.rq)]) ∧ UOwn w' w.heap.size v (askOut q.rq) ∧ Below w.heap.size w w' := by
  have hparts := ask_parts h
  obtain ⟨m, p, ho, fa, fn, fc, ba, bn, bc, FL, B⟩ := q
  obtain ⟨h1, h2, h3, ⟨h4, h5⟩, ⟨h6, h7, h8⟩, h9⟩ := h
  simp only at h1 h2 h3 h4 h5 h6 h7 h8 h9 hparts hbad
  obtain ⟨W1, hW1⟩ : ∃ W1, w.alloc (.cells #[.string m, .string p, .string ho, .slice fa fn fc, .slice ba bn bc] 25) = W1 := ⟨_, rfl⟩
  have HW : Vl (Below w.heap.size w W1) := by rw [← hW1]; exact (Below.refl _ _).alloc (Nat.le_refl _) _
  have hx : W1.heap[w.heap.size]? = some (.cells #[.string m, .string p, .string ho, .slice fa fn fc, .slice ba bn bc] 25 (0, 0)) := by rw [← hW1]; exact heap_alloc_new w _
  obtain ⟨c0, c1, c2, c3, c4⟩ := q5_cell hx
  have hlt : w.heap.size < W1.heap.size := (Array.getElem?_eq_some_iff.1 hx).1
  have HM := vl (ntoo_any fa ba fn fc bn bc W1)
  obtain ⟨EA, hEA⟩ : ∃ EA, askE (RqM.rq ⟨m, p, ho, fa, fn, fc, ba, bn, bc, FL, B⟩) = EA := ⟨_, rfl⟩
  rw [hEA] at hparts
  have HEA := vl hEA
  obtain ⟨AO, hAO⟩ : ∃ AO, askOut (RqM.rq ⟨m, p, ho, fa, fn, fc, ba, bn, bc, FL, B⟩) = AO := ⟨_, rfl⟩
  have HAO : Vl (EA ≠ 0 → AO = []) := fun he => by
    rw [← hAO]
    unfold askOut
    rw [if_neg (by rw [HEA.out]; exact he)]
  rw [hEA, hAO]
  unfold RqM.val
  simp only
  have HW1 := vl hW1
  clear hW1 hx hEA hAO
  by_cases hm : muchB fn bn = true
  · rw [if_pos hm] at hparts
    rw [hm] at HM
    have HX := vl hparts
    have HN := vl (HAO.out (by omega))
    clear hparts hbad HAO
    go_enter Tryz.func42, Tryz.ntmps42
    go_wp2_with fail
    try rw [HW1.out]
    refine HM.out.mono ?_
    rintro e w' ⟨rfl, rfl⟩
    go_wp2
    go_ret2
    refine ⟨_, by rw [HX.out]; rfl, Or.inl ⟨rfl, HN.out⟩, HW.out⟩
  · have hm' : muchB fn bn = false := by simpa using hm
    rw [hm'] at HM hparts hbad
    rw [if_neg (by simp)] at hparts
    have HZ : Vl (∀ w1, Below W1.drew.heap.size W1.drew w1 → w1.cell? ⟨w.heap.size, 0, none⟩ = some (.string m) ∧ w1.cell? ⟨w.heap.size, 1, none⟩ = some (.string p) ∧ w1.cell? ⟨w.heap.size, 2, none⟩ = some (.string ho) ∧ w1.cell? ⟨w.heap.size, 3, none⟩ = some (.slice fa fn fc) ∧ w1.cell? ⟨w.heap.size, 4, none⟩ = some (.slice ba bn bc)) := fun w1 hb => ⟨(hb.cell (p := ⟨w.heap.size, 0, none⟩) hlt).trans c0, (hb.cell (p := ⟨w.heap.size, 1, none⟩) hlt).trans c1, (hb.cell (p := ⟨w.heap.size, 2, none⟩) hlt).trans c2, (hb.cell (p := ⟨w.heap.size, 3, none⟩) hlt).trans c3, (hb.cell (p := ⟨w.heap.size, 4, none⟩) hlt).trans c4⟩
    have HBB : Vl (∀ w1, Below W1.drew.heap.size W1.drew w1 → Below w.heap.size w w1) := fun w1 hb => HW.out.trans (((Below.refl _ W1).drew.trans hb).mono HW.out.size)
    have HTK := vl (ntoken_any m W1.drew h6)
    have HPF := vl (fun W => npathf_any W)
    have HPH : Vl (∀ (G : Value) (B : Nat) (W : World), MayF W B G ok2 → Calls Tryz.prog 102 #[formV 1 G, .string p] W fun e w' => e = .returned (.bool (wordL (unums p))) ∧ Below W.heap.size W w') := fun G B W hG => by
      have := nholds_any 1 G ok2 B p W hG h7
      rw [form_word] at this
      exact this
    unfold formV at HPF HPH
    by_cases hb1 : tokL (unums m) = true
    · have hb2 : wordL (unums p) = false := by
        rcases hbad with h | h | h
        · cases h
        · rw [hb1] at h; cases h
        · exact h
      rw [hb1] at HTK
      rw [hb2] at HPH
      rw [if_neg (by rw [hb2]; simp)] at hparts
      have HX := vl hparts
      have HN := vl (HAO.out (by omega))
      clear hparts hbad HAO hb1 hb2
      go_enter Tryz.func42, Tryz.ntmps42
      go_wp2_with fail
      try rw [HW1.out]
      refine HM.out.mono ?_
      rintro e w' ⟨rfl, rfl⟩
      go_wp2_with fail
      refine wp_region_any (by kernel_rfl) ?_
      change wpAny _ _ _ _ _ _ _ (World.drew _)
      refine wpAny_ready (rs := [0]) (by kernel_rfl) (by simp) ?_
      refine AllReady.cons rfl (fun K hK => ?_) ?_
      · go_simp
        refine hK _ _ ?_
        clear hK K
        refine wpAny_ready (rs := [1]) (by kernel_rfl) (by simp) ?_
        refine AllReady.cons rfl (fun K hK => ?_) ?_
        · go_simp
          refine hK _ _ ?_
          clear hK K
          refine wpAny_ready (rs := [2]) (by kernel_rfl) (by simp) ?_
          refine AllReady.cons rfl (fun K hK => ?_) ?_
          · go_simp
            go_wp2_with (go_at_call 100; refine HTK.out.mono ?_; rintro e wa ⟨rfl, hba⟩; obtain ⟨ea0, ea1, ea2, ea3, ea4⟩ := HZ.out _ hba)
            refine wpAny_ready (rs := [3]) (by kernel_rfl) (by simp) ?_
            refine AllReady.cons rfl (fun K hK => ?_) ?_
            · go_simp
              refine hK _ _ ?_
              clear hK K
              refine wpAny_ready (rs := [4]) (by kernel_rfl) (by simp) ?_
              refine AllReady.cons rfl (fun K hK => ?_) ?_
              · go_simp
                refine hK _ _ ?_
                clear hK K
                refine wpAny_ready (rs := [5, 6]) (by kernel_rfl) (by simp) ?_
                refine AllReady.cons rfl (fun K hK => ?_) ?_
                · go_simp
                  go_wp2_with (go_at_call 101; refine (HPF.out _).mono ?_; rintro e wb ⟨G, rfl, hG, hb0⟩; have hbb := hba.trans (hb0.mono hba.size); obtain ⟨eb0, eb1, eb2, eb3, eb4⟩ := HZ.out _ hbb)
                  refine wpAny_ready (rs := [6]) (by kernel_rfl) (by simp) ?_
                  refine AllReady.cons rfl (fun K hK => ?_) ?_
                  · go_simp
                    refine hK _ _ ?_
                    clear hK K
                    refine wpAny_ready (rs := [7]) (by kernel_rfl) (by simp) ?_
                    refine AllReady.cons rfl (fun K hK => ?_) ?_
                    · go_simp
                      refine hK _ _ ?_
                      clear hK K
                      refine wpAny_ready (rs := [8]) (by kernel_rfl) (by simp) ?_
                      refine AllReady.cons rfl (fun K hK => ?_) ?_
                      · go_simp
                        go_wp2_with (go_at_call 102; refine (HPH.out G _ _ hG).mono ?_; rintro e wd ⟨rfl, hd0⟩; have hbd := hbb.trans (hd0.mono hbb.size); obtain ⟨ed0, ed1, ed2, ed3, ed4⟩ := HZ.out _ hbd)
                        refine wpAny_ready (rs := [9]) (by kernel_rfl) (by simp) ?_
                        refine AllReady.cons rfl (fun K hK => ?_) ?_
                        · go_simp
                          refine hK _ _ ?_
                          clear hK K
                          refine wpAny_ready (rs := [10]) (by kernel_rfl) (by simp) ?_
                          refine AllReady.cons rfl (fun K hK => ?_) ?_
                          · go_simp
                            refine hK _ _ ?_
                            clear hK K
                            refine wpAny_ready (rs := [11]) (by kernel_rfl) (by simp) ?_
                            refine AllReady.cons rfl (fun K hK => ?_) ?_
                            · go_simp
                              refine hK _ _ ?_
                              clear hK K
                              refine wpAny_ready (rs := [12, 13]) (by kernel_rfl) (by simp) ?_
                              refine AllReady.cons rfl (fun K hK => ?_) ?_
                              · go_simp
                                refine hK _ _ ?_
                                clear hK K
                                refine wpAny_ready (rs := [13]) (by kernel_rfl) (by simp) ?_
                                refine AllReady.cons rfl (fun K hK => ?_) ?_
                                · go_simp
                                  refine hK _ _ ?_
                                  clear hK K
                                  refine wpAny_ready (rs := [14]) (by kernel_rfl) (by simp) ?_
                                  refine AllReady.cons rfl (fun K hK => ?_) ?_
                                  · go_simp
                                    refine hK _ _ ?_
                                    clear hK K
                                    refine wpAny_ready (rs := [15]) (by kernel_rfl) (by simp) ?_
                                    refine AllReady.cons rfl (fun K hK => ?_) ?_
                                    · go_simp
                                      refine hK _ _ ?_
                                      clear hK K
                                      refine wpAny_ready (rs := [16]) (by kernel_rfl) (by simp) ?_
                                      refine AllReady.cons rfl (fun K hK => ?_) ?_
                                      · go_simp
                                        refine hK _ _ ?_
                                        clear hK K
                                        refine wpAny_ready (rs := [17]) (by kernel_rfl) (by simp) ?_
                                        refine AllReady.cons rfl (fun K hK => ?_) ?_
                                        · go_simp
                                          refine hK _ _ ?_
                                          clear hK K
                                          refine wpAny_done (by kernel_rfl) ?_ _
                                          have HBW := vl (HBB.out _ hbd)
                                          clear HZ HTK HPF HPH HBB
                                          go_wp2
                                          go_ret2
                                          exact ⟨_, by rw [HX.out]; rfl, Or.inl ⟨rfl, HN.out⟩, HBW.out⟩
                                        exact AllReady.nil
                                      exact AllReady.nil
                                    exact AllReady.nil
                                  exact AllReady.nil
                                exact AllReady.nil
                              refine AllReady.cons rfl (fun K hK => ?_) ?_
                              · go_simp
                                refine hK _ _ ?_
                                clear hK K
                                refine wpAny_ready (rs := [12, 14]) (by kernel_rfl) (by simp) ?_
                                refine AllReady.cons rfl (fun K hK => ?_) ?_
                                · go_simp
                                  refine hK _ _ ?_
                                  clear hK K
                                  refine wpAny_ready (rs := [14]) (by kernel_rfl) (by simp) ?_
                                  refine AllReady.cons rfl (fun K hK => ?_) ?_
                                  · go_simp
                                    refine hK _ _ ?_
                                    clear hK K
                                    refine wpAny_ready (rs := [15]) (by kernel_rfl) (by simp) ?_
                                    refine AllReady.cons rfl (fun K hK => ?_) ?_
                                    · go_simp
                                      refine hK _ _ ?_
                                      clear hK K
                                      refine wpAny_ready (rs := [16]) (by kernel_rfl) (by simp) ?_
                                      refine AllReady.cons rfl (fun K hK => ?_) ?_
                                      · go_simp
                                        refine hK _ _ ?_
                                        clear hK K
                                        refine wpAny_ready (rs := [17]) (by kernel_rfl) (by simp) ?_
                                        refine AllReady.cons rfl (fun K hK => ?_) ?_
                                        · go_simp
                                          refine hK _ _ ?_
                                          clear hK K
                                          refine wpAny_done (by kernel_rfl) ?_ _
                                          have HBW := vl (HBB.out _ hbd)
                                          clear HZ HTK HPF HPH HBB
                                          go_wp2
                                          go_ret2
                                          exact ⟨_, by rw [HX.out]; rfl, Or.inl ⟨rfl, HN.out⟩, HBW.out⟩
                                        exact AllReady.nil
                                      exact AllReady.nil
                                    exact AllReady.nil
                                  exact AllReady.nil
                                refine AllReady.cons rfl (fun K hK => ?_) ?_
                                · go_simp
                                  refine hK _ _ ?_
                                  clear hK K
                                  refine wpAny_ready (rs := [12]) (by kernel_rfl) (by simp) ?_
                                  refine AllReady.cons rfl (fun K hK => ?_) ?_
                                  · go_simp
                                    refine hK _ _ ?_
                                    clear hK K
                                    refine wpAny_ready (rs := [15]) (by kernel_rfl) (by simp) ?_
                                    refine AllReady.cons rfl (fun K hK => ?_) ?_
                                    · go_simp
                                      refine hK _ _ ?_
                                      clear hK K
                                      refine wpAny_ready (rs := [16]) (by kernel_rfl) (by simp) ?_
                                      refine AllReady.cons rfl (fun K hK => ?_) ?_
                                      · go_simp
                                        refine hK _ _ ?_
                                        clear hK K
                                        refine wpAny_ready (rs := [17]) (by kernel_rfl) (by simp) ?_
                                        refine AllReady.cons rfl (fun K hK => ?_) ?_
                                        · go_simp
                                          refine hK _ _ ?_
                                          clear hK K
                                          refine wpAny_done (by kernel_rfl) ?_ _
                                          have HBW := vl (HBB.out _ hbd)
                                          clear HZ HTK HPF HPH HBB
                                          go_wp2
                                          go_ret2
                                          exact ⟨_, by rw [HX.out]; rfl, Or.inl ⟨rfl, HN.out⟩, HBW.out⟩
                                        exact AllReady.nil
                                      exact AllReady.nil
                                    exact AllReady.nil
                                  exact AllReady.nil
                                exact AllReady.nil
                              exact AllReady.nil
                            exact AllReady.nil
                          exact AllReady.nil
                        exact AllReady.nil
                      exact AllReady.nil
                    exact AllReady.nil
                  exact AllReady.nil
                refine AllReady.cons rfl (fun K hK => ?_) ?_
                · go_simp
                  refine hK _ _ ?_
                  clear hK K
                  refine wpAny_ready (rs := [5, 7]) (by kernel_rfl) (by simp) ?_
                  refine AllReady.cons rfl (fun K hK => ?_) ?_
                  · go_simp
                    go_wp2_with (go_at_call 101; refine (HPF.out _).mono ?_; rintro e wb ⟨G, rfl, hG, hb0⟩; have hbb := hba.trans (hb0.mono hba.size); obtain ⟨eb0, eb1, eb2, eb3, eb4⟩ := HZ.out _ hbb)
                    refine wpAny_ready (rs := [7]) (by kernel_rfl) (by simp) ?_
                    refine AllReady.cons rfl (fun K hK => ?_) ?_
                    · go_simp
                      refine hK _ _ ?_
                      clear hK K
                      refine wpAny_ready (rs := [8]) (by kernel_rfl) (by simp) ?_
                      refine AllReady.cons rfl (fun K hK => ?_) ?_
                      · go_simp
                        go_wp2_with (go_at_call 102; refine (HPH.out G _ _ hG).mono ?_; rintro e wd ⟨rfl, hd0⟩; have hbd := hbb.trans (hd0.mono hbb.size); obtain ⟨ed0, ed1, ed2, ed3, ed4⟩ := HZ.out _ hbd)
                        refine wpAny_ready (rs := [9]) (by kernel_rfl) (by simp) ?_
                        refine AllReady.cons rfl (fun K hK => ?_) ?_
                        · go_simp
                          refine hK _ _ ?_
                          clear hK K
                          refine wpAny_ready (rs := [10]) (by kernel_rfl) (by simp) ?_
                          refine AllReady.cons rfl (fun K hK => ?_) ?_
                          · go_simp
                            refine hK _ _ ?_
                            clear hK K
                            refine wpAny_ready (rs := [11]) (by kernel_rfl) (by simp) ?_
                            refine AllReady.cons rfl (fun K hK => ?_) ?_
                            · go_simp
                              refine hK _ _ ?_
                              clear hK K
                              refine wpAny_ready (rs := [12, 13]) (by kernel_rfl) (by simp) ?_
                              refine AllReady.cons rfl (fun K hK => ?_) ?_
                              · go_simp
                                refine hK _ _ ?_
                                clear hK K
                                refine wpAny_ready (rs := [13]) (by kernel_rfl) (by simp) ?_
                                refine AllReady.cons rfl (fun K hK => ?_) ?_
                                · go_simp
                                  refine hK _ _ ?_
                                  clear hK K
                                  refine wpAny_ready (rs := [14]) (by kernel_rfl) (by simp) ?_
                                  refine AllReady.cons rfl (fun K hK => ?_) ?_
                                  · go_simp
                                    refine hK _ _ ?_
                                    clear hK K
                                    refine wpAny_ready (rs := [15]) (by kernel_rfl) (by simp) ?_
                                    refine AllReady.cons rfl (fun K hK => ?_) ?_
                                    · go_simp
                                      refine hK _ _ ?_
                                      clear hK K
                                      refine wpAny_ready (rs := [16]) (by kernel_rfl) (by simp) ?_
                                      refine AllReady.cons rfl (fun K hK => ?_) ?_
                                      · go_simp
                                        refine hK _ _ ?_
                                        clear hK K
                                        refine wpAny_ready (rs := [17]) (by kernel_rfl) (by simp) ?_
                                        refine AllReady.cons rfl (fun K hK => ?_) ?_
                                        · go_simp
                                          refine hK _ _ ?_
                                          clear hK K
                                          refine wpAny_done (by kernel_rfl) ?_ _
                                          have HBW := vl (HBB.out _ hbd)
                                          clear HZ HTK HPF HPH HBB
                                          go_wp2
                                          go_ret2
                                          exact ⟨_, by rw [HX.out]; rfl, Or.inl ⟨rfl, HN.out⟩, HBW.out⟩
                                        exact AllReady.nil
                                      exact AllReady.nil
                                    exact AllReady.nil
                                  exact AllReady.nil
                                exact AllReady.nil
                              refine AllReady.cons rfl (fun K hK => ?_) ?_
                              · go_simp
                                refine hK _ _ ?_
                                clear hK K
                                refine wpAny_ready (rs := [12, 14]) (by kernel_rfl) (by simp) ?_
                                refine AllReady.cons rfl (fun K hK => ?_) ?_
                                · go_simp
                                  refine hK _ _ ?_
                                  clear hK K
                                  refine wpAny_ready (rs := [14]) (by kernel_rfl) (by simp) ?_
                                  refine AllReady.cons rfl (fun K hK => ?_) ?_
                                  · go_simp
                                    refine hK _ _ ?_
                                    clear hK K
                                    refine wpAny_ready (rs := [15]) (by kernel_rfl) (by simp) ?_
                                    refine AllReady.cons rfl (fun K hK => ?_) ?_
                                    · go_simp
                                      refine hK _ _ ?_
                                      clear hK K
                                      refine wpAny_ready (rs := [16]) (by kernel_rfl) (by simp) ?_
                                      refine AllReady.cons rfl (fun K hK => ?_) ?_
                                      · go_simp
                                        refine hK _ _ ?_
                                        clear hK K
                                        refine wpAny_ready (rs := [17]) (by kernel_rfl) (by simp) ?_
                                        refine AllReady.cons rfl (fun K hK => ?_) ?_
                                        · go_simp
                                          refine hK _ _ ?_
                                          clear hK K
                                          refine wpAny_done (by kernel_rfl) ?_ _
                                          have HBW := vl (HBB.out _ hbd)
                                          clear HZ HTK HPF HPH HBB
                                          go_wp2
                                          go_ret2
                                          exact ⟨_, by rw [HX.out]; rfl, Or.inl ⟨rfl, HN.out⟩, HBW.out⟩
                                        exact AllReady.nil
                                      exact AllReady.nil
                                    exact AllReady.nil
                                  exact AllReady.nil
                                refine AllReady.cons rfl (fun K hK => ?_) ?_
                                · go_simp
                                  refine hK _ _ ?_
                                  clear hK K
                                  refine wpAny_ready (rs := [12]) (by kernel_rfl) (by simp) ?_
                                  refine AllReady.cons rfl (fun K hK => ?_) ?_
                                  · go_simp
                                    refine hK _ _ ?_
                                    clear hK K
                                    refine wpAny_ready (rs := [15]) (by kernel_rfl) (by simp) ?_
                                    refine AllReady.cons rfl (fun K hK => ?_) ?_
                                    · go_simp
                                      refine hK _ _ ?_
                                      clear hK K
                                      refine wpAny_ready (rs := [16]) (by kernel_rfl) (by simp) ?_
                                      refine AllReady.cons rfl (fun K hK => ?_) ?_
                                      · go_simp
                                        refine hK _ _ ?_
                                        clear hK K
                                        refine wpAny_ready (rs := [17]) (by kernel_rfl) (by simp) ?_
                                        refine AllReady.cons rfl (fun K hK => ?_) ?_
                                        · go_simp
                                          refine hK _ _ ?_
                                          clear hK K
                                          refine wpAny_done (by kernel_rfl) ?_ _
                                          have HBW := vl (HBB.out _ hbd)
                                          clear HZ HTK HPF HPH HBB
                                          go_wp2
                                          go_ret2
                                          exact ⟨_, by rw [HX.out]; rfl, Or.inl ⟨rfl, HN.out⟩, HBW.out⟩
                                        exact AllReady.nil
                                      exact AllReady.nil
                                    exact AllReady.nil
                                  exact AllReady.nil
                                exact AllReady.nil
                              exact AllReady.nil
                            exact AllReady.nil
                          exact AllReady.nil
                        exact AllReady.nil
                      exact AllReady.nil
                    exact AllReady.nil
                  refine AllReady.cons rfl (fun K hK => ?_) ?_
                  · go_simp
                    refine hK _ _ ?_
                    clear hK K
                    refine wpAny_ready (rs := [5]) (by kernel_rfl) (by simp) ?_
                    refine AllReady.cons rfl (fun K hK => ?_) ?_
                    · go_simp
                      go_wp2_with (go_at_call 101; refine (HPF.out _).mono ?_; rintro e wb ⟨G, rfl, hG, hb0⟩; have hbb := hba.trans (hb0.mono hba.size); obtain ⟨eb0, eb1, eb2, eb3, eb4⟩ := HZ.out _ hbb)
                      refine wpAny_ready (rs := [8]) (by kernel_rfl) (by simp) ?_
                      refine AllReady.cons rfl (fun K hK => ?_) ?_
                      · go_simp
                        go_wp2_with (go_at_call 102; refine (HPH.out G _ _ hG).mono ?_; rintro e wd ⟨rfl, hd0⟩; have hbd := hbb.trans (hd0.mono hbb.size); obtain ⟨ed0, ed1, ed2, ed3, ed4⟩ := HZ.out _ hbd)
                        refine wpAny_ready (rs := [9]) (by kernel_rfl) (by simp) ?_
                        refine AllReady.cons rfl (fun K hK => ?_) ?_
                        · go_simp
                          refine hK _ _ ?_
                          clear hK K
                          refine wpAny_ready (rs := [10]) (by kernel_rfl) (by simp) ?_
                          refine AllReady.cons rfl (fun K hK => ?_) ?_
                          · go_simp
                            refine hK _ _ ?_
                            clear hK K
                            refine wpAny_ready (rs := [11]) (by kernel_rfl) (by simp) ?_
                            refine AllReady.cons rfl (fun K hK => ?_) ?_
                            · go_simp
                              refine hK _ _ ?_
                              clear hK K
                              refine wpAny_ready (rs := [12, 13]) (by kernel_rfl) (by simp) ?_
                              refine AllReady.cons rfl (fun K hK => ?_) ?_
                              · go_simp
                                refine hK _ _ ?_
                                clear hK K
                                refine wpAny_ready (rs := [13]) (by kernel_rfl) (by simp) ?_
                                refine AllReady.cons rfl (fun K hK => ?_) ?_
                                · go_simp
                                  refine hK _ _ ?_
                                  clear hK K
                                  refine wpAny_ready (rs := [14]) (by kernel_rfl) (by simp) ?_
                                  refine AllReady.cons rfl (fun K hK => ?_) ?_
                                  · go_simp
                                    refine hK _ _ ?_
                                    clear hK K
                                    refine wpAny_ready (rs := [15]) (by kernel_rfl) (by simp) ?_
                                    refine AllReady.cons rfl (fun K hK => ?_) ?_
                                    · go_simp
                                      refine hK _ _ ?_
                                      clear hK K
                                      refine wpAny_ready (rs := [16]) (by kernel_rfl) (by simp) ?_
                                      refine AllReady.cons rfl (fun K hK => ?_) ?_
                                      · go_simp
                                        refine hK _ _ ?_
                                        clear hK K
                                        refine wpAny_ready (rs := [17]) (by kernel_rfl) (by simp) ?_
                                        refine AllReady.cons rfl (fun K hK => ?_) ?_
                                        · go_simp
                                          refine hK _ _ ?_
                                          clear hK K
                                          refine wpAny_done (by kernel_rfl) ?_ _
                                          have HBW := vl (HBB.out _ hbd)
                                          clear HZ HTK HPF HPH HBB
                                          go_wp2
                                          go_ret2
                                          exact ⟨_, by rw [HX.out]; rfl, Or.inl ⟨rfl, HN.out⟩, HBW.out⟩
                                        exact AllReady.nil
                                      exact AllReady.nil
                                    exact AllReady.nil
                                  exact AllReady.nil
                                exact AllReady.nil
                              refine AllReady.cons rfl (fun K hK => ?_) ?_
                              · go_simp
                                refine hK _ _ ?_
                                clear hK K
                                refine wpAny_ready (rs := [12, 14]) (by kernel_rfl) (by simp) ?_
                                refine AllReady.cons rfl (fun K hK => ?_) ?_
                                · go_simp
                                  refine hK _ _ ?_
                                  clear hK K
                                  refine wpAny_ready (rs := [14]) (by kernel_rfl) (by simp) ?_
                                  refine AllReady.cons rfl (fun K hK => ?_) ?_
                                  · go_simp
                                    refine hK _ _ ?_
                                    clear hK K
                                    refine wpAny_ready (rs := [15]) (by kernel_rfl) (by simp) ?_
                                    refine AllReady.cons rfl (fun K hK => ?_) ?_
                                    · go_simp
                                      refine hK _ _ ?_
                                      clear hK K
                                      refine wpAny_ready (rs := [16]) (by kernel_rfl) (by simp) ?_
                                      refine AllReady.cons rfl (fun K hK => ?_) ?_
                                      · go_simp
                                        refine hK _ _ ?_
                                        clear hK K
                                        refine wpAny_ready (rs := [17]) (by kernel_rfl) (by simp) ?_
                                        refine AllReady.cons rfl (fun K hK => ?_) ?_
                                        · go_simp
                                          refine hK _ _ ?_
                                          clear hK K
                                          refine wpAny_done (by kernel_rfl) ?_ _
                                          have HBW := vl (HBB.out _ hbd)
                                          clear HZ HTK HPF HPH HBB
                                          go_wp2
                                          go_ret2
                                          exact ⟨_, by rw [HX.out]; rfl, Or.inl ⟨rfl, HN.out⟩, HBW.out⟩
                                        exact AllReady.nil
                                      exact AllReady.nil
                                    exact AllReady.nil
                                  exact AllReady.nil
                                refine AllReady.cons rfl (fun K hK => ?_) ?_
                                · go_simp
                                  refine hK _ _ ?_
                                  clear hK K
                                  refine wpAny_ready (rs := [12]) (by kernel_rfl) (by simp) ?_
                                  refine AllReady.cons rfl (fun K hK => ?_) ?_
                                  · go_simp
                                    refine hK _ _ ?_
                                    clear hK K
                                    refine wpAny_ready (rs := [15]) (by kernel_rfl) (by simp) ?_
                                    refine AllReady.cons rfl (fun K hK => ?_) ?_
                                    · go_simp
                                      refine hK _ _ ?_
                                      clear hK K
                                      refine wpAny_ready (rs := [16]) (by kernel_rfl) (by simp) ?_
                                      refine AllReady.cons rfl (fun K hK => ?_) ?_
                                      · go_simp
                                        refine hK _ _ ?_
                                        clear hK K
                                        refine wpAny_ready (rs := [17]) (by kernel_rfl) (by simp) ?_
                                        refine AllReady.cons rfl (fun K hK => ?_) ?_
                                        · go_simp
                                          refine hK _ _ ?_
                                          clear hK K
                                          refine wpAny_done (by kernel_rfl) ?_ _
                                          have HBW := vl (HBB.out _ hbd)
                                          clear HZ HTK HPF HPH HBB
                                          go_wp2
                                          go_ret2
                                          exact ⟨_, by rw [HX.out]; rfl, Or.inl ⟨rfl, HN.out⟩, HBW.out⟩
                                        exact AllReady.nil
                                      exact AllReady.nil
                                    exact AllReady.nil
                                  exact AllReady.nil
                                exact AllReady.nil
                              exact AllReady.nil
                            exact AllReady.nil
                          exact AllReady.nil
                        exact AllReady.nil
                      exact AllReady.nil
                    exact AllReady.nil
                  exact AllReady.nil
                exact AllReady.nil
              exact AllReady.nil
            exact AllReady.nil
          exact AllReady.nil
        exact AllReady.nil
      exact AllReady.nil
    · have hb1' : tokL (unums m) = false := by simpa using hb1
      rw [hb1'] at HTK
      rw [if_neg (by rw [hb1']; simp)] at hparts
      have HX := vl hparts
      have HN := vl (HAO.out (by omega))
      clear hparts hbad HAO hb1 hb1'
      go_enter Tryz.func42, Tryz.ntmps42
      go_wp2_with fail
      try rw [HW1.out]
      refine HM.out.mono ?_
      rintro e w' ⟨rfl, rfl⟩
      go_wp2_with fail
      refine wp_region_any (by kernel_rfl) ?_
      change wpAny _ _ _ _ _ _ _ (World.drew _)
      refine wpAny_ready (rs := [0]) (by kernel_rfl) (by simp) ?_
      refine AllReady.cons rfl (fun K hK => ?_) ?_
      · go_simp
        refine hK _ _ ?_
        clear hK K
        refine wpAny_ready (rs := [1]) (by kernel_rfl) (by simp) ?_
        refine AllReady.cons rfl (fun K hK => ?_) ?_
        · go_simp
          refine hK _ _ ?_
          clear hK K
          refine wpAny_ready (rs := [2]) (by kernel_rfl) (by simp) ?_
          refine AllReady.cons rfl (fun K hK => ?_) ?_
          · go_simp
            go_wp2_with (go_at_call 100; refine HTK.out.mono ?_; rintro e wa ⟨rfl, hba⟩; obtain ⟨ea0, ea1, ea2, ea3, ea4⟩ := HZ.out _ hba)
            refine wpAny_ready (rs := [3]) (by kernel_rfl) (by simp) ?_
            refine AllReady.cons rfl (fun K hK => ?_) ?_
            · go_simp
              refine hK _ _ ?_
              clear hK K
              refine wpAny_ready (rs := [4]) (by kernel_rfl) (by simp) ?_
              refine AllReady.cons rfl (fun K hK => ?_) ?_
              · go_simp
                refine hK _ _ ?_
                clear hK K
                refine wpAny_ready (rs := [5, 6]) (by kernel_rfl) (by simp) ?_
                refine AllReady.cons rfl (fun K hK => ?_) ?_
                · go_simp
                  refine hK _ _ ?_
                  clear hK K
                  refine wpAny_ready (rs := [6]) (by kernel_rfl) (by simp) ?_
                  refine AllReady.cons rfl (fun K hK => ?_) ?_
                  · go_simp
                    refine hK _ _ ?_
                    clear hK K
                    refine wpAny_ready (rs := [7]) (by kernel_rfl) (by simp) ?_
                    refine AllReady.cons rfl (fun K hK => ?_) ?_
                    · go_simp
                      refine hK _ _ ?_
                      clear hK K
                      refine wpAny_ready (rs := [8]) (by kernel_rfl) (by simp) ?_
                      refine AllReady.cons rfl (fun K hK => ?_) ?_
                      · go_simp
                        refine hK _ _ ?_
                        clear hK K
                        refine wpAny_ready (rs := [9]) (by kernel_rfl) (by simp) ?_
                        refine AllReady.cons rfl (fun K hK => ?_) ?_
                        · go_simp
                          refine hK _ _ ?_
                          clear hK K
                          refine wpAny_ready (rs := [10]) (by kernel_rfl) (by simp) ?_
                          refine AllReady.cons rfl (fun K hK => ?_) ?_
                          · go_simp
                            refine hK _ _ ?_
                            clear hK K
                            refine wpAny_ready (rs := [11]) (by kernel_rfl) (by simp) ?_
                            refine AllReady.cons rfl (fun K hK => ?_) ?_
                            · go_simp
                              refine hK _ _ ?_
                              clear hK K
                              refine wpAny_ready (rs := [12, 13]) (by kernel_rfl) (by simp) ?_
                              refine AllReady.cons rfl (fun K hK => ?_) ?_
                              · go_simp
                                refine hK _ _ ?_
                                clear hK K
                                refine wpAny_ready (rs := [13]) (by kernel_rfl) (by simp) ?_
                                refine AllReady.cons rfl (fun K hK => ?_) ?_
                                · go_simp
                                  refine hK _ _ ?_
                                  clear hK K
                                  refine wpAny_ready (rs := [14]) (by kernel_rfl) (by simp) ?_
                                  refine AllReady.cons rfl (fun K hK => ?_) ?_
                                  · go_simp
                                    refine hK _ _ ?_
                                    clear hK K
                                    refine wpAny_ready (rs := [15]) (by kernel_rfl) (by simp) ?_
                                    refine AllReady.cons rfl (fun K hK => ?_) ?_
                                    · go_simp
                                      refine hK _ _ ?_
                                      clear hK K
                                      refine wpAny_ready (rs := [16]) (by kernel_rfl) (by simp) ?_
                                      refine AllReady.cons rfl (fun K hK => ?_) ?_
                                      · go_simp
                                        refine hK _ _ ?_
                                        clear hK K
                                        refine wpAny_ready (rs := [17]) (by kernel_rfl) (by simp) ?_
                                        refine AllReady.cons rfl (fun K hK => ?_) ?_
                                        · go_simp
                                          refine hK _ _ ?_
                                          clear hK K
                                          refine wpAny_done (by kernel_rfl) ?_ _
                                          have HBW := vl (HBB.out _ hba)
                                          clear HZ HTK HPF HPH HBB
                                          go_wp2
                                          go_ret2
                                          exact ⟨_, by rw [HX.out]; rfl, Or.inl ⟨rfl, HN.out⟩, HBW.out⟩
                                        exact AllReady.nil
                                      exact AllReady.nil
                                    exact AllReady.nil
                                  exact AllReady.nil
                                exact AllReady.nil
                              refine AllReady.cons rfl (fun K hK => ?_) ?_
                              · go_simp
                                refine hK _ _ ?_
                                clear hK K
                                refine wpAny_ready (rs := [12, 14]) (by kernel_rfl) (by simp) ?_
                                refine AllReady.cons rfl (fun K hK => ?_) ?_
                                · go_simp
                                  refine hK _ _ ?_
                                  clear hK K
                                  refine wpAny_ready (rs := [14]) (by kernel_rfl) (by simp) ?_
                                  refine AllReady.cons rfl (fun K hK => ?_) ?_
                                  · go_simp
                                    refine hK _ _ ?_
                                    clear hK K
                                    refine wpAny_ready (rs := [15]) (by kernel_rfl) (by simp) ?_
                                    refine AllReady.cons rfl (fun K hK => ?_) ?_
                                    · go_simp
                                      refine hK _ _ ?_
                                      clear hK K
                                      refine wpAny_ready (rs := [16]) (by kernel_rfl) (by simp) ?_
                                      refine AllReady.cons rfl (fun K hK => ?_) ?_
                                      · go_simp
                                        refine hK _ _ ?_
                                        clear hK K
                                        refine wpAny_ready (rs := [17]) (by kernel_rfl) (by simp) ?_
                                        refine AllReady.cons rfl (fun K hK => ?_) ?_
                                        · go_simp
                                          refine hK _ _ ?_
                                          clear hK K
                                          refine wpAny_done (by kernel_rfl) ?_ _
                                          have HBW := vl (HBB.out _ hba)
                                          clear HZ HTK HPF HPH HBB
                                          go_wp2
                                          go_ret2
                                          exact ⟨_, by rw [HX.out]; rfl, Or.inl ⟨rfl, HN.out⟩, HBW.out⟩
                                        exact AllReady.nil
                                      exact AllReady.nil
                                    exact AllReady.nil
                                  exact AllReady.nil
                                refine AllReady.cons rfl (fun K hK => ?_) ?_
                                · go_simp
                                  refine hK _ _ ?_
                                  clear hK K
                                  refine wpAny_ready (rs := [12]) (by kernel_rfl) (by simp) ?_
                                  refine AllReady.cons rfl (fun K hK => ?_) ?_
                                  · go_simp
                                    refine hK _ _ ?_
                                    clear hK K
                                    refine wpAny_ready (rs := [15]) (by kernel_rfl) (by simp) ?_
                                    refine AllReady.cons rfl (fun K hK => ?_) ?_
                                    · go_simp
                                      refine hK _ _ ?_
                                      clear hK K
                                      refine wpAny_ready (rs := [16]) (by kernel_rfl) (by simp) ?_
                                      refine AllReady.cons rfl (fun K hK => ?_) ?_
                                      · go_simp
                                        refine hK _ _ ?_
                                        clear hK K
                                        refine wpAny_ready (rs := [17]) (by kernel_rfl) (by simp) ?_
                                        refine AllReady.cons rfl (fun K hK => ?_) ?_
                                        · go_simp
                                          refine hK _ _ ?_
                                          clear hK K
                                          refine wpAny_done (by kernel_rfl) ?_ _
                                          have HBW := vl (HBB.out _ hba)
                                          clear HZ HTK HPF HPH HBB
                                          go_wp2
                                          go_ret2
                                          exact ⟨_, by rw [HX.out]; rfl, Or.inl ⟨rfl, HN.out⟩, HBW.out⟩
                                        exact AllReady.nil
                                      exact AllReady.nil
                                    exact AllReady.nil
                                  exact AllReady.nil
                                exact AllReady.nil
                              exact AllReady.nil
                            exact AllReady.nil
                          exact AllReady.nil
                        exact AllReady.nil
                      exact AllReady.nil
                    exact AllReady.nil
                  exact AllReady.nil
                refine AllReady.cons rfl (fun K hK => ?_) ?_
                · go_simp
                  refine hK _ _ ?_
                  clear hK K
                  refine wpAny_ready (rs := [5, 7]) (by kernel_rfl) (by simp) ?_
                  refine AllReady.cons rfl (fun K hK => ?_) ?_
                  · go_simp
                    refine hK _ _ ?_
                    clear hK K
                    refine wpAny_ready (rs := [7]) (by kernel_rfl) (by simp) ?_
                    refine AllReady.cons rfl (fun K hK => ?_) ?_
                    · go_simp
                      refine hK _ _ ?_
                      clear hK K
                      refine wpAny_ready (rs := [8]) (by kernel_rfl) (by simp) ?_
                      refine AllReady.cons rfl (fun K hK => ?_) ?_
                      · go_simp
                        refine hK _ _ ?_
                        clear hK K
                        refine wpAny_ready (rs := [9]) (by kernel_rfl) (by simp) ?_
                        refine AllReady.cons rfl (fun K hK => ?_) ?_
                        · go_simp
                          refine hK _ _ ?_
                          clear hK K
                          refine wpAny_ready (rs := [10]) (by kernel_rfl) (by simp) ?_
                          refine AllReady.cons rfl (fun K hK => ?_) ?_
                          · go_simp
                            refine hK _ _ ?_
                            clear hK K
                            refine wpAny_ready (rs := [11]) (by kernel_rfl) (by simp) ?_
                            refine AllReady.cons rfl (fun K hK => ?_) ?_
                            · go_simp
                              refine hK _ _ ?_
                              clear hK K
                              refine wpAny_ready (rs := [12, 13]) (by kernel_rfl) (by simp) ?_
                              refine AllReady.cons rfl (fun K hK => ?_) ?_
                              · go_simp
                                refine hK _ _ ?_
                                clear hK K
                                refine wpAny_ready (rs := [13]) (by kernel_rfl) (by simp) ?_
                                refine AllReady.cons rfl (fun K hK => ?_) ?_
                                · go_simp
                                  refine hK _ _ ?_
                                  clear hK K
                                  refine wpAny_ready (rs := [14]) (by kernel_rfl) (by simp) ?_
                                  refine AllReady.cons rfl (fun K hK => ?_) ?_
                                  · go_simp
                                    refine hK _ _ ?_
                                    clear hK K
                                    refine wpAny_ready (rs := [15]) (by kernel_rfl) (by simp) ?_
                                    refine AllReady.cons rfl (fun K hK => ?_) ?_
                                    · go_simp
                                      refine hK _ _ ?_
                                      clear hK K
                                      refine wpAny_ready (rs := [16]) (by kernel_rfl) (by simp) ?_
                                      refine AllReady.cons rfl (fun K hK => ?_) ?_
                                      · go_simp
                                        refine hK _ _ ?_
                                        clear hK K
                                        refine wpAny_ready (rs := [17]) (by kernel_rfl) (by simp) ?_
                                        refine AllReady.cons rfl (fun K hK => ?_) ?_
                                        · go_simp
                                          refine hK _ _ ?_
                                          clear hK K
                                          refine wpAny_done (by kernel_rfl) ?_ _
                                          have HBW := vl (HBB.out _ hba)
                                          clear HZ HTK HPF HPH HBB
                                          go_wp2
                                          go_ret2
                                          exact ⟨_, by rw [HX.out]; rfl, Or.inl ⟨rfl, HN.out⟩, HBW.out⟩
                                        exact AllReady.nil
                                      exact AllReady.nil
                                    exact AllReady.nil
                                  exact AllReady.nil
                                exact AllReady.nil
                              refine AllReady.cons rfl (fun K hK => ?_) ?_
                              · go_simp
                                refine hK _ _ ?_
                                clear hK K
                                refine wpAny_ready (rs := [12, 14]) (by kernel_rfl) (by simp) ?_
                                refine AllReady.cons rfl (fun K hK => ?_) ?_
                                · go_simp
                                  refine hK _ _ ?_
                                  clear hK K
                                  refine wpAny_ready (rs := [14]) (by kernel_rfl) (by simp) ?_
                                  refine AllReady.cons rfl (fun K hK => ?_) ?_
                                  · go_simp
                                    refine hK _ _ ?_
                                    clear hK K
                                    refine wpAny_ready (rs := [15]) (by kernel_rfl) (by simp) ?_
                                    refine AllReady.cons rfl (fun K hK => ?_) ?_
                                    · go_simp
                                      refine hK _ _ ?_
                                      clear hK K
                                      refine wpAny_ready (rs := [16]) (by kernel_rfl) (by simp) ?_
                                      refine AllReady.cons rfl (fun K hK => ?_) ?_
                                      · go_simp
                                        refine hK _ _ ?_
                                        clear hK K
                                        refine wpAny_ready (rs := [17]) (by kernel_rfl) (by simp) ?_
                                        refine AllReady.cons rfl (fun K hK => ?_) ?_
                                        · go_simp
                                          refine hK _ _ ?_
                                          clear hK K
                                          refine wpAny_done (by kernel_rfl) ?_ _
                                          have HBW := vl (HBB.out _ hba)
                                          clear HZ HTK HPF HPH HBB
                                          go_wp2
                                          go_ret2
                                          exact ⟨_, by rw [HX.out]; rfl, Or.inl ⟨rfl, HN.out⟩, HBW.out⟩
                                        exact AllReady.nil
                                      exact AllReady.nil
                                    exact AllReady.nil
                                  exact AllReady.nil
                                refine AllReady.cons rfl (fun K hK => ?_) ?_
                                · go_simp
                                  refine hK _ _ ?_
                                  clear hK K
                                  refine wpAny_ready (rs := [12]) (by kernel_rfl) (by simp) ?_
                                  refine AllReady.cons rfl (fun K hK => ?_) ?_
                                  · go_simp
                                    refine hK _ _ ?_
                                    clear hK K
                                    refine wpAny_ready (rs := [15]) (by kernel_rfl) (by simp) ?_
                                    refine AllReady.cons rfl (fun K hK => ?_) ?_
                                    · go_simp
                                      refine hK _ _ ?_
                                      clear hK K
                                      refine wpAny_ready (rs := [16]) (by kernel_rfl) (by simp) ?_
                                      refine AllReady.cons rfl (fun K hK => ?_) ?_
                                      · go_simp
                                        refine hK _ _ ?_
                                        clear hK K
                                        refine wpAny_ready (rs := [17]) (by kernel_rfl) (by simp) ?_
                                        refine AllReady.cons rfl (fun K hK => ?_) ?_
                                        · go_simp
                                          refine hK _ _ ?_
                                          clear hK K
                                          refine wpAny_done (by kernel_rfl) ?_ _
                                          have HBW := vl (HBB.out _ hba)
                                          clear HZ HTK HPF HPH HBB
                                          go_wp2
                                          go_ret2
                                          exact ⟨_, by rw [HX.out]; rfl, Or.inl ⟨rfl, HN.out⟩, HBW.out⟩
                                        exact AllReady.nil
                                      exact AllReady.nil
                                    exact AllReady.nil
                                  exact AllReady.nil
                                exact AllReady.nil
                              exact AllReady.nil
                            exact AllReady.nil
                          exact AllReady.nil
                        exact AllReady.nil
                      exact AllReady.nil
                    exact AllReady.nil
                  refine AllReady.cons rfl (fun K hK => ?_) ?_
                  · go_simp
                    refine hK _ _ ?_
                    clear hK K
                    refine wpAny_ready (rs := [5]) (by kernel_rfl) (by simp) ?_
                    refine AllReady.cons rfl (fun K hK => ?_) ?_
                    · go_simp
                      refine hK _ _ ?_
                      clear hK K
                      refine wpAny_ready (rs := [8]) (by kernel_rfl) (by simp) ?_
                      refine AllReady.cons rfl (fun K hK => ?_) ?_
                      · go_simp
                        refine hK _ _ ?_
                        clear hK K
                        refine wpAny_ready (rs := [9]) (by kernel_rfl) (by simp) ?_
                        refine AllReady.cons rfl (fun K hK => ?_) ?_
                        · go_simp
                          refine hK _ _ ?_
                          clear hK K
                          refine wpAny_ready (rs := [10]) (by kernel_rfl) (by simp) ?_
                          refine AllReady.cons rfl (fun K hK => ?_) ?_
                          · go_simp
                            refine hK _ _ ?_
                            clear hK K
                            refine wpAny_ready (rs := [11]) (by kernel_rfl) (by simp) ?_
                            refine AllReady.cons rfl (fun K hK => ?_) ?_
                            · go_simp
                              refine hK _ _ ?_
                              clear hK K
                              refine wpAny_ready (rs := [12, 13]) (by kernel_rfl) (by simp) ?_
                              refine AllReady.cons rfl (fun K hK => ?_) ?_
                              · go_simp
                                refine hK _ _ ?_
                                clear hK K
                                refine wpAny_ready (rs := [13]) (by kernel_rfl) (by simp) ?_
                                refine AllReady.cons rfl (fun K hK => ?_) ?_
                                · go_simp
                                  refine hK _ _ ?_
                                  clear hK K
                                  refine wpAny_ready (rs := [14]) (by kernel_rfl) (by simp) ?_
                                  refine AllReady.cons rfl (fun K hK => ?_) ?_
                                  · go_simp
                                    refine hK _ _ ?_
                                    clear hK K
                                    refine wpAny_ready (rs := [15]) (by kernel_rfl) (by simp) ?_
                                    refine AllReady.cons rfl (fun K hK => ?_) ?_
                                    · go_simp
                                      refine hK _ _ ?_
                                      clear hK K
                                      refine wpAny_ready (rs := [16]) (by kernel_rfl) (by simp) ?_
                                      refine AllReady.cons rfl (fun K hK => ?_) ?_
                                      · go_simp
                                        refine hK _ _ ?_
                                        clear hK K
                                        refine wpAny_ready (rs := [17]) (by kernel_rfl) (by simp) ?_
                                        refine AllReady.cons rfl (fun K hK => ?_) ?_
                                        · go_simp
                                          refine hK _ _ ?_
                                          clear hK K
                                          refine wpAny_done (by kernel_rfl) ?_ _
                                          have HBW := vl (HBB.out _ hba)
                                          clear HZ HTK HPF HPH HBB
                                          go_wp2
                                          go_ret2
                                          exact ⟨_, by rw [HX.out]; rfl, Or.inl ⟨rfl, HN.out⟩, HBW.out⟩
                                        exact AllReady.nil
                                      exact AllReady.nil
                                    exact AllReady.nil
                                  exact AllReady.nil
                                exact AllReady.nil
                              refine AllReady.cons rfl (fun K hK => ?_) ?_
                              · go_simp
                                refine hK _ _ ?_
                                clear hK K
                                refine wpAny_ready (rs := [12, 14]) (by kernel_rfl) (by simp) ?_
                                refine AllReady.cons rfl (fun K hK => ?_) ?_
                                · go_simp
                                  refine hK _ _ ?_
                                  clear hK K
                                  refine wpAny_ready (rs := [14]) (by kernel_rfl) (by simp) ?_
                                  refine AllReady.cons rfl (fun K hK => ?_) ?_
                                  · go_simp
                                    refine hK _ _ ?_
                                    clear hK K
                                    refine wpAny_ready (rs := [15]) (by kernel_rfl) (by simp) ?_
                                    refine AllReady.cons rfl (fun K hK => ?_) ?_
                                    · go_simp
                                      refine hK _ _ ?_
                                      clear hK K
                                      refine wpAny_ready (rs := [16]) (by kernel_rfl) (by simp) ?_
                                      refine AllReady.cons rfl (fun K hK => ?_) ?_
                                      · go_simp
                                        refine hK _ _ ?_
                                        clear hK K
                                        refine wpAny_ready (rs := [17]) (by kernel_rfl) (by simp) ?_
                                        refine AllReady.cons rfl (fun K hK => ?_) ?_
                                        · go_simp
                                          refine hK _ _ ?_
                                          clear hK K
                                          refine wpAny_done (by kernel_rfl) ?_ _
                                          have HBW := vl (HBB.out _ hba)
                                          clear HZ HTK HPF HPH HBB
                                          go_wp2
                                          go_ret2
                                          exact ⟨_, by rw [HX.out]; rfl, Or.inl ⟨rfl, HN.out⟩, HBW.out⟩
                                        exact AllReady.nil
                                      exact AllReady.nil
                                    exact AllReady.nil
                                  exact AllReady.nil
                                refine AllReady.cons rfl (fun K hK => ?_) ?_
                                · go_simp
                                  refine hK _ _ ?_
                                  clear hK K
                                  refine wpAny_ready (rs := [12]) (by kernel_rfl) (by simp) ?_
                                  refine AllReady.cons rfl (fun K hK => ?_) ?_
                                  · go_simp
                                    refine hK _ _ ?_
                                    clear hK K
                                    refine wpAny_ready (rs := [15]) (by kernel_rfl) (by simp) ?_
                                    refine AllReady.cons rfl (fun K hK => ?_) ?_
                                    · go_simp
                                      refine hK _ _ ?_
                                      clear hK K
                                      refine wpAny_ready (rs := [16]) (by kernel_rfl) (by simp) ?_
                                      refine AllReady.cons rfl (fun K hK => ?_) ?_
                                      · go_simp
                                        refine hK _ _ ?_
                                        clear hK K
                                        refine wpAny_ready (rs := [17]) (by kernel_rfl) (by simp) ?_
                                        refine AllReady.cons rfl (fun K hK => ?_) ?_
                                        · go_simp
                                          refine hK _ _ ?_
                                          clear hK K
                                          refine wpAny_done (by kernel_rfl) ?_ _
                                          have HBW := vl (HBB.out _ hba)
                                          clear HZ HTK HPF HPH HBB
                                          go_wp2
                                          go_ret2
                                          exact ⟨_, by rw [HX.out]; rfl, Or.inl ⟨rfl, HN.out⟩, HBW.out⟩
                                        exact AllReady.nil
                                      exact AllReady.nil
                                    exact AllReady.nil
                                  exact AllReady.nil
                                exact AllReady.nil
                              exact AllReady.nil
                            exact AllReady.nil
                          exact AllReady.nil
                        exact AllReady.nil
                      exact AllReady.nil
                    exact AllReady.nil
                  exact AllReady.nil
                exact AllReady.nil
              exact AllReady.nil
            exact AllReady.nil
          exact AllReady.nil
        exact AllReady.nil
      exact AllReady.nil
end Go.Proofs.YtglmppadhlkkgagGreatDoor
/-
  MESSAGES AS LINES: the developers' writer: Ask, where what stands ahead is right. No claim by itself.
-/
namespace Go.Proofs.YtglmppadhlkkgagGreatDoor
open Go Go.RowKit Go.Shelf
set_option maxRecDepth 100000
/-- The first line of a request. -/
theorem ask_first (m p : ByteArray) : unums (m ++ ⟨#[32]⟩ ++ p ++ ⟨#[32]⟩ ++ ⟨#[69, 68, 71, 69, 47, 49]⟩ ++ ⟨#[13, 10]⟩) = unums m ++ ([32] ++ (unums p ++ [32, 69, 68, 71, 69, 47, 49, 13, 10])) := by
  simp only [unums_app]
  rw [show unums ⟨#[32]⟩ = [32] from rfl, show unums ⟨#[69, 68, 71, 69, 47, 49]⟩ = [69, 68, 71, 69, 47, 49] from rfl, show unums ⟨#[13, 10]⟩ = [13, 10] from rfl]
  simp
set_option maxHeartbeats 4000000 in
theorem nask_good (q : RqM) (w : World) (h : RqIn w q) (hT : NLaid w) (hm : muchB q.fn q.bn = false) (ht : tokL (unums q.m) = true) (hp : wordL (unums q.p) = true) :
    Calls Tryz.prog 42 #[q.val] w fun e w' => ∃ v, e = .returned (.tuple #[v, errW (askE q.rq)]) ∧ UOwn w' w.heap.size v (askOut q.rq) ∧ Below w.heap.size w w' := by
  have hparts := ask_parts h
  rw [hm, if_neg (by simp), ht, hp] at hparts
  simp only [true_and] at hparts
  have HQ := vl h
  have HALL : Vl (askE q.rq = 0 → askL q.rq = unums q.m ++ ([32] ++ (unums q.p ++ [32, 69, 68, 71, 69, 47, 49, 13, 10])) ++ lineOf (hostN, unums q.h) ++ linesL (fdsOf q.FL) ++ tailL q.B) := fun _ => by
    unfold askL RqM.rq edgeHost lineOf hostN
    simp
  obtain ⟨m, p, ho, fa, fn, fc, ba, bn, bc, FL, B⟩ := q
  obtain ⟨h1, h2, h3, ⟨h4, h5⟩, ⟨h6, h7, h8⟩, h9⟩ := h
  simp only at h1 h2 h3 h4 h5 h6 h7 h8 h9 hparts hm ht hp HALL
  have hmm := of_decide_eq_false hm
  have hfl := h1.len
  have hbl := h2.len
  have sm : m.size ≤ 400 := by have := (tok_ok ht).2.1; rwa [unums_len] at this
  have sp : p.size ≤ 400 := by have := (word_ok hp).2.1; rwa [unums_len] at this
  obtain ⟨W1, hW1⟩ : ∃ W1, w.alloc (.cells #[.string m, .string p, .string ho, .slice fa fn fc, .slice ba bn bc] 25) = W1 := ⟨_, rfl⟩
  have HW : Vl (Below w.heap.size w W1) := by rw [← hW1]; exact (Below.refl _ _).alloc (Nat.le_refl _) _
  have hx : W1.heap[w.heap.size]? = some (.cells #[.string m, .string p, .string ho, .slice fa fn fc, .slice ba bn bc] 25 (0, 0)) := by rw [← hW1]; exact heap_alloc_new w _
  obtain ⟨c0, c1, c2, c3, c4⟩ := q5_cell hx
  have hlt : w.heap.size < W1.heap.size := (Array.getElem?_eq_some_iff.1 hx).1
  have HM := vl (ntoo_any fa ba fn fc bn bc W1)
  rw [hm] at HM
  obtain ⟨EA, hEA⟩ : ∃ EA, askE (RqM.rq ⟨m, p, ho, fa, fn, fc, ba, bn, bc, FL, B⟩) = EA := ⟨_, rfl⟩
  rw [hEA] at hparts HALL
  have HEA := vl hEA
  obtain ⟨AO, hAO⟩ : ∃ AO, askOut (RqM.rq ⟨m, p, ho, fa, fn, fc, ba, bn, bc, FL, B⟩) = AO := ⟨_, rfl⟩
  have HAO : Vl (EA ≠ 0 → AO = []) := fun he => by
    rw [← hAO]
    unfold askOut
    rw [if_neg (by rw [HEA.out]; exact he)]
  have HAO0 : Vl (EA = 0 → AO = unums m ++ ([32] ++ (unums p ++ [32, 69, 68, 71, 69, 47, 49, 13, 10])) ++ lineOf (hostN, unums ho) ++ linesL (fdsOf FL) ++ tailL B) := fun he => by
    rw [← hAO]
    unfold askOut
    rw [if_pos (by rw [HEA.out]; exact he)]
    exact HALL.out he
  rw [hEA, hAO]
  unfold RqM.val
  simp only
  have HW1 := vl hW1
  have HT := vl hT
  have HZ : Vl (∀ w1, Below W1.heap.size W1 w1 → w1.cell? ⟨w.heap.size, 0, none⟩ = some (.string m) ∧ w1.cell? ⟨w.heap.size, 1, none⟩ = some (.string p) ∧ w1.cell? ⟨w.heap.size, 2, none⟩ = some (.string ho) ∧ w1.cell? ⟨w.heap.size, 3, none⟩ = some (.slice fa fn fc) ∧ w1.cell? ⟨w.heap.size, 4, none⟩ = some (.slice ba bn bc)) := fun w1 hb => ⟨(hb.cell (p := ⟨w.heap.size, 0, none⟩) hlt).trans c0, (hb.cell (p := ⟨w.heap.size, 1, none⟩) hlt).trans c1, (hb.cell (p := ⟨w.heap.size, 2, none⟩) hlt).trans c2, (hb.cell (p := ⟨w.heap.size, 3, none⟩) hlt).trans c3, (hb.cell (p := ⟨w.heap.size, 4, none⟩) hlt).trans c4⟩
  have HBB : Vl (∀ w1, Below W1.heap.size W1 w1 → Below w.heap.size w w1) := fun w1 hb => HW.out.trans (hb.mono HW.out.size)
  have HTK := vl (ntoken_any m W1.drew h6)
  rw [ht] at HTK
  have HPF := vl (fun W => npathf_any W)
  have HPH : Vl (∀ (G : Value) (B : Nat) (W : World), MayF W B G ok2 → Calls Tryz.prog 102 #[formV 1 G, .string p] W fun e w' => e = .returned (.bool true) ∧ Below W.heap.size W w') := fun G B W hG => by
    have := nholds_any 1 G ok2 B p W hG h7
    rw [form_word, hp] at this
    exact this
  have HQF := vl (fun W => nplainf_any 1 W)
  have HQH : Vl (∀ W, Calls Tryz.prog 102 #[formV 1 (.func (.func 165) #[] #[]), .string ho] W fun e w' => e = .returned (.bool (formL ok3 1 (unums ho))) ∧ Below W.heap.size W w') := fun W => nholds_any 1 _ ok3 0 ho W (mayf_plain W 0) h8
  have HCF : Vl (∀ W, Below w.heap.size w W → Calls Tryz.prog 104 #[.slice fa fn fc] W fun e w' => e = .returned (errW (fldsE (fdsOf FL))) ∧ Below W.heap.size W w') := fun W hb => ncheckf_any fa fn fc FL W (h1.below hb) h4 h9
  obtain ⟨b3, hb3⟩ : ∃ b3, formL ok3 1 (unums ho) = b3 := ⟨_, rfl⟩
  rw [hb3] at HQH hparts
  have HB3 := vl hb3
  have HF1 := vl h1
  have HBo := vl h2
  have HNI := vl h3
  unfold formV at HPF HPH HQF HQH
  clear hW1 hx hEA hAO hb3 h1 h2 h3 h6 h7 h8 h9 hT HALL hm ht hp
  go_enter Tryz.func42, Tryz.ntmps42
  go_wp2_with fail
  try rw [HW1.out]
  clear HW1
  refine HM.out.mono ?_
  rintro e w' ⟨rfl, rfl⟩
  go_wp2_with fail
  go_region_held3 (fun w1 => w1.cell? ⟨w.heap.size, 0, none⟩ = some (.string m) ∧ w1.cell? ⟨w.heap.size, 1, none⟩ = some (.string p) ∧ w1.cell? ⟨w.heap.size, 2, none⟩ = some (.string ho))
    (first
      | go_keep
      | (have hz := HZ.out _ hbg; with_reducible exact ⟨hz.1, hz.2.1, hz.2.2.1⟩)
      | (have hz := HZ.out _ hbf; with_reducible exact ⟨hz.1, hz.2.1, hz.2.2.1⟩)
      | (have hz := HZ.out _ hbd; with_reducible exact ⟨hz.1, hz.2.1, hz.2.2.1⟩)
      | (have hz := HZ.out _ hbb; with_reducible exact ⟨hz.1, hz.2.1, hz.2.2.1⟩)
      | (have hz := HZ.out _ hba; with_reducible exact ⟨hz.1, hz.2.1, hz.2.2.1⟩))
    (first
      | (go_at_call 100; refine HTK.out.mono ?_; rintro e wa ⟨rfl, ha0⟩; have hba := (Below.refl _ W1).drew.trans ha0)
      | (go_at_call 101; refine (HPF.out _).mono ?_; rintro e wb ⟨G, rfl, hG, hb0⟩; have hbb := hba.trans (hb0.mono hba.size))
      | (go_at_call 103; refine (HQF.out _).mono ?_; rintro e wf ⟨rfl, hf0⟩; have hbf := hbd.trans (hf0.mono hbd.size))
      | (go_at_call 102; have hbg0 := hbf.size; refine (HQH.out _).mono ?_; rintro e wg ⟨rfl, hg0⟩; have hbg := hbf.trans (hg0.mono hbg0))
      | (go_at_call 102; refine (HPH.out G _ _ hG).mono ?_; rintro e wd ⟨rfl, hd0⟩; have hbd := hbb.trans (hd0.mono hbb.size)))
  have hbw := HBB.out _ hbg
  obtain ⟨g0, g1, g2, g3, g4⟩ := HZ.out _ hbg
  have HBG := vl hbg
  have HBW := vl hbw
  clear HTK HPF HPH HQF HQH hba hbb hbd hbf hbg hG ha0 hb0 hd0 hf0 hg0 hbg0 hbw c0 c1 c2 c3 c4 hlt HM
  cases b3 with
  | false =>
    simp only [Bool.false_eq_true, if_false] at hparts
    have HX := vl hparts
    have HN := vl (HAO.out (by omega))
    clear hparts HAO HAO0 HZ HBB HCF
    go_wp2
    go_ret2
    exact ⟨_, by rw [HX.out]; rfl, Or.inl ⟨rfl, HN.out⟩, HBW.out⟩
  | true =>
    simp only [if_true] at hparts
    have HC := vl (HCF.out wg HBW.out)
    rw [← hparts] at HC
    have HPT := vl hparts
    clear hparts HCF
    by_cases hE : EA = 0
    · subst hE
      rw [errW_0] at HC
      have HN := vl (HAO0.out rfl)
      have sh : ho.size ≤ 400 := by
        have h5 := HB3.out
        rw [form_plain, Bool.and_eq_true] at h5
        have := (plain_ok h5.1).1
        rwa [unums_len] at this
      clear HAO HAO0
      go_wp2_with fail
      refine HC.out.mono ?_
      rintro e w2 ⟨rfl, hb2⟩
      have hbW2 := HBG.out.trans (hb2.mono HBG.out.size)
      obtain ⟨k0, k1, k2, k3, k4⟩ := HZ.out _ hbW2
      have HB2 := vl (HBB.out _ hbW2)
      have HF := vl (ask_first m p)
      have hsz : (m ++ ⟨#[32]⟩ ++ p ++ ⟨#[32]⟩ ++ ⟨#[69, 68, 71, 69, 47, 49]⟩ ++ ⟨#[13, 10]⟩ : ByteArray).size ≤ 1000 := by
        rw [← unums_len, HF.out]
        simp [unums_len]
        omega
      obtain ⟨v3, w3, hcv, ho3, hb3⟩ := conv_val (m ++ ⟨#[32]⟩ ++ p ++ ⟨#[32]⟩ ++ ⟨#[69, 68, 71, 69, 47, 49]⟩ ++ ⟨#[13, 10]⟩) w2 (by omega)
      rw [HF.out] at ho3
      have hbase : w.heap.size ≤ w2.heap.size := HB2.out.size
      have hltw : w.heap.size < w2.heap.size := blk_of k0
      have j2 : w3.cell? ⟨w.heap.size, 2, none⟩ = some (.string ho) := (hb3.cell (p := ⟨w.heap.size, 2, none⟩) hltw).trans k2
      have hL3 : (unums m ++ ([32] ++ (unums p ++ [32, 69, 68, 71, 69, 47, 49, 13, 10]))).length ≤ 1000 := by rw [← HF.out, unums_len]; exact hsz
      have HAP := vl (napf_any w2.heap.size v3 _ ⟨#[104, 111, 115, 116]⟩ ho w3 ho3 (by omega) (by decide) (by omega) hb3.size)
      have HB3' : Vl (Below w.heap.size w w3) := HB2.out.trans (hb3.mono hbase)
      have HK3 : Vl (∀ W, Below w2.heap.size w3 W → W.cell? ⟨w.heap.size, 3, none⟩ = some (.slice fa fn fc) ∧ W.cell? ⟨w.heap.size, 4, none⟩ = some (.slice ba bn bc) ∧ Below w.heap.size w W ∧ w2.heap.size ≤ W.heap.size ∧ NLaid W) := fun W hb => by
        have hw : Below w.heap.size w W := HB3'.out.trans (hb.mono hbase)
        have e3 := (hb.cell (p := ⟨w.heap.size, 3, none⟩) hltw).trans ((hb3.cell (p := ⟨w.heap.size, 3, none⟩) hltw).trans k3)
        have e4 := (hb.cell (p := ⟨w.heap.size, 4, none⟩) hltw).trans ((hb3.cell (p := ⟨w.heap.size, 4, none⟩) hltw).trans k4)
        exact ⟨e3, e4, hw, Nat.le_trans hb3.size hb.size, HT.out.below hw⟩
      have HSZ := vl hb3.size
      clear ho3 hb3 hb2 hbW2 g0 g1 g2 g3 g4 HZ HBB HC
      go_wp2_with fail
      refine HAP.out.mono ?_
      rintro e w4 ⟨v4, rfl, ho4, hb4⟩
      obtain ⟨l3, l4, hw4, hs4, hT4⟩ := HK3.out w4 hb4
      have hll := lines_le (l := fdsOf FL) HPT.out.symm
      rw [fds_len] at hll
      have hL4 : (unums m ++ ([32] ++ (unums p ++ [32, 69, 68, 71, 69, 47, 49, 13, 10])) ++ lineOf (unums ⟨#[104, 111, 115, 116]⟩, unums ho)).length ≤ 2000 := by
        rw [List.length_append]
        have : (lineOf (unums ⟨#[104, 111, 115, 116]⟩, unums ho)).length ≤ 408 := by
          unfold lineOf
          simp [unums_len]
          have : (⟨#[104, 111, 115, 116]⟩ : ByteArray).size = 4 := rfl
          omega
        omega
      have HFS := vl (napfs_any w w2.heap.size v4 _ fa fn fc FL w4 HF1.out hbase hw4 ho4 (by omega) (by omega) HPT.out.symm hs4)
      have HB4 := vl hb4
      clear ho4 hb4 hw4 hs4 hT4 HAP k0 k1 k2 k3 k4 j2
      go_wp2_with fail
      refine HFS.out.mono ?_
      rintro e w5 ⟨v5, rfl, ho5, hb5⟩
      have hb35 := HB4.out.trans hb5
      obtain ⟨l3', l4', hw5, hs5, hT5⟩ := HK3.out w5 hb35
      have hll5 : (unums m ++ ([32] ++ (unums p ++ [32, 69, 68, 71, 69, 47, 49, 13, 10])) ++ lineOf (unums ⟨#[104, 111, 115, 116]⟩, unums ho) ++ linesL (fdsOf FL)).length ≤ 100000 := by
        rw [List.length_append]
        omega
      obtain ⟨L5, hL5⟩ : ∃ L5, unums m ++ ([32] ++ (unums p ++ [32, 69, 68, 71, 69, 47, 49, 13, 10])) ++ lineOf (unums ⟨#[104, 111, 115, 116]⟩, unums ho) ++ linesL (fdsOf FL) = L5 := ⟨_, rfl⟩
      rw [hL5] at ho5 hll5
      have HN5 : Vl (AO = L5 ++ tailL B) := by
        show AO = _
        rw [HN.out, ← hL5]
        rfl
      have HO5 := vl ho5
      have HB5 := vl hb35
      clear HFS HN hL5 ho5 hb5 hb35 HB4 hll hL4 hL3 hsz HF
      by_cases hb0 : bn = 0
      · have hB : B = [] := List.eq_nil_of_length_eq_zero (by omega)
        subst hB
        subst hb0
        have HA5 := vl (HBo.out.below hw5)
        clear hw5
        go_wp2_with (at_builtin; refine wpList_uapps _ rfl _ _ rfl w2.heap.size _ _ rfl HO5.out _ rfl [13, 10] rfl (by simp; omega) hs5 ?_)
        intro v6 w6 ho6 hg6
        have HO6 := vl ho6
        have HB6 := vl (u_below_grown HB5.out hg6 hs5 (fun k hk => (HO5.out.base k hk).1))
        obtain ⟨_, l4'', hw6, hs6, _⟩ := HK3.out w6 HB6.out
        have HA6 := vl (HBo.out.below hw6)
        clear ho6 hg6 hw6
        go_wp2_with (at_builtin; refine wpList_uapp _ rfl _ _ rfl w2.heap.size _ _ rfl HO6.out ba 0 bc [] rfl HA6.out (fun h => (HNI.out h).2) (by simp; omega) hs6 ?_)
        intro v7 w7 ho7 hg7
        have HO7 := vl ho7
        have HB7 := vl (u_below_grown HB6.out hg7 hs6 (fun k hk => (HO6.out.base k hk).1))
        clear ho7 hg7
        go_wp2
        go_ret2
        refine ⟨_, rfl, ?_, HB3'.out.trans (HB7.out.mono hbase)⟩
        rw [HN5.out]
        have := HO7.out.mono hbase
        simpa [tailL] using this
      · have hb0' : (0 : Int) < (bn : Int) := by omega
        have hBne : B ≠ [] := fun e => by rw [e] at hbl; simp at hbl; omega
        have HAL := vl (napl_any w2.heap.size v5 L5 ba bn bc w5 HO5.out (by omega) (by omega) hs5 hT5)
        clear hw5
        go_wp2_with fail
        refine HAL.out.mono ?_
        rintro e wl ⟨vl5, rfl, hol, hbl5⟩
        have HOL := vl hol
        have HBL : Vl (Below w2.heap.size w3 wl) := HB5.out.trans hbl5
        obtain ⟨_, l4l, hwl, hsl, _⟩ := HK3.out wl HBL.out
        have hdl := decL_le bn
        have hlll : (L5 ++ lineOf (lengthN, decL bn)).length ≤ 200000 := by
          rw [List.length_append]
          unfold lineOf lengthN
          simp
          omega
        clear hol hbl5 HAL hwl
        go_wp2_with (at_builtin; refine wpList_uapps _ rfl _ _ rfl w2.heap.size _ _ rfl HOL.out _ rfl [13, 10] rfl (by simp at hlll ⊢; omega) hsl ?_)
        intro v6 w6 ho6 hg6
        have HO6 := vl ho6
        have HB6 := vl (u_below_grown HBL.out hg6 hsl (fun k hk => (HOL.out.base k hk).1))
        obtain ⟨_, l4'', hw6, hs6, _⟩ := HK3.out w6 HB6.out
        have HA6 := vl (HBo.out.below hw6)
        clear ho6 hg6 hw6
        go_wp2_with (at_builtin; refine wpList_uapp _ rfl _ _ rfl w2.heap.size _ _ rfl HO6.out ba bn bc B rfl HA6.out (fun h => (HNI.out h).2) (by simp at hlll ⊢; omega) hs6 ?_)
        intro v7 w7 ho7 hg7
        have HO7 := vl ho7
        have HB7 := vl (u_below_grown HB6.out hg7 hs6 (fun k hk => (HO6.out.base k hk).1))
        clear ho7 hg7
        go_wp2
        go_ret2
        refine ⟨_, rfl, ?_, HB3'.out.trans (HB7.out.mono hbase)⟩
        rw [HN5.out]
        have := HO7.out.mono hbase
        simpa [tailL, hBne, lenLine, lineOf, hbl] using this
    · rw [errW_ne hE] at HC
      have HX := vl hE
      have HN := vl (HAO.out hE)
      clear hE HAO HAO0
      go_wp2_with fail
      refine HC.out.mono ?_
      rintro e w2 ⟨rfl, hb2⟩
      have HB2 := vl (HBW.out.trans (hb2.mono HBW.out.size))
      clear hb2 HC
      go_wp2
      go_ret2
      exact ⟨_, by rw [errW_ne HX.out]; rfl, Or.inl ⟨rfl, HN.out⟩, HB2.out⟩
theorem nask_any : NAskSaid nld := by
  intro q w hd h
  by_cases hbad : muchB q.fn q.bn = true ∨ tokL (unums q.m) = false ∨ wordL (unums q.p) = false
  · exact nask_bad q w h hbad
  · have h1 : muchB q.fn q.bn = false := by cases hx : muchB q.fn q.bn; rfl; exact absurd (Or.inl hx) hbad
    have h2 : tokL (unums q.m) = true := by cases hx : tokL (unums q.m); exact absurd (Or.inr (Or.inl hx)) hbad; rfl
    have h3 : wordL (unums q.p) = true := by cases hx : wordL (unums q.p); exact absurd (Or.inr (Or.inr hx)) hbad; rfl
    exact nask_good q w h hd h1 h2 h3
end Go.Proofs.YtglmppadhlkkgagGreatDoor
