/-
  MESSAGES AS LINES: the developers' writer: isTaken, tooMuch, appendField, appendFields, appendLength, checkFields. No claim by itself.
-/
import Derived.Test.YtdlaaollamgplagGreatDoorNdv4X
import Derived.Test.YtdlaaollamgplagGreatDoorNlinesX
import Derived.Test.YtdlaaollamgplagGreatDoorNitoaX
import Derived.Test.YtdlaaollamgplagGreatDoorG2
namespace Go.Proofs.YtdlaaollamgplagGreatDoor
open Go Go.RowKit Go.Shelf
set_option maxRecDepth 100000
def takenB (n : ByteArray) : Bool := decide (unums n = hostN ∨ unums n = lengthN ∨ unums n = codingN)
theorem ntaken_any (n : ByteArray) (w : World) : Calls Tryz.prog 168 #[.string n] w fun e w' => e = .returned (.bool (takenB n)) ∧ w = w' := by
  by_cases q1 : n.toList = [104, 111, 115, 116]
  · have e : takenB n = true := decide_eq_true (Or.inl (toL_host.1 q1))
    rw [e]
    go_enter Tryz.func168, Tryz.ntmps168
    go_wp2
    go_ret
    exact ⟨rfl, rfl⟩
  · have q1' : (n.toList == [104, 111, 115, 116]) = false := by simpa using q1
    by_cases q2 : n.toList = [108, 101, 110, 103, 116, 104]
    · have e : takenB n = true := decide_eq_true (Or.inr (Or.inl (toL_length.1 q2)))
      rw [e]
      go_enter Tryz.func168, Tryz.ntmps168
      go_wp2
      go_ret
      exact ⟨rfl, rfl⟩
    · have q2' : (n.toList == [108, 101, 110, 103, 116, 104]) = false := by simpa using q2
      by_cases q3 : n.toList = [99, 111, 100, 105, 110, 103]
      · have e : takenB n = true := decide_eq_true (Or.inr (Or.inr (toL_coding.1 q3)))
        rw [e]
        go_enter Tryz.func168, Tryz.ntmps168
        go_wp2
        go_ret
        exact ⟨rfl, rfl⟩
      · have q3' : (n.toList == [99, 111, 100, 105, 110, 103]) = false := by simpa using q3
        have e : takenB n = false := decide_eq_false (by
          rintro (h | h | h)
          · exact q1 (toL_host.2 h)
          · exact q2 (toL_length.2 h)
          · exact q3 (toL_coding.2 h))
        rw [e]
        go_enter Tryz.func168, Tryz.ntmps168
        go_wp2
        go_ret
        exact ⟨rfl, rfl⟩
def muchB (fn bn : Nat) : Bool := decide (40 < fn ∨ 8000 < bn)
theorem ntoo_any (fa ba : Option Addr) (fn fc bn bc : Nat) (w : World) : Calls Tryz.prog 99 #[.slice fa fn fc, .slice ba bn bc] w fun e w' => e = .returned (.bool (muchB fn bn)) ∧ w = w' := by
  by_cases h1 : 40 < fn
  · have e : muchB fn bn = true := decide_eq_true (Or.inl h1)
    have h1' : (40 : Int) < (fn : Int) := by omega
    rw [e]
    go_enter Tryz.func99, Tryz.ntmps99
    go_wp2
    go_ret
    exact ⟨rfl, rfl⟩
  · have h1' : ¬ (40 : Int) < (fn : Int) := by omega
    by_cases h2 : 8000 < bn
    · have e : muchB fn bn = true := decide_eq_true (Or.inr h2)
      have h2' : (8000 : Int) < (bn : Int) := by omega
      rw [e]
      go_enter Tryz.func99, Tryz.ntmps99
      go_wp2
      go_ret
      exact ⟨rfl, rfl⟩
    · have e : muchB fn bn = false := decide_eq_false (by omega)
      have h2' : ¬ (8000 : Int) < (bn : Int) := by omega
      rw [e]
      go_enter Tryz.func99, Tryz.ntmps99
      go_wp2
      go_ret
      exact ⟨rfl, rfl⟩
theorem napf_grown (base : Nat) (v : Value) (L : List Int) (n s : ByteArray) (w : World) (ho : UOwn w base v L) (hL : L.length ≤ 1000000) (hn : n.size ≤ 10000) (hs : s.size ≤ 10000) (hb : base ≤ w.heap.size) :
    Calls Tryz.prog 105 #[v, .string n, .string s] w fun e w' => ∃ v', e = .returned v' ∧ UOwn w' base v' (L ++ lineOf (unums n, unums s)) ∧ Below base w w' ∧ w.grownBy w' v.ownBlock := by
  have HO := vl ho
  have HN : Vl (unums (n ++ ⟨#[58, 32]⟩ ++ s ++ ⟨#[13, 10]⟩) = lineOf (unums n, unums s)) := by
    show unums _ = _
    simp only [unums_app]
    rw [show unums ⟨#[58, 32]⟩ = [58, 32] from rfl, show unums ⟨#[13, 10]⟩ = [13, 10] from rfl]
    simp [lineOf]
  have hsz : (lineOf (unums n, unums s)).length ≤ 20004 := by
    unfold lineOf
    simp [unums_len]
    omega
  clear ho
  go_enter Tryz.func105, Tryz.ntmps105
  go_wp2_with (at_builtin; refine wpList_uapps _ rfl _ _ rfl base _ _ rfl HO.out _ rfl _ HN.out (by omega) hb ?_)
  intro v2 w2 ho2 hg2
  have HO2 := vl ho2
  have HB2 := vl (u_below_grown (Below.refl base w) hg2 hb (fun k hk => (HO.out.base k hk).1))
  have HG2 := vl hg2
  clear ho2 hg2
  go_wp2
  go_ret
  exact ⟨_, rfl, HO2.out, HB2.out, HG2.out⟩
theorem napf_any (base : Nat) (v : Value) (L : List Int) (n s : ByteArray) (w : World) (ho : UOwn w base v L) (hL : L.length ≤ 1000000) (hn : n.size ≤ 10000) (hs : s.size ≤ 10000) (hb : base ≤ w.heap.size) :
    Calls Tryz.prog 105 #[v, .string n, .string s] w fun e w' => ∃ v', e = .returned v' ∧ UOwn w' base v' (L ++ lineOf (unums n, unums s)) ∧ Below base w w' := by
  refine (napf_grown base v L n s w ho hL hn hs hb).mono ?_
  rintro e w' ⟨v', rfl, h1, h2, _⟩
  exact ⟨v', rfl, h1, h2⟩
theorem napl_any (base : Nat) (v : Value) (L : List Int) (ba : Option Addr) (bn bc : Nat) (w : World) (ho : UOwn w base v L) (hL : L.length ≤ 1000000) (hn : bn ≤ 8000) (hb : base ≤ w.heap.size) (hT : NLaid w) :
    Calls Tryz.prog 107 #[v, .slice ba bn bc] w fun e w' => ∃ v', e = .returned v' ∧ UOwn w' base v' (L ++ lineOf (lengthN, decL bn)) ∧ Below base w w' := by
  have H1 := vl (nitoa_any bn (by omega) w hT)
  have HO := vl ho
  clear ho hT
  go_enter Tryz.func107, Tryz.ntmps107
  go_wp2_with fail
  refine H1.out.mono ?_
  rintro e w1 ⟨s, rfl, hs, hb1⟩
  have hss : s.size ≤ 10000 := by rw [← unums_len, hs]; have := decL_le bn; omega
  have H2 := vl (napf_any base v L ⟨#[108, 101, 110, 103, 116, 104]⟩ s w1 (HO.out.below hb1) hL (by decide) hss (Nat.le_trans hb hb1.size))
  have HB1 := vl hb1
  have HS := vl hs
  clear H1 hb1 hs
  go_wp2_with fail
  refine H2.out.mono ?_
  rintro e w2 ⟨v2, rfl, ho2, hb2⟩
  have HO2 := vl ho2
  have HB2 := vl hb2
  clear H2 ho2 hb2
  go_wp2
  go_ret
  refine ⟨_, rfl, ?_, (HB1.out.mono hb).trans HB2.out⟩
  have := HO2.out
  rw [HS.out] at this
  exact this
set_option maxHeartbeats 2000000 in
theorem napfs_any (w0 : World) (base : Nat) (v : Value) (L : List Int) (fa : Option Addr) (fn fc : Nat) (FL : List (ByteArray × ByteArray)) (w : World) (hA : FArg w0 fa fn fc FL) (hw0 : w0.heap.size ≤ base) (hbel : Below w0.heap.size w0 w) (ho : UOwn w base v L) (hL : L.length ≤ 10000) (hm : fn ≤ 40) (he : fldsE (fdsOf FL) = 0) (hb : base ≤ w.heap.size) :
    Calls Tryz.prog 106 #[v, .slice fa fn fc] w fun e w' => ∃ v', e = .returned v' ∧ UOwn w' base v' (L ++ linesL (fdsOf FL)) ∧ Below base w w' := by
  have hlen := hA.len
  have HA := vl hA
  have HE := vl he
  have HO := vl ho
  have HBL := vl hbel
  clear hA he ho hbel
  go_enter Tryz.func106, Tryz.ntmps106
  go_wp2_with fail
  go_loopw [0, 9] (fun x i wr => ∃ (k : Nat), i = .int .i64 k ∧ k ≤ fn ∧ Vl (UOwn wr base x (L ++ linesL ((fdsOf FL).take k))) ∧ Vl (Below base w wr)) (fun _ i _ => fn - (intOf i).toNat)
  case atStart => exact ⟨0, rfl, by omega, by show UOwn _ _ _ _; simpa [linesL] using HO.out, Below.refl _ _⟩
  case round =>
    obtain ⟨k, rfl, hk, HU, HB⟩ := hrel
    by_cases hlt : k < fn
    · rcases (HA.out.below (HBL.out.trans (HB.out.mono hw0))) with ⟨h0, _⟩ | ⟨g, off, rfl, hr⟩
      · omega
      have c1 := hr.hname k hlt
      have c2 := hr.hvalue k hlt
      have hcap := hr.hcap
      have hlt' : (k : Int) < (fn : Int) := by omega
      have HT := vl (fds_take (L := FL) (k := k) (by omega))
      obtain ⟨⟨n, s⟩, hf⟩ : ∃ f, FL.getD k fnone = f := ⟨_, rfl⟩
      rw [hf] at c1 c2 HT
      have hgood : fldE (unums n, unums s) = 0 ∧ fldsE ((fdsOf FL).take k) = 0 := by
        have h9 := HE.out
        rw [← List.take_append_drop (k + 1) (fdsOf FL), flds_app, HT.out, flds_app] at h9
        exact ⟨(flds_cons.1 h9.1.2).1, h9.1.1⟩
      have hn1 : n.size ≤ 10000 := by
        have := (name_small (fld_ok hgood.1).1).2.1
        rw [unums_len] at this
        omega
      have hv1 : s.size ≤ 10000 := by
        have := (plain_ok (fld_ok hgood.1).2.1).1
        rw [unums_len] at this
        omega
      have hll := lines_le hgood.2
      rw [List.length_take] at hll
      have hsz : (L ++ linesL ((fdsOf FL).take k)).length ≤ 1000000 := by
        rw [List.length_append]
        omega
      have hbw : Below wr.heap.size wr (wr.alloc (.cells #[.string n, .string s] 51)) := (Below.refl _ _).alloc (Nat.le_refl _) _
      have hbs : base ≤ wr.heap.size := Nat.le_trans hb HB.out.size
      have H1 := vl (napf_any base _ _ n s _ (HU.out.below hbw) hsz hn1 hv1 (Nat.le_trans hbs hbw.size))
      have HB1 : Vl (Below base w (wr.alloc (.cells #[.string n, .string s] 51))) := HB.out.trans (hbw.mono hbs)
      obtain ⟨d0, d1, _, _⟩ := f2_cell (heap_alloc_new wr (.cells #[.string n, .string s] 51 (0, 0)))
      clear hf hr hgood hll hsz hbw
      go_wp2_with fail
      refine H1.out.mono ?_
      rintro e w1 ⟨v1, rfl, ho1, hb1⟩
      have HO1 : Vl (UOwn w1 base v1 (L ++ linesL ((fdsOf FL).take (k + 1)))) := by
        show UOwn _ _ _ _
        rw [HT.out, lines_snoc, ← List.append_assoc]
        exact ho1
      have HB2 : Vl (Below base w w1) := HB1.out.trans hb1
      clear ho1 hb1 H1 HB1 d0 d1
      go_wp2
      go_roundw
      case rel => exact ⟨k + 1, by go_num, by omega, HO1.out, HB2.out⟩
      case measure => simp [intOf]; omega
    · have hlt' : ¬ ((k : Int) < (fn : Int)) := by omega
      have HX : Vl ((fdsOf FL).take k = fdsOf FL) := List.take_of_length_le (by rw [fds_len]; omega)
      go_wp2
      go_ret
      refine ⟨_, rfl, ?_, HB.out⟩
      have := HU.out
      rw [HX.out] at this
      exact this
end Go.Proofs.YtdlaaollamgplagGreatDoor
