/-
  WHERETO: the developers' Print. No claim by itself.
-/
import Derived.Test.YtmjdfbbhlbecdaaDoorWh8
namespace Go.Proofs.YtmjdfbbhlbecdaaDoor
open Go Go.RowKit
set_option maxRecDepth 100000
theorem word_le {s : List Int} (h : wordL s = true) : s.length ≤ 400 := by
  unfold wordL plainL at h
  simp only [Bool.and_eq_true, Bool.or_eq_true, decide_eq_true_eq, Bool.not_eq_true'] at h
  rcases h.1.2.2 with h2 | h2
  · rw [List.isEmpty_iff.1 h2]; simp
  · exact h2.1.1
theorem tok_le {s : List Int} (h : tokL s = true) : s.length ≤ 400 := by
  unfold tokL at h
  simp only [Bool.and_eq_true, decide_eq_true_eq] at h
  exact h.2
theorem lineR_len {r : Rt} (h : rtOk r = true) : (lineR r).length ≤ 1300 := by
  obtain ⟨h1, h2, h3⟩ := rtOk_parts h
  have e2 := word_le h2
  have e3 := tok_le h3
  have e1 : (if r.1 = [] then [42] else r.1).length ≤ 400 := by
    split
    · simp
    · rename_i e
      rcases h1 with h1 | h1
      · exact absurd h1 e
      · exact word_le h1.1
  unfold lineR
  rw [List.length_append, List.length_append, List.length_append, List.length_append, List.length_append]
  simp
  omega
theorem printL_len {L : List Rt} (hc : chkR L = 0) : ∀ k, k ≤ L.length → (printL (L.take k)).length ≤ k * 1300
  | 0, _ => by simp [printL]
  | k + 1, h => by
    have ih := printL_len hc k (by omega)
    have := lineR_len (chk_at hc k (by omega)).1
    rw [printL_at L k (by omega), List.length_append]
    omega
/-- A builder that holds these numbers. -/
def BH (w : World) (b : Nat) (Z : List Int) : Prop := ∃ l : List UInt8, Lib.IsBuilder 54 5 b b (Lib.byteCells l) w ∧ (l.map fun c => (c.toNat : Int)) = Z
theorem BH.lt {w : World} {b : Nat} {Z : List Int} (h : BH w b Z) : b < w.heap.size := by
  obtain ⟨l, h | h, _⟩ := h
  · exact h.lt
  · exact h.lt
theorem isB_below {T e : TypeId} {b : Nat} {bs : List Value} {w w' : World} (h : Lib.IsBuilder T e b b bs w) (hb : Below w.heap.size w w') : Lib.IsBuilder T e b b bs w' := by
  have key : ∀ p, Lib.BuilderAt T e b b p bs w → Lib.BuilderAt T e b b p bs w' := by
    rintro p ⟨h1, v, h2, h3, h4⟩
    have hlt := (Array.getElem?_eq_some_iff.1 h2).1
    refine ⟨h1, v, (hb.block b hlt).trans h2, ?_, h4⟩
    exact h3.kept (row := none) ⟨hb.os, hb.tape, hb.output, hb.size, fun k hk _ => hb.block k hk⟩ (Classical.em _)
  rcases h with h | h
  · exact Or.inl (key _ h)
  · exact Or.inr (key _ h)
theorem BH.below {w w' : World} {b : Nat} {Z : List Int} (h : BH w b Z) (hb : Below w.heap.size w w') : BH w' b Z := by
  obtain ⟨l, h1, h2⟩ := h
  exact ⟨l, isB_below h1 hb, h2⟩
theorem strCells_is (s : ByteArray) : Lib.strCells s = Lib.byteCells s.data.toList := rfl
theorem BH.write {w : World} {b : Nat} {Z : List Int} (h : BH w b Z) (s : ByteArray) (hl : Z.length + s.size ≤ 140737488355328) :
    Calls Tryd.prog 21 #[.pointer (some ⟨b, 0, none⟩), .string s] w fun e w' => e = .returned (.tuple #[.int .i64 s.size, .nilIface]) ∧ BH w' b (Z ++ unums s) ∧ Below b w w' := by
  have hlt := h.lt
  obtain ⟨l, h1, h2⟩ := h
  have hll : (Lib.byteCells l).length = Z.length := by rw [Lib.byteCells_length, ← h2]; simp
  refine (bws_any b b _ s w h1 (by omega) (by omega)).mono ?_
  rintro e w' ⟨rfl, h3, h4⟩
  refine ⟨rfl, ⟨l ++ s.data.toList, ?_, ?_⟩, h4⟩
  · refine Or.inr ?_
    have : Lib.byteCells (l ++ s.data.toList) = Lib.byteCells l ++ Lib.strCells s := by rw [strCells_is]; simp [Lib.byteCells]
    rw [this]; exact h3
  · rw [List.map_append, h2]; rfl
theorem BH.text {w : World} {b : Nat} {Z : List Int} (h : BH w b Z) :
    Calls Tryd.prog 22 #[.pointer (some ⟨b, 0, none⟩)] w fun e w' => (∃ s, e = .returned (.string s) ∧ unums s = Z) ∧ Below b w w' := by
  have hlt := h.lt
  obtain ⟨l, h1, h2⟩ := h
  refine (bstr_any b b l w h1 (by omega)).mono ?_
  rintro e w' ⟨rfl, h4⟩
  exact ⟨⟨_, rfl, by rw [← h2]; unfold unums; simp⟩, h4⟩
theorem bh_new (w : World) : BH (w.alloc (.cells #[.pointer none, .slice none 0 0] 54)) w.heap.size [] := by
  refine ⟨[], Or.inl ⟨Nat.le_refl _, .slice none 0 0, heap_alloc_new w _, ⟨rfl, Or.inl ⟨rfl, rfl⟩⟩, by simp [Value.ownBlock]⟩, rfl⟩
def PrintE (L : List Rt) (e : Ending) : Prop := ∃ s, e = .returned (.tuple #[.string s, errW (chkR L)]) ∧ unums s = if chkR L = 0 then printL L else []
def hostS (x : ByteArray) : ByteArray := if x.toList = [] then ⟨#[42]⟩ else x
theorem un_line (x y z : ByteArray) : unums (hostS x ++ ⟨#[32]⟩ ++ y ++ ⟨#[32]⟩ ++ z ++ ⟨#[10]⟩) = lineR (rtO (x, y, z)) := by
  have e : unums (hostS x) = if unums x = [] then [42] else unums x := by
    unfold hostS
    by_cases h : x.toList = []
    · have h' : unums x = [] := un_lit.1 h
      rw [if_pos h, if_pos h']; rfl
    · have h' : ¬ unums x = [] := fun h2 => h (un_lit.2 h2)
      rw [if_neg h, if_neg h']
  rw [unums_app, unums_app, unums_app, unums_app, unums_app, e]
  unfold lineR rtO
  rw [show unums ⟨#[32]⟩ = [32] from rfl, show unums ⟨#[10]⟩ = [10] from rfl]
  simp
set_option maxHeartbeats 4000000 in
theorem wprint_row (g off len cap : Nat) (L : List Rb) (w : World) (hr : RtRow w g off len cap L) (hs : SzL L) :
    Calls Tryd.prog 10 #[.slice (some ⟨g, off, none⟩) len cap] w fun e w' => PrintE (rtsOf L) e ∧ Below w.heap.size w w' := by
  have HC := vl (wchk_any (some ⟨g, off, none⟩) len cap L w (Or.inr ⟨g, off, rfl, hr⟩) hs)
  have HR := vl hr
  have hcap := hr.hcap
  have hmax := hr.hmax
  unfold maxLen at hmax
  have HL := vl hr.hlen
  clear hr hs
  obtain ⟨E, hE⟩ : ∃ E, chkR (rtsOf L) = E := ⟨_, rfl⟩
  have HE := vl hE
  rw [hE] at HC
  clear hE
  by_cases e0 : E = 0
  · subst e0
    rw [errW_zero] at HC
    go_enter Tryd.func10, Tryd.ntmps10
    go_wp2_with fail
    refine HC.out.mono ?_
    rintro e w1 ⟨rfl, hb1⟩
    have HB1 := vl hb1
    have hsw : w.heap.size ≤ w1.heap.size := hb1.size
    clear HC hb1
    obtain ⟨W1, hW1⟩ : ∃ W1, W1 = w1.alloc (.cells #[.pointer none, .slice none 0 0] 54) := ⟨_, rfl⟩
    have HB2 : Vl (Below w.heap.size w W1) := by rw [hW1]; exact HB1.out.alloc HB1.out.size _
    have HN : Vl (BH W1 w1.heap.size []) := by rw [hW1]; exact bh_new w1
    go_wp2_with fail
    rw [← hW1]
    clear hW1
    go_loopw [16] (fun i wr => ∃ k : Nat, i = .int .i64 k ∧ k ≤ len ∧ Vl (BH wr w1.heap.size (printL ((rtsOf L).take k))) ∧ Vl (Below w.heap.size w wr)) (fun i _ => len - (intOf i).toNat)
    case atStart => exact ⟨0, rfl, by omega, HN.out, HB2.out⟩
    case round =>
      obtain ⟨k, rfl, hk, HK, HB⟩ := hrel
      by_cases hlt : k < len
      · have hlt' : (k : Int) < (len : Int) := by omega
        have hr2 := HR.out.below HB.out
        have c0 := hr2.h0 k hlt
        have c1 := hr2.h1 k hlt
        have c2 := hr2.h2 k hlt
        have HAT := vl (rts_at L k)
        have HOK := vl (lineR_len (chk_at HE.out k (by rw [rts_len, HL.out]; exact hlt)).1)
        have HST := vl (printL_at (rtsOf L) k (by rw [rts_len, HL.out]; exact hlt))
        have HLN := vl (printL_len HE.out k (by rw [rts_len, HL.out]; omega))
        have h20 := (chkR_le HE.out).1
        rw [rts_len, HL.out] at h20
        rw [HAT.out] at HOK HST
        generalize L.getD k rbn = f at *
        obtain ⟨x, y, z⟩ := f
        have HUL := vl (un_line x y z)
        obtain ⟨W3, hW3⟩ : ∃ W3, W3 = wr.alloc (.cells #[.string x, .string y, .string z] 33) := ⟨_, rfl⟩
        have HB3 : Vl (Below w.heap.size w W3) := by rw [hW3]; exact HB.out.alloc HB.out.size _
        have HBH : Vl (BH W3 w1.heap.size (printL ((rtsOf L).take k))) := by rw [hW3]; exact HK.out.below ((Below.refl _ wr).alloc (Nat.le_refl _) _)
        have HW := vl (HBH.out.write (hostS x ++ ⟨#[32]⟩ ++ y ++ ⟨#[32]⟩ ++ z ++ ⟨#[10]⟩) (by
          have h1 := HLN.out
          have h2 := HOK.out
          rw [← HUL.out, unums_len] at h2
          omega))
        rw [HUL.out, ← HST.out] at HW
        have hall : (hostS x).size + 1 + y.size + 1 + z.size + 1 ≤ 1300 := by
          have h2 := HOK.out
          rw [← HUL.out, unums_len] at h2
          simp only [ByteArray.size_append] at h2
          have e1 : (⟨#[32]⟩ : ByteArray).size = 1 := rfl
          have e2 : (⟨#[10]⟩ : ByteArray).size = 1 := rfl
          omega
        have HSW : Vl (w.heap.size ≤ w1.heap.size) := hsw
        clear hr2
        by_cases q : x.toList = []
        · have hx : hostS x = ⟨#[42]⟩ := by unfold hostS; rw [if_pos q]
          rw [hx] at HW hall
          clear hx
          have s1 : ¬ 9223372036854775807 < 2 + y.size := by have : (ByteArray.mk #[42]).size = 1 := rfl; omega
          have s2 : ¬ 9223372036854775807 < 2 + y.size + 1 := by have : (ByteArray.mk #[42]).size = 1 := rfl; omega
          have s3 : ¬ 9223372036854775807 < 2 + y.size + 1 + z.size := by have : (ByteArray.mk #[42]).size = 1 := rfl; omega
          have s4 : ¬ 9223372036854775807 < 2 + y.size + 1 + z.size + 1 := by have : (ByteArray.mk #[42]).size = 1 := rfl; omega
          clear hall
          go_wp2_with fail
          rw [← hW3]
          refine HW.out.mono ?_
          rintro e w4 ⟨rfl, hbh, hb4⟩
          have HB4 := vl (HB3.out.trans (hb4.mono HSW.out))
          have HH := vl hbh
          clear hb4 hbh hW3 HW
          go_wp2_with fail
          go_roundw
          case rel => exact ⟨k + 1, by go_num, by omega, HH, HB4⟩
          case measure => simp [intOf]; omega
        · have q' : (x.toList == []) = false := by simpa using q
          have hx : hostS x = x := by unfold hostS; rw [if_neg q]
          rw [hx] at HW hall
          clear hx
          have s0 : ¬ 9223372036854775807 < x.size + 1 := by omega
          have s1 : ¬ 9223372036854775807 < x.size + 1 + y.size := by omega
          have s2 : ¬ 9223372036854775807 < x.size + 1 + y.size + 1 := by omega
          have s3 : ¬ 9223372036854775807 < x.size + 1 + y.size + 1 + z.size := by omega
          have s4 : ¬ 9223372036854775807 < x.size + 1 + y.size + 1 + z.size + 1 := by omega
          clear hall
          go_wp2_with fail
          rw [← hW3]
          refine HW.out.mono ?_
          rintro e w4 ⟨rfl, hbh, hb4⟩
          have HB4 := vl (HB3.out.trans (hb4.mono HSW.out))
          have HH := vl hbh
          clear hb4 hbh hW3 HW
          go_wp2_with fail
          go_roundw
          case rel => exact ⟨k + 1, by go_num, by omega, HH, HB4⟩
          case measure => simp [intOf]; omega
      · have hke : k = len := by omega
        subst hke
        have HP : Vl (printL ((rtsOf L).take k) = printL (rtsOf L)) := by
          show _ = _
          rw [show k = (rtsOf L).length from by rw [rts_len, HL.out], List.take_length]
        rw [HP.out] at HK
        have HT := vl HK.out.text
        have HSW : Vl (w.heap.size ≤ w1.heap.size) := hsw
        go_wp2_with fail
        refine HT.out.mono ?_
        rintro e w5 ⟨⟨s, rfl, hs5⟩, hb5⟩
        have HF := vl (HB.out.trans (hb5.mono HSW.out))
        have HQ : Vl (PrintE (rtsOf L) (.returned (.tuple #[.string s, errW 0]))) := ⟨s, by rw [HE.out], by rw [hs5, if_pos HE.out]⟩
        clear hb5 hs5 HT
        go_wp2_with fail
        go_ret2
        exact ⟨HQ.out, HF.out⟩
  · have HQ : Vl (PrintE (rtsOf L) (.returned (.tuple #[.string ⟨#[]⟩, errW E]))) := ⟨_, by rw [HE.out], by rw [HE.out, if_neg e0]; rfl⟩
    rw [errW_pos e0] at HC HQ
    go_enter Tryd.func10, Tryd.ntmps10
    go_wp2_with fail
    refine HC.out.mono ?_
    rintro e w1 ⟨rfl, hb1⟩
    have HB1 := vl hb1
    clear HC hb1
    go_wp2_with fail
    go_ret2
    exact ⟨HQ.out, HB1.out⟩
theorem wprint_any (a : Option Addr) (len cap : Nat) (L : List Rb) (w : World) (hA : RtArg w a len cap L) (hs : SzL L) :
    Calls Tryd.prog 10 #[.slice a len cap] w fun e w' => PrintE (rtsOf L) e ∧ Below w.heap.size w w' := by
  rcases hA with ⟨rfl, rfl⟩ | ⟨g, off, rfl, hr⟩
  · have HC := vl (wchk_any a 0 cap [] w (Or.inl ⟨rfl, rfl⟩) hs)
    have e : chkR (rtsOf []) = 0 := rfl
    rw [e, errW_zero] at HC
    go_enter Tryd.func10, Tryd.ntmps10
    go_wp2_with fail
    refine HC.out.mono ?_
    rintro e w1 ⟨rfl, hb1⟩
    have HB1 := vl hb1
    have HSW : Vl (w.heap.size ≤ w1.heap.size) := hb1.size
    clear HC hb1
    obtain ⟨W1, hW1⟩ : ∃ W1, W1 = w1.alloc (.cells #[.pointer none, .slice none 0 0] 54) := ⟨_, rfl⟩
    have HB2 : Vl (Below w.heap.size w W1) := by rw [hW1]; exact HB1.out.alloc HB1.out.size _
    have HN : Vl (BH W1 w1.heap.size []) := by rw [hW1]; exact bh_new w1
    have HT := vl HN.out.text
    go_wp2_with fail
    rw [← hW1]
    clear hW1
    go_loopw [16] (fun i wr => i = .int .i64 0 ∧ wr = W1) (fun _ _ => 0)
    case atStart => exact ⟨rfl, rfl⟩
    case round =>
      obtain ⟨rfl, rfl⟩ := hrel
      go_wp2_with fail
      refine HT.out.mono ?_
      rintro e w5 ⟨⟨s, rfl, hs5⟩, hb5⟩
      have HF := vl (HB2.out.trans (hb5.mono HSW.out))
      have HQ : Vl (PrintE (rtsOf []) (.returned (.tuple #[.string s, errW 0]))) := ⟨s, rfl, by rw [hs5]; rfl⟩
      clear hb5 hs5 HT
      go_wp2_with fail
      go_ret2
      exact ⟨HQ.out, HF.out⟩
  · exact wprint_row g off len cap L w hr hs
end Go.Proofs.YtmjdfbbhlbecdaaDoor
